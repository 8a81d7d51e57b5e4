/-
  The contract of the iterator of package pat's plans: it tells, rising, the lengths of those beginnings that the plan matches, as long as the loop's body goes on.
-/
import Derived.Test.YtmpneifjjnfckaaPmAfter
import Derived.Test.YtmpneifjjnfckaaMidIn
import Derived.RangeFuncNested
import Derived.RangeFuncBound
import Derived.RangeFuncCalls
import Derived.RangeFuncLeaves
import Derived.Shelf.Abstract
import Derived.Shelf.RegionOpen
import Derived.OwnWalkIn
import Derived.TacticsInMore
import Derived.LoopNIn
import Derived.LoopIn
import Derived.Deep.RegionWith
namespace Go.Proofs.Ytmpneifjjnfckaa
open Go.RowKit Go.Shelf

/-- what a round keeps: all but the loop's record l and the variable r -/
structure Kx (l r : Nat) (w w' : World) : Prop where
  os : w'.os = w.os
  tape : w'.tape = w.tape
  output : w'.output = w.output
  size : w.heap.size ≤ w'.heap.size
  block : ∀ k, k < w.heap.size → k ≠ l → k ≠ r → w'.heap[k]? = w.heap[k]?
section
variable {w w' : World} {l r : Nat}
theorem BlkAt.kx {b : Nat} {cs : Array Value} {t : TypeId} (h : BlkAt w b cs t) (k : Kx l r w w') (h1 : b ≠ l) (h2 : b ≠ r) : BlkAt w' b cs t := (k.block b h.lt h1 h2).trans h
theorem own_kx {base n : Nat} {e : TypeId} {size : Nat} {v : Value} {xs : List Value} (h : w.ownsRow base e size v n xs) (k : Kx l r w w') (h1 : v.ownBlock ≠ some l) (h2 : v.ownBlock ≠ some r) : w'.ownsRow base e size v n xs := by
  rcases h.2 with h0 | ⟨g, cap, cur, rfl, g1, g2, g3⟩
  · exact ⟨h.1, .inl h0⟩
  · have hlt : g < w.heap.size := by
      rcases Nat.lt_or_ge g w.heap.size with hlt | hge
      · exact hlt
      · rw [Array.getElem?_eq_none hge] at g2; cases g2
    exact ⟨h.1, .inr ⟨g, cap, cur, rfl, g1, (k.block g hlt (fun e => h1 (by rw [e]; rfl)) (fun e => h2 (by rw [e]; rfl))).trans g2, g3⟩⟩
end

section
variable {x w9 : World} {b0 M : Nat} {T G D R N : Value} {gs : List Bool} {fs : List (Nat → Bool)} {ds nx : List Nat}
theorem AftS.belowM (h : AftS x w9 b0 M T G D N R gs fs ds nx) (hN : ∀ b, N.ownBlock = some b → M ≤ b) (hz : M ≤ x.heap.size) : Below M x w9 :=
  ⟨h.grow.os, h.grow.tape, h.grow.output, h.grow.size, fun k hk => h.grow.block k (by omega) (fun e => by have := hN k e.symm; omega)⟩
theorem AftS.sepD {gD n c : Nat} (h : AftS x w9 b0 M T G (.slice (some ⟨gD, 0, none⟩) n c) N R gs fs ds nx) : (Value.slice (some ⟨gD, 0, none⟩) n c).ownBlock = none ∨ (Value.slice (some ⟨gD, 0, none⟩) n c).ownBlock ≠ R.ownBlock := by
  right
  intro e
  have e2 : R.ownBlock = some gD := e.symm
  rcases h.at_ with k | k
  · rw [k] at e2
    rcases h.sep with q | q
    · rw [q] at e2; cases e2
    · exact q e2
  · have h1 := k gD e2
    have h2 := h.ownD gD rfl
    omega
end
theorem rise_len : ∀ (ds : List Nat) (lo K : Nat), ds.Pairwise (· < ·) → (∀ x ∈ ds, lo ≤ x ∧ x ≤ K) → lo ≤ K + 1 → ds.length + lo ≤ K + 1
  | [], _, _, _, _, h => by simpa using h
  | d :: ds, lo, K, hp, hb, _ => by
    rw [List.pairwise_cons] at hp
    have h1 := hb d (by simp)
    have := rise_len ds (d + 1) K hp.2 (fun x hx => ⟨hp.1 x hx, (hb x (List.mem_cons_of_mem _ hx)).2⟩) (by omega)
    simp only [List.length_cons]
    omega
theorem RiseOk.len {K : Nat} {ds : List Nat} (h : RiseOk K ds) : ds.length ≤ K + 1 := by
  have := rise_len ds 0 K h.rise (fun x hx => ⟨Nat.zero_le _, h.le x hx⟩) (Nat.zero_le _)
  omega

set_option maxHeartbeats 16000000 in
set_option maxRecDepth 100000 in
theorem iter_is (m l r bm bs b0 M : Nat) (aT : Option Addr) (cT gG cG : Nat) (gs : List Bool) (fs : List (Nat → Bool)) (s : ByteArray) (hs : s.size ≤ 1048576) (hl : gs.length = fs.length + 1) (hfl : fs.length ≤ 1048576) (go : Nat → Bool) (J Jx : List Nat → World → Prop)
    (hJ : ∀ pre W W', J pre W → Below M W W' → J pre W') (hJx : ∀ pre W W', Jx pre W → Below M W W' → Jx pre W')
    (hY : ∀ pre (x : Nat) W, J pre W → x ≤ s.size → YieldAt Fence.wide m Try.prog l #[.int .i64 (x : Int)] W fun e W' => e = .returned (.bool (go x)) ∧ Kx l r W W' ∧ (go x = true → J (pre ++ [x]) W') ∧ (go x = false → Jx (pre ++ [x]) W'))
    (hlM : l < M) (hrM : r < M) (hbm : bm ≠ l ∧ bm ≠ r ∧ bm < M) (hbs : bs ≠ l ∧ bs ≠ r ∧ bs < M) (hTl : ∀ b, (Value.slice aT fs.length cT).ownBlock = some b → b ≠ l ∧ b ≠ r ∧ b < M) (hGl : gG ≠ l ∧ gG ≠ r ∧ gG < M)
    (w : World) (hM : M = w.heap.size) (hB : BlkAt w bm #[.slice aT fs.length cT, .slice (some ⟨gG, 0, none⟩) gs.length cG] 42) (hSt : BlkAt w bs #[.string s] 9) (hP : PlanAt w b0 (.slice aT fs.length cT) (.slice (some ⟨gG, 0, none⟩) gs.length cG) gs fs) (h0 : J [] w) :
    Calls Try.prog 33 #[.func (.yield l) #[] #[], .pointer (some ⟨bm, 0, none⟩), .pointer (some ⟨bs, 0, none⟩)] w fun e W' => (∃ v, e = .returned v) ∧ ((J (lensL gs fs s.data.toList) W' ∧ ∀ x ∈ lensL gs fs s.data.toList, go x = true) ∨ ∃ pre x, pre ++ [x] <+: lensL gs fs s.data.toList ∧ (∀ y ∈ pre, go y = true) ∧ go x = false ∧ Jx (pre ++ [x]) W') := by
  have hP1 : PlanAt (w.alloc (.cells #[.int .i64 0] 3)) b0 (.slice aT fs.length cT) (.slice (some ⟨gG, 0, none⟩) gs.length cG) gs fs := ⟨hP.1.alloc _, hP.2.alloc _⟩
  have hB1 := hB.alloc (.cells #[.int .i64 0] 3)
  have hSt1 := hSt.alloc (.cells #[.int .i64 0] 3)
  have hJ1 : J [] (w.alloc (.cells #[.int .i64 0] 3)) := hJ [] _ _ h0 ((Below.refl M w).alloc (by omega) _)
  have hD1 : (w.alloc (.cells #[.int .i64 0] 3)).ownsRow M 3 1 (.slice (some ⟨w.heap.size, 0, none⟩) 1 1) 1 ([0].map intV) := World.ownsRow_lit w #[.int .i64 0] 1 (by omega) (by decide) rfl
  have hz1 : M ≤ (w.alloc (.cells #[.int .i64 0] 3)).heap.size := by simp; omega
  have HM := Lib.hid hM
  clear hB hSt hP h0 hM
  obtain ⟨xs, hxs⟩ : ∃ xs, lensL gs fs s.data.toList = xs := ⟨_, rfl⟩
  rw [hxs]
  have HX := Lib.hid hxs
  clear hxs
  have HL := Lib.hid hl
  have hgl : fs.length < gs.length := by omega
  clear hl
  have HY := Lib.hid hY
  clear hY
  go_enter Try.func33, Try.ntmps33
  go_wp2
  go_loopw [4, 5, 6] (fun y z i wr => ∃ (n : Nat) (ds : List Nat) (aD aS : Option Addr) (cD nS cS : Nat) (xS : List Value), n ≤ s.size ∧ i = .int .i64 (n : Int) ∧ y = .slice aD ds.length cD ∧ z = .slice aS nS cS ∧ BlkAt wr bm #[.slice aT fs.length cT, .slice (some ⟨gG, 0, none⟩) gs.length cG] 42 ∧ BlkAt wr bs #[.string s] 9 ∧ PlanAt wr b0 (.slice aT fs.length cT) (.slice (some ⟨gG, 0, none⟩) gs.length cG) gs fs ∧ wr.ownsRow M 3 1 (.slice aD ds.length cD) ds.length (ds.map intV) ∧ wr.ownsRow M 3 1 (.slice aS nS cS) nS xS ∧ ((Value.slice aS nS cS).ownBlock = none ∨ (Value.slice aS nS cS).ownBlock ≠ (Value.slice aD ds.length cD).ownBlock) ∧ M ≤ wr.heap.size ∧ J (lensTo gs fs s.data.toList n) wr ∧ Hid (ds = dn gs fs s.data.toList n ∧ ∀ x ∈ lensTo gs fs s.data.toList n, go x = true)) (fun _ _ i _ => s.size + 1 - (intOf i).toNat)
  case atStart => exact ⟨0, [0], some ⟨w.heap.size, 0, none⟩, none, 1, 0, 0, [], Nat.zero_le _, rfl, rfl, rfl, hB1, hSt1, hP1, hD1, World.ownsRow_nil _ _ _ _, .inl rfl, hz1, hJ1, Lib.hid ⟨rfl, fun x hx => by simp [lensTo] at hx⟩⟩
  case round =>
    clear hB1 hSt1 hP1 hJ1 hD1 hz1
    obtain ⟨n, ds, aD, aS, cD, nS, cS, xS, hn, rfl, rfl, rfl, hB, hSt, hP, hD, hSp, hsep, hz, hJn, HD⟩ := hrel
    have hrise := dn_all (HL.out) s.data.toList n (by rw [len_list]; exact hn)
    by_cases hds : ds.length = 0
    · -- no state is left
      have hnil : ds = [] := List.eq_nil_of_length_eq_zero hds
      have hx : lensTo gs fs s.data.toList n = xs := by
        rw [← HX.out]
        unfold lensL
        have := lensTo_stop gs fs s.data.toList (n := n) (s.data.toList.length + 1 - n) (fun k h1 h2 => dn_none HL.out _ n k h1 (by rw [len_list] at h2 ⊢; omega) (by rw [← HD.out.1]; exact hnil))
        rw [show n + (s.data.toList.length + 1 - n) = s.data.toList.length + 1 by rw [len_list]; omega] at this
        exact this.symm
      have h2 := HD.out.2
      rw [hx] at hJn h2
      have HJ := Lib.hid (And.intro hJn h2)
      clear hJn h2 hx hrise
      go_wp2
      refine bodyPost_end (results_none rfl _ _ _) rfl ?_
      exact ⟨⟨_, rfl⟩, .inl HJ.out⟩
    · -- a state is there
      obtain ⟨gD, rfl⟩ : ∃ gD, aD = some ⟨gD, 0, none⟩ := by
        rcases hD.2 with ⟨_, h0⟩ | ⟨g, cap, _, h0, _⟩
        · exact absurd h0 hds
        · injection h0 with h1 _ _; exact ⟨g, h1⟩
      have hrd : RiseOk fs.length ds := by rw [HD.out.1]; exact hrise.1
      have hdle : ∀ k ∈ ds, k ≤ fs.length := hrd.le
      have hdl : ds.length ≤ 1048577 := by have := hrd.len; omega
      obtain ⟨nl, hnl⟩ : ∃ nl, ds.length - 1 = nl := ⟨_, rfl⟩
      have hnlt : nl < ds.length := by omega
      have EN : (ds.length : Int) - 1 = (nl : Int) := by omega
      have hlti : (nl : Int) < (ds.length : Int) := by omega
      have hpos : (0 : Int) < (ds.length : Int) := by omega
      obtain ⟨d, hd⟩ : ∃ d, ds[nl] = d := ⟨_, rfl⟩
      have hlast : ds.getLast? = some d := by
        rw [List.getLast?_eq_getElem?, hnl, List.getElem?_eq_getElem hnlt, hd]
      have HB : Hid (d = fs.length ↔ lenB gs fs s.data.toList n = true) := Lib.hid (by
        rw [last_mem hrd d hlast, dn_len HL.out _ n (by rw [len_list]; exact hn), ← HD.out.1])
      have dc : wr.cell? ⟨gD, nl, none⟩ = some (.int .i64 (d : Int)) := by
        rw [hD.cellAt nl (by omega), List.getElem?_map, List.getElem?_eq_getElem hnlt, hd]; rfl
      clear hrise hlast hd hnl hds hrd
      by_cases hdK : d = fs.length
      · have eK : ((d : Int) == (fs.length : Int)) = true := by rw [hdK]; simp
        have HN : Hid (lenB gs fs s.data.toList n = true) := Lib.hid (HB.out.1 hdK)
        have HS : Hid (lensTo gs fs s.data.toList (n + 1) = lensTo gs fs s.data.toList n ++ [n]) := Lib.hid (by rw [lensTo_succ, HN.out]; rfl)
        have L0 : ∀ x : Later wr, x.at_.cell? ⟨gD, nl, none⟩ = some (.int .i64 (d : Int)) := fun x => cell_after dc x.below
        have L1 : ∀ x : Later wr, x.at_.cell? ⟨bm, 0, none⟩ = some (.slice aT fs.length cT) := fun x => (hB.after x.below).cell 0 rfl
        have fin : ∀ x : Later wr, BlkAt x.at_ bm #[.slice aT fs.length cT, .slice (some ⟨gG, 0, none⟩) gs.length cG] 42 ∧ BlkAt x.at_ bs #[.string s] 9 ∧ PlanAt x.at_ b0 (.slice aT fs.length cT) (.slice (some ⟨gG, 0, none⟩) gs.length cG) gs fs ∧ x.at_.ownsRow M 3 1 (.slice (some ⟨gD, 0, none⟩) ds.length cD) ds.length (ds.map intV) ∧ x.at_.ownsRow M 3 1 (.slice aS nS cS) nS xS ∧ M ≤ x.at_.heap.size ∧ J (lensTo gs fs s.data.toList n) x.at_ := fun x => ⟨hB.after x.below, hSt.after x.below, ⟨own_aft hP.1 x.below, own_aft hP.2 x.below⟩, own_aft hD x.below, own_aft hSp x.below, Nat.le_trans hz x.below.size, hJ _ _ _ hJn (x.below.mono hz)⟩
        have FIN := fun x => Lib.hid (fin x)
        clear fin hB hSt hP hD hSp hJn dc hz hdK
        go_wp2
        refine region_mid 13 (m + 1) _ rfl (by kernel_rfl) (by kernel_rfl) (by kernel_rfl) (by kernel_rfl) (by kernel_rfl) (by kernel_rfl) (by kernel_rfl) ?_
        simp only [List.take_succ_cons, List.take_zero, List.drop_succ_cons, List.drop_zero]
        repeat (go_big_quiet_step (fail))
        refine wpQuiet_nil ?_
        rintro _ ⟨q, rfl⟩
        obtain ⟨hB, hSt, hP, hD, hSp, hz, hJn⟩ := (FIN q).out
        clear FIN L0 L1
        generalize q.at_ = x3 at *
        obtain ⟨fn, tmps, assign, body, hy, hR⟩ := HY.out _ n x3 hJn hn
        have HRR := Lib.hid hR
        clear hR
        refine ⟨rfl, ?_⟩
        rw [Oper.semAt_none]
        go_simp
        refine HRR.out.mono ?_
        rintro ending W3 ⟨rfl, hk, hjT, hjF⟩
        have hB3 := hB.kx hk hbm.1 hbm.2.1
        have hSt3 := hSt.kx hk hbs.1 hbs.2.1
        have hP3 : PlanAt W3 b0 (.slice aT fs.length cT) (.slice (some ⟨gG, 0, none⟩) gs.length cG) gs fs := ⟨own_kx hP.1 hk (fun e => (hTl _ e).1 rfl) (fun e => (hTl _ e).2.1 rfl), own_kx hP.2 hk (fun e => by injection e with e; exact hGl.1 e) (fun e => by injection e with e; exact hGl.2.1 e)⟩
        have hD3 := own_kx hD hk (fun e => by have := (hD.lt _ e).1; omega) (fun e => by have := (hD.lt _ e).1; omega)
        have hSp3 := own_kx hSp hk (fun e => by have := (hSp.lt _ e).1; omega) (fun e => by have := (hSp.lt _ e).1; omega)
        have hz3 : M ≤ W3.heap.size := Nat.le_trans hz hk.size
        have HPre : Hid (lensTo gs fs s.data.toList n ++ [n] <+: xs) := Lib.hid (by
          rw [← HX.out, ← HS.out]
          unfold lensL
          have := lensTo_pre gs fs s.data.toList (s.data.toList.length - n) (n := n + 1)
          rw [show n + 1 + (s.data.toList.length - n) = s.data.toList.length + 1 by rw [len_list]; omega] at this
          exact this)
        clear hB hSt hP hD hSp hz hJn hk HRR hy
        obtain ⟨z, hzg⟩ : ∃ z, go n = z := ⟨_, rfl⟩
        have HZ := Lib.hid hzg
        rw [hzg] at hjT hjF
        rw [hzg]
        clear hzg
        cases z with
        | false =>
          have hjx := hjF rfl
          clear hjT hjF
          show wpQuiet _ _ _ _ _ _
          repeat (go_big_quiet_step (fail))
          refine wpQuiet_nil ?_
          intro q2
          have hjx2 := hJx _ _ _ hjx (q2.below.mono hz3)
          generalize q2.at_ = x4 at *
          go_wp2
          refine bodyPost_ret (results_none rfl _ _ _) rfl ?_
          exact ⟨⟨_, rfl⟩, .inr ⟨_, n, HPre.out, HD.out.2, HZ.out, hjx2⟩⟩
        | true =>
          have hJ3 := hjT rfl
          clear hjT hjF
          have HG : Hid (∀ x ∈ lensTo gs fs s.data.toList n ++ [n], go x = true) := Lib.hid fun x hx => by
            rcases List.mem_append.1 hx with h | h
            · exact HD.out.2 x h
            · rw [List.mem_singleton.1 h]; exact HZ.out
          show wpQuiet _ _ _ _ _ _
          have L2 : ∀ x : Later W3, x.at_.cell? ⟨bs, 0, none⟩ = some (.string s) := fun x => (hSt3.after x.below).cell 0 rfl
          have fin : ∀ x : Later W3, BlkAt x.at_ bm #[.slice aT fs.length cT, .slice (some ⟨gG, 0, none⟩) gs.length cG] 42 ∧ BlkAt x.at_ bs #[.string s] 9 ∧ PlanAt x.at_ b0 (.slice aT fs.length cT) (.slice (some ⟨gG, 0, none⟩) gs.length cG) gs fs ∧ x.at_.ownsRow M 3 1 (.slice (some ⟨gD, 0, none⟩) ds.length cD) ds.length (ds.map intV) ∧ x.at_.ownsRow M 3 1 (.slice aS nS cS) nS xS ∧ M ≤ x.at_.heap.size ∧ J (lensTo gs fs s.data.toList n ++ [n]) x.at_ := fun x => ⟨hB3.after x.below, hSt3.after x.below, ⟨own_aft hP3.1 x.below, own_aft hP3.2 x.below⟩, own_aft hD3 x.below, own_aft hSp3 x.below, Nat.le_trans hz3 x.below.size, hJ _ _ _ hJ3 (x.below.mono hz3)⟩
          have FIN := fun x => Lib.hid (fin x)
          clear fin hB3 hSt3 hP3 hD3 hSp3 hJ3 hz3
          by_cases hns : n = s.size
          · have hne : ((n : Int) == (s.size : Int)) = true := by rw [hns]; simp
            have HE : Hid (lensTo gs fs s.data.toList n ++ [n] = xs) := Lib.hid (by rw [← HX.out, ← HS.out]; unfold lensL; rw [len_list, hns])
            clear hns
            repeat (go_big_quiet_step (fail))
            refine wpQuiet_nil ?_
            intro q2
            have F := (FIN q2).out
            clear FIN L2
            generalize q2.at_ = x4 at *
            go_wp2
            refine bodyPost_ret (results_none rfl _ _ _) rfl ?_
            exact ⟨⟨_, rfl⟩, .inl ⟨by rw [← HE.out]; exact F.2.2.2.2.2.2, fun x hx => HG.out x (by rw [HE.out]; exact hx)⟩⟩
          · have hne : ((n : Int) == (s.size : Int)) = false := by rw [beq_eq_false_iff_ne]; omega
            repeat (go_big_quiet_step (fail))
            refine wpQuiet_nil ?_
            intro q2
            obtain ⟨hB, hSt, hP, hD, hSp, hz, hJn⟩ := (FIN q2).out
            clear FIN L2
            generalize q2.at_ = x4 at *
            have hltS : n < s.size := by omega
            have hltI : (n : Int) < (s.size : Int) := by omega
            have hn00 : (0 : Int) ≤ (n : Int) := by omega
            have m0 := hB.cell 0 (v := .slice aT fs.length cT) rfl
            have m1 := hB.cell 1 (v := .slice (some ⟨gG, 0, none⟩) gs.length cG) rfl
            have t0 := hSt.cell 0 (v := .string s) rfl
            have HC : Hid ((s.data.toList.getD n 0).toNat = s[n].toNat) := Lib.hid (byt_at s n hltS)
            have hcl : s[n].toNat < 256 := s[n].toNat_lt
            obtain ⟨cc, hcc⟩ : ∃ cc, s[n].toNat = cc := ⟨_, rfl⟩
            rw [hcc] at HC hcl
            have HA := Lib.hid (fun W => after_is b0 M aT gG cT cG gD cD aS cS gs fs ds cc hcl HL.out hfl hdl hdle W)
            unfold planV at HA
            have Hcut : x4.ownsRow M 3 1 (.slice aS 0 cS) 0 [] := own_cut hSp
            have eS : (Value.slice aS 0 cS).ownBlock = (Value.slice aS nS cS).ownBlock := by cases aS <;> rfl
            have hsepS : (Value.slice aS 0 cS).ownBlock = none ∨ (Value.slice aS 0 cS).ownBlock ≠ some gD := by rw [eS]; exact hsep
            have HF : Hid (BlkAt x4.drew bm #[.slice aT fs.length cT, .slice (some ⟨gG, 0, none⟩) gs.length cG] 42 ∧ BlkAt x4.drew bs #[.string s] 9 ∧ PlanAt x4.drew b0 (.slice aT fs.length cT) (.slice (some ⟨gG, 0, none⟩) gs.length cG) gs fs ∧ x4.drew.ownsRow M 3 1 (.slice (some ⟨gD, 0, none⟩) ds.length cD) ds.length (ds.map intV) ∧ x4.drew.ownsRow M 3 1 (.slice aS 0 cS) 0 [] ∧ J (lensTo gs fs s.data.toList n ++ [n]) x4.drew ∧ ((Value.slice aS 0 cS).ownBlock = none ∨ (Value.slice aS 0 cS).ownBlock ≠ some gD) ∧ (Value.slice aS 0 cS).ownBlock = (Value.slice aS nS cS).ownBlock ∧ M ≤ x4.drew.heap.size) := Lib.hid (And.intro hB (And.intro hSt (And.intro hP (And.intro hD (And.intro Hcut (And.intro (hJ _ _ _ hJn (Below.refl M x4).drew) (And.intro hsepS (And.intro eS hz))))))))
            clear hB hSt hP hD hSp hJn Hcut hsepS eS
            go_wp2
            go_region_with (go_at_call 34; go_loud (refine (HA.out _ HF.out.2.2.1 HF.out.2.2.2.1 HF.out.2.2.2.2.1 HF.out.2.2.2.2.2.2.1 HF.out.2.2.2.2.2.2.2.2).mono ?_; rintro ending w9 ⟨aR, cR, rfl, hS9⟩))
            all_goals
              have hNM : ∀ b, (Value.slice aS 0 cS).ownBlock = some b → M ≤ b := fun b hb => (HF.out.2.2.2.2.1.lt b hb).1
              have hbM := hS9.belowM hNM HF.out.2.2.2.2.2.2.2.2
              have F9 := Lib.hid (And.intro (HF.out.1.below hbM hbm.2.2) (And.intro (HF.out.2.1.below hbM hbs.2.2) (And.intro hS9.plan (And.intro hS9.row (And.intro hS9.done (And.intro hS9.sepD (And.intro (Nat.le_trans HF.out.2.2.2.2.2.2.2.2 hbM.size) (hJ _ _ _ HF.out.2.2.2.2.2.1 hbM))))))))
              clear hbM hS9 hNM HF HA m0 m1 t0
              go_wp2
              go_roundw
              case rel => exact ⟨n + 1, aft gs fs cc ds [], aR, some ⟨gD, 0, none⟩, cR, ds.length, cD, ds.map intV, by omega, by go_num, rfl, rfl, F9.out.1, F9.out.2.1, F9.out.2.2.1, F9.out.2.2.2.1, F9.out.2.2.2.2.1, F9.out.2.2.2.2.2.1, F9.out.2.2.2.2.2.2.1, by rw [HS.out]; exact F9.out.2.2.2.2.2.2.2, Lib.hid ⟨by rw [dn, HC.out, ← HD.out.1], by rw [HS.out]; exact HG.out⟩⟩
              case measure => simp [intOf]; omega
      · have eK : ((d : Int) == (fs.length : Int)) = false := by rw [beq_eq_false_iff_ne]; omega
        have HN : Hid (lenB gs fs s.data.toList n = false) := Lib.hid (by rw [Bool.eq_false_iff]; exact fun h => hdK (HB.out.2 h))
        have HS : Hid (lensTo gs fs s.data.toList (n + 1) = lensTo gs fs s.data.toList n) := Lib.hid (by rw [lensTo_succ, HN.out]; simp)
        have HG : Hid (∀ x ∈ lensTo gs fs s.data.toList n, go x = true) := Lib.hid HD.out.2
        have L0 : ∀ x : Later wr, x.at_.cell? ⟨gD, nl, none⟩ = some (.int .i64 (d : Int)) := fun x => cell_after dc x.below
        have L1 : ∀ x : Later wr, x.at_.cell? ⟨bm, 0, none⟩ = some (.slice aT fs.length cT) := fun x => (hB.after x.below).cell 0 rfl
        have L2 : ∀ x : Later wr, x.at_.cell? ⟨bs, 0, none⟩ = some (.string s) := fun x => (hSt.after x.below).cell 0 rfl
        have fin : ∀ x : Later wr, BlkAt x.at_ bm #[.slice aT fs.length cT, .slice (some ⟨gG, 0, none⟩) gs.length cG] 42 ∧ BlkAt x.at_ bs #[.string s] 9 ∧ PlanAt x.at_ b0 (.slice aT fs.length cT) (.slice (some ⟨gG, 0, none⟩) gs.length cG) gs fs ∧ x.at_.ownsRow M 3 1 (.slice (some ⟨gD, 0, none⟩) ds.length cD) ds.length (ds.map intV) ∧ x.at_.ownsRow M 3 1 (.slice aS nS cS) nS xS ∧ M ≤ x.at_.heap.size ∧ J (lensTo gs fs s.data.toList n) x.at_ := fun x => ⟨hB.after x.below, hSt.after x.below, ⟨own_aft hP.1 x.below, own_aft hP.2 x.below⟩, own_aft hD x.below, own_aft hSp x.below, Nat.le_trans hz x.below.size, hJ _ _ _ hJn (x.below.mono hz)⟩
        have FIN := fun x => Lib.hid (fin x)
        clear fin hB hSt hP hD hSp hJn dc hz
        by_cases hns : n = s.size
        · have hne : ((n : Int) == (s.size : Int)) = true := by rw [hns]; simp
          have HE : Hid (lensTo gs fs s.data.toList n = xs) := Lib.hid (by rw [← HX.out, ← HS.out]; unfold lensL; rw [len_list, hns])
          have HNS := Lib.hid hns
          clear hns
          go_wp2
          refine region_later (by kernel_rfl) (by kernel_rfl) ?_
          repeat (go_big_quiet_step (fail))
          refine wpQuiet_nil ?_
          rintro _ ⟨q, rfl⟩
          have F := (FIN q).out
          clear FIN L0 L1 L2
          generalize q.at_ = x3 at *
          go_wp2
          refine bodyPost_ret (results_none rfl _ _ _) rfl ?_
          exact ⟨⟨_, rfl⟩, .inl ⟨by rw [← HE.out]; exact F.2.2.2.2.2.2, fun x hx => HD.out.2 x (by rw [HE.out]; exact hx)⟩⟩
        · have hne : ((n : Int) == (s.size : Int)) = false := by rw [beq_eq_false_iff_ne]; omega
          go_wp2
          refine region_later (by kernel_rfl) (by kernel_rfl) ?_
          repeat (go_big_quiet_step (fail))
          refine wpQuiet_nil ?_
          rintro _ ⟨q, rfl⟩
          obtain ⟨hB, hSt, hP, hD, hSp, hz, hJn⟩ := (FIN q).out
          clear FIN L0 L1 L2
          generalize q.at_ = x3 at *
          have hltS : n < s.size := by omega
          have hltI : (n : Int) < (s.size : Int) := by omega
          have hn00 : (0 : Int) ≤ (n : Int) := by omega
          have m0 := hB.cell 0 (v := .slice aT fs.length cT) rfl
          have m1 := hB.cell 1 (v := .slice (some ⟨gG, 0, none⟩) gs.length cG) rfl
          have t0 := hSt.cell 0 (v := .string s) rfl
          have HC : Hid ((s.data.toList.getD n 0).toNat = s[n].toNat) := Lib.hid (byt_at s n hltS)
          have hcl : s[n].toNat < 256 := s[n].toNat_lt
          obtain ⟨cc, hcc⟩ : ∃ cc, s[n].toNat = cc := ⟨_, rfl⟩
          rw [hcc] at HC hcl
          have HA := Lib.hid (fun W => after_is b0 M aT gG cT cG gD cD aS cS gs fs ds cc hcl HL.out hfl hdl hdle W)
          unfold planV at HA
          have Hcut : x3.ownsRow M 3 1 (.slice aS 0 cS) 0 [] := own_cut hSp
          have eS : (Value.slice aS 0 cS).ownBlock = (Value.slice aS nS cS).ownBlock := by cases aS <;> rfl
          have hsepS : (Value.slice aS 0 cS).ownBlock = none ∨ (Value.slice aS 0 cS).ownBlock ≠ some gD := by rw [eS]; exact hsep
          have HF : Hid (BlkAt x3.drew bm #[.slice aT fs.length cT, .slice (some ⟨gG, 0, none⟩) gs.length cG] 42 ∧ BlkAt x3.drew bs #[.string s] 9 ∧ PlanAt x3.drew b0 (.slice aT fs.length cT) (.slice (some ⟨gG, 0, none⟩) gs.length cG) gs fs ∧ x3.drew.ownsRow M 3 1 (.slice (some ⟨gD, 0, none⟩) ds.length cD) ds.length (ds.map intV) ∧ x3.drew.ownsRow M 3 1 (.slice aS 0 cS) 0 [] ∧ J (lensTo gs fs s.data.toList n) x3.drew ∧ ((Value.slice aS 0 cS).ownBlock = none ∨ (Value.slice aS 0 cS).ownBlock ≠ some gD) ∧ (Value.slice aS 0 cS).ownBlock = (Value.slice aS nS cS).ownBlock ∧ M ≤ x3.drew.heap.size) := Lib.hid (And.intro hB (And.intro hSt (And.intro hP (And.intro hD (And.intro Hcut (And.intro (hJ _ _ _ hJn (Below.refl M x3).drew) (And.intro hsepS (And.intro eS hz))))))))
          clear hB hSt hP hD hSp hJn Hcut hsepS eS
          go_wp2
          go_region_with (go_at_call 34; go_loud (refine (HA.out _ HF.out.2.2.1 HF.out.2.2.2.1 HF.out.2.2.2.2.1 HF.out.2.2.2.2.2.2.1 HF.out.2.2.2.2.2.2.2.2).mono ?_; rintro ending w9 ⟨aR, cR, rfl, hS9⟩))
          all_goals
            have hNM : ∀ b, (Value.slice aS 0 cS).ownBlock = some b → M ≤ b := fun b hb => (HF.out.2.2.2.2.1.lt b hb).1
            have hbM := hS9.belowM hNM HF.out.2.2.2.2.2.2.2.2
            have F9 := Lib.hid (And.intro (HF.out.1.below hbM hbm.2.2) (And.intro (HF.out.2.1.below hbM hbs.2.2) (And.intro hS9.plan (And.intro hS9.row (And.intro hS9.done (And.intro hS9.sepD (And.intro (Nat.le_trans HF.out.2.2.2.2.2.2.2.2 hbM.size) (hJ _ _ _ HF.out.2.2.2.2.2.1 hbM))))))))
            clear hbM hS9 hNM HF HA m0 m1 t0
            go_wp2
            go_roundw
            case rel => exact ⟨n + 1, aft gs fs cc ds [], aR, some ⟨gD, 0, none⟩, cR, ds.length, cD, ds.map intV, by omega, by go_num, rfl, rfl, F9.out.1, F9.out.2.1, F9.out.2.2.1, F9.out.2.2.2.1, F9.out.2.2.2.2.1, F9.out.2.2.2.2.2.1, F9.out.2.2.2.2.2.2.1, by rw [HS.out]; exact F9.out.2.2.2.2.2.2.2, Lib.hid ⟨by rw [dn, HC.out, ← HD.out.1], by rw [HS.out]; exact HG.out⟩⟩
            case measure => simp [intOf]; omega
end Go.Proofs.Ytmpneifjjnfckaa
