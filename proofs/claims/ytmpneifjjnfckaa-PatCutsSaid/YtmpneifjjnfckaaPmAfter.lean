/-
  The contract of package pat's after: the states behind one more byte, in the memory of the spare row, or in new memory.
-/
import Derived.Test.YtmpneifjjnfckaaPmRead
namespace Go.Proofs.Ytmpneifjjnfckaa
open Go.RowKit

def intV (k : Nat) : Value := .int .i64 (k : Int)
theorem info_int : (Try.prog.info? 3).map (fun i => (i.zero, i.size, i.bytes)) = some (some (.int .i64 0), 1, 8) := by kernel_rfl

/-- how the memory stands while the next row R is made, out of the row N that was empty; w: the memory ahead of the call -/
structure AftS (w wr : World) (b0 base : Nat) (T G D N R : Value) (gs : List Bool) (fs : List (Nat → Bool)) (ds nx : List Nat) : Prop where
  box : BlkAt wr w.heap.size #[T, G] 42
  plan : PlanAt wr b0 T G gs fs
  done : wr.ownsRow base 3 1 D ds.length (ds.map intV)
  row : wr.ownsRow base 3 1 R nx.length (nx.map intV)
  grow : w.grownBy wr N.ownBlock
  at_ : R.ownBlock = N.ownBlock ∨ ∀ b, R.ownBlock = some b → w.heap.size < b
  sep : N.ownBlock = none ∨ N.ownBlock ≠ D.ownBlock
  ownN : ∀ b, N.ownBlock = some b → b < w.heap.size
  ownD : ∀ b, D.ownBlock = some b → b < w.heap.size

theorem own_ne2 {w : World} {base base' n n' : Nat} {e e' : TypeId} {size size' : Nat} {v v' : Value} {xs xs' : List Value} (h : w.ownsRow base e size v n xs) (k : w.ownsRow base' e' size' v' n' xs') (hne : e ≠ e') : v.ownBlock = none ∨ v.ownBlock ≠ v'.ownBlock :=
  own_ne (own_base h (Nat.zero_le _)) (own_base k (Nat.zero_le _)) hne

section
variable {w wr w' : World} {b0 base : Nat} {T G D N R : Value} {gs : List Bool} {fs : List (Nat → Bool)} {ds nx : List Nat}
theorem AftS.sizes (h : AftS w wr b0 base T G D N R gs fs ds nx) : w.heap.size < wr.heap.size := h.box.lt
theorem AftS.after (h : AftS w wr b0 base T G D N R gs fs ds nx) (hb : Below wr.heap.size wr w') : AftS w w' b0 base T G D N R gs fs ds nx :=
  ⟨h.box.after hb, ⟨own_aft h.plan.1 hb, own_aft h.plan.2 hb⟩, own_aft h.done hb, own_aft h.row hb,
    ⟨hb.os.trans h.grow.os, hb.tape.trans h.grow.tape, hb.output.trans h.grow.output, Nat.le_trans h.grow.size hb.size, fun k hk hr => (hb.block k (Nat.lt_of_lt_of_le hk h.grow.size)).trans (h.grow.block k hk hr)⟩,
    h.at_, h.sep, h.ownN, h.ownD⟩
theorem AftS.cut {ao : Option Addr} {n c : Nat} (h : AftS w wr b0 base T G D N (.slice ao n c) gs fs ds nx) : AftS w wr b0 base T G D N (.slice ao 0 c) gs fs ds [] := by
  refine ⟨h.box, h.plan, h.done, own_cut h.row, h.grow, ?_, h.sep, h.ownN, h.ownD⟩
  have e : (Value.slice ao 0 c).ownBlock = (Value.slice ao n c).ownBlock := by cases ao <;> rfl
  rw [e]
  exact h.at_
theorem AftS.push {o : Obj} {g cap : Nat} (h : AftS w wr b0 base T G D N R gs fs ds nx) (k : Nat)
    (hr : w'.ownsRow base 3 1 (.slice (some ⟨g, 0, none⟩) (nx.length + 1) cap) (nx.length + 1) (nx.map intV ++ [intV k])) (hg : (wr.alloc o).grownBy w' R.ownBlock) (hw : R.ownBlock = some g ∨ g = (wr.alloc o).heap.size) :
    AftS w w' b0 base T G D N (.slice (some ⟨g, 0, none⟩) (nx ++ [k]).length cap) gs fs ds (nx ++ [k]) := by
  have hs := h.sizes
  have hz : ∀ b, R.ownBlock = some b → b ≠ w.heap.size := fun b hb => by
    rcases h.at_ with e | e
    · have := h.ownN b (e ▸ hb); omega
    · have := e b hb; omega
  refine ⟨(h.box.alloc o).grown hg (fun e => hz _ e.symm rfl), ⟨(h.plan.1.alloc o).kept hg (own_ne2 h.plan.1 h.row (by decide)), (h.plan.2.alloc o).kept hg (own_ne2 h.plan.2 h.row (by decide))⟩, (h.done.alloc o).kept hg ?_, ?_, ?_, ?_, h.sep, h.ownN, h.ownD⟩
  · rcases h.at_ with e | e
    · rcases h.sep with k | k
      · rw [k] at e
        cases hD : D.ownBlock with
        | none => exact .inl rfl
        | some b => right; rw [e]; intro h; cases h
      · right; rw [e]; exact Ne.symm k
    · cases hD : D.ownBlock with
      | none => exact .inl rfl
      | some b =>
        right
        intro he
        have := e b he.symm
        have := h.ownD b hD
        omega
  · have e : (nx ++ [k]).length = nx.length + 1 := by simp
    rw [e, List.map_append]
    exact hr
  · refine ⟨hg.os.trans h.grow.os, hg.tape.trans h.grow.tape, hg.output.trans h.grow.output, Nat.le_trans h.grow.size (Nat.le_trans (by simp) hg.size), fun b hb hne => ?_⟩
    rw [hg.block b (by simp; omega) (fun e => ?_)]
    · rw [Below.heap_alloc _ _ _ (by omega)]
      exact h.grow.block b hb hne
    · rcases h.at_ with k | k
      · exact hne (e.trans k)
      · have := k b e.symm; omega
  · rcases hw with hw | hw
    · rcases h.at_ with k | k
      · exact .inl (by rw [← k, hw]; rfl)
      · exact .inr fun b hb => k b (by rw [hw, ← hb]; rfl)
    · right
      intro b hb
      have : some g = some b := hb
      injection this with this
      rw [← this, hw]
      simp
      omega
end

/-- what after leaves -/
def AftLeft (w : World) (b0 base : Nat) (T G D N : Value) (gs : List Bool) (fs : List (Nat → Bool)) (ds nx : List Nat) (e : Ending) (w' : World) : Prop :=
  ∃ ao cap, e = .returned (.slice ao nx.length cap) ∧ AftS w w' b0 base T G D N (.slice ao nx.length cap) gs fs ds nx

theorem rowS_get : ∀ (fs : List (Nat → Bool)) (k i : Nat) (hk : k < fs.length), i < 4 → (rowS fs)[k * 4 + i]? = (cell4 fs[k])[i]?
  | [], k, _, hk, _ => by simp at hk
  | f :: fs, 0, i, _, hi => by
    unfold rowS
    rw [List.flatMap_cons, Nat.zero_mul, Nat.zero_add, List.getElem?_append_left (by simpa [cell4] using hi)]
    rfl
  | f :: fs, k + 1, i, hk, hi => by
    unfold rowS
    rw [List.flatMap_cons, List.getElem?_append_right (by simp [cell4]; omega)]
    have e : (k + 1) * 4 + i - (cell4 f).length = k * 4 + i := by simp [cell4]; omega
    rw [e]
    exact rowS_get fs k i (by simpa using hk) hi

theorem drop_at (ds : List Nat) (j : Nat) (h : j < ds.length) : ds.drop j = ds[j] :: ds.drop (j + 1) := List.drop_eq_getElem_cons h

set_option maxHeartbeats 16000000 in
set_option maxRecDepth 100000 in
theorem after_is (b0 base : Nat) (aT : Option Addr) (gG cT cG gD cD : Nat) (aN : Option Addr) (cN : Nat) (gs : List Bool) (fs : List (Nat → Bool)) (ds : List Nat) (c : Nat) (hc : c < 256) (hl : gs.length = fs.length + 1) (hfl : fs.length ≤ 1048576) (hdl : ds.length ≤ 1048577) (hds : ∀ k ∈ ds, k ≤ fs.length)
    (w : World) (hP : PlanAt w b0 (.slice aT fs.length cT) (.slice (some ⟨gG, 0, none⟩) gs.length cG) gs fs) (hD : w.ownsRow base 3 1 (.slice (some ⟨gD, 0, none⟩) ds.length cD) ds.length (ds.map intV)) (hN : w.ownsRow base 3 1 (.slice aN 0 cN) 0 []) (hne : (Value.slice aN 0 cN).ownBlock = none ∨ (Value.slice aN 0 cN).ownBlock ≠ some gD) (hbase : base ≤ w.heap.size) :
    Calls Try.prog 34 #[planV (.slice aT fs.length cT) (.slice (some ⟨gG, 0, none⟩) gs.length cG), .int .u8 (c : Int), .slice (some ⟨gD, 0, none⟩) ds.length cD, .slice aN 0 cN] w (AftLeft w b0 base (.slice aT fs.length cT) (.slice (some ⟨gG, 0, none⟩) gs.length cG) (.slice (some ⟨gD, 0, none⟩) ds.length cD) (.slice aN 0 cN) gs fs ds (aft gs fs c ds [])) := by
  obtain ⟨j0, hj, hy0, hy1, hy2⟩ := info_parts info_int
  have hA0 : AftS w (w.alloc (.cells #[.slice aT fs.length cT, .slice (some ⟨gG, 0, none⟩) gs.length cG] 42)) b0 base (.slice aT fs.length cT) (.slice (some ⟨gG, 0, none⟩) gs.length cG) (.slice (some ⟨gD, 0, none⟩) ds.length cD) (.slice aN 0 cN) (.slice aN ([] : List Nat).length cN) gs fs ds [] :=
    ⟨BlkAt.new _ _ _, ⟨hP.1.alloc _, hP.2.alloc _⟩, hD.alloc _, hN.alloc _, World.grownBy_alloc _ _ _, .inl rfl, hne, fun b hb => (hN.lt b hb).2, fun b hb => (hD.lt b hb).2⟩
  clear hP hD hN hne
  have HH := fun p => Lib.hid (phas_is p c hc)
  unfold planV
  obtain ⟨nE, hE⟩ : ∃ nE, aft gs fs c ds [] = nE := ⟨_, rfl⟩
  rw [hE]
  have HE := Lib.hid hE
  clear hE
  have HL := Lib.hid hl
  have hgl : fs.length < gs.length := by omega
  have hgm : gs.length ≤ 1048577 := by omega
  clear hl
  go_enter Try.func34, Try.ntmps34
  go_wp2
  go_loopw [3, 13] (fun y i wr => ∃ (j : Nat) (nx : List Nat) (ao : Option Addr) (cap : Nat), j ≤ ds.length ∧ nx.length ≤ 2 * j ∧ i = .int .i64 (j : Int) ∧ y = .slice ao nx.length cap ∧ AftS w wr b0 base (.slice aT fs.length cT) (.slice (some ⟨gG, 0, none⟩) gs.length cG) (.slice (some ⟨gD, 0, none⟩) ds.length cD) (.slice aN 0 cN) (.slice ao nx.length cap) gs fs ds nx ∧ Hid (aft gs fs c (ds.drop j) nx = nE)) (fun _ i _ => ds.length - (intOf i).toNat)
  case atStart => exact ⟨0, [], aN, cN, Nat.zero_le _, Nat.le_refl _, rfl, rfl, hA0, HE⟩
  case round =>
    clear hA0
    obtain ⟨j, nx, ao, cap, hjd, hnl, rfl, rfl, hS, HJ⟩ := hrel
    by_cases hlt : j < ds.length
    · have hlti : (j : Int) < (ds.length : Int) := by omega
      obtain ⟨k, hk⟩ : ∃ k, ds[j] = k := ⟨_, rfl⟩
      have hkf : k ≤ fs.length := hds k (hk ▸ List.getElem_mem hlt)
      have HJ2 : Hid (aft gs fs c (ds.drop (j + 1)) (if takB fs k c then (if gapB gs k then [k] else nx) ++ [k + 1] else (if gapB gs k then [k] else nx)) = nE) := Lib.hid (by
        rw [← HJ.out, drop_at ds j hlt, hk, aft])
      have cD0 : wr.cell? ⟨gD, j, none⟩ = some (.int .i64 (k : Int)) := by
        rw [hS.done.cellAt j (by omega), List.getElem?_map, List.getElem?_eq_getElem hlt, hk]; rfl
      have cG0 : wr.cell? ⟨gG, k, none⟩ = some (.bool (gapB gs k)) := by
        rw [hS.plan.2.cellAt k (by omega)]
        unfold rowG gapB
        rw [List.getElem?_map, List.getElem?_eq_getElem (by omega), List.getD_eq_getElem?_getD, List.getElem?_eq_getElem (by omega)]; rfl
      have b0c := hS.box.cell 0 (v := .slice aT fs.length cT) rfl
      have b1c := hS.box.cell 1 (v := .slice (some ⟨gG, 0, none⟩) gs.length cG) rfl
      have hkg : k < gs.length := by omega
      have hki : (k : Int) < (gs.length : Int) := by omega
      clear hk HJ
      obtain ⟨zg, hzg⟩ : ∃ z, gapB gs k = z := ⟨_, rfl⟩
      rw [hzg] at cG0 HJ2
      clear hzg
      cases zg with
      | true =>
        simp only [if_true] at HJ2
        have hS1 := hS.cut
        have hz1 := hS.sizes
        go_wp2_with (at_builtin; refine wpList_append_two _ rfl _ _ 61 rfl base 3 j0 _ 1 8 Try.underlying61 hj hy0 hy1 hy2 rfl (by decide) _ _ _ rfl (hS1.row.alloc _) ⟨wr.heap.size, 0, none⟩ 1 [intV k] rfl rfl ?e1 ?e2 ?e3 ?e4 ?e5 ?_)
        case e1 =>
          intro j u hj
          match j, hj with
          | 0, hj => simp [intV] at hj; subst hj; simp [Addr.add]
        case e2 => intro u hu; simp at hu; subst hu; rfl
        case e3 => unfold maxLen; simp
        case e4 => simp
        case e5 => simp; omega
        intro g3 p3 w3 hr3 hg3 hw3
        have hS3 : AftS w w3 b0 base (.slice aT fs.length cT) (.slice (some ⟨gG, 0, none⟩) gs.length cG) (.slice (some ⟨gD, 0, none⟩) ds.length cD) (.slice aN 0 cN) (.slice (some ⟨g3, 0, none⟩) [k].length p3) gs fs ds [k] := hS1.push k hr3 hg3 (by simpa using hw3)
        clear hS hS1 hr3 hg3 hw3 cD0 cG0 b0c b1c
        have b0c := hS3.box.cell 0 (v := .slice aT fs.length cT) rfl
        by_cases hkK : k < fs.length
        · obtain ⟨gT, rfl⟩ : ∃ gT, aT = some ⟨gT, 0, none⟩ := by
            rcases hS3.plan.1.2 with ⟨_, h0⟩ | ⟨g, cap, _, h0, _⟩
            · omega
            · injection h0 with h1 _ _; exact ⟨g, h1⟩
          have hkKi : (k : Int) < (fs.length : Int) := by omega
          have HT := HH fs[k]
          have HK : Hid (takB fs k c = fs[k] c) := Lib.hid (by unfold takB; rw [List.getElem?_eq_getElem hkK])
          have rS : ∀ i, i < 4 → w3.cell? ⟨gT, k * 4 + i, none⟩ = (cell4 fs[k])[i]? := fun i hi => by
            rw [hS3.plan.1.cellAt (k * 4 + i) (by omega), rowS_get fs k i hkK hi]
          have s0 : w3.cell? ⟨gT, k * 4, none⟩ = some (.int .u64 (wd fs[k] 0 : Nat)) := rS 0 (by decide)
          have s1 : w3.cell? ⟨gT, k * 4 + 1, none⟩ = some (.int .u64 (wd fs[k] 1 : Nat)) := rS 1 (by decide)
          have s2 : w3.cell? ⟨gT, k * 4 + 2, none⟩ = some (.int .u64 (wd fs[k] 2 : Nat)) := rS 2 (by decide)
          have s3 : w3.cell? ⟨gT, k * 4 + 3, none⟩ = some (.int .u64 (wd fs[k] 3 : Nat)) := rS 3 (by decide)
          clear rS
          rw [HK.out] at HJ2
          generalize fs[k] = p at *
          simp only [setV] at HT
          generalize p c = zt at *
          go_wp2_with fail
          refine (HT.out _).mono ?_
          rintro ending w5 ⟨rfl, hb5⟩
          have hS5 := hS3.after hb5
          clear hb5 s0 s1 s2 s3 b0c
          cases zt with
          | true =>
            simp only [if_true] at HJ2
            obtain ⟨k1, hk1⟩ : ∃ k1, k + 1 = k1 := ⟨_, rfl⟩
            have EK : (k : Int) + 1 = (k1 : Int) := by omega
            rw [hk1] at HJ2
            clear hk1
            have hz5 := hS5.sizes
            go_wp2_with (at_builtin; refine wpList_append_two _ rfl _ _ 61 rfl base 3 j0 _ 1 8 Try.underlying61 hj hy0 hy1 hy2 rfl (by decide) _ _ _ rfl (hS5.row.alloc _) ⟨w5.heap.size, 0, none⟩ 1 [intV k1] rfl rfl ?x1 ?x2 ?x3 ?x4 ?x5 ?_)
            case x1 =>
              intro j u hj
              match j, hj with
              | 0, hj => simp [intV] at hj; subst hj; simp [Addr.add]
            case x2 => intro u hu; simp at hu; subst hu; rfl
            case x3 => unfold maxLen; first | omega | (simp only [List.length_cons, List.length_nil]; omega)
            case x4 => first | omega | (simp only [List.length_cons, List.length_nil]; omega)
            case x5 => simp; omega
            intro g7 p7 w7 hr7 hg7 hw7
            have hS7 := hS5.push k1 hr7 hg7 (by simpa using hw7)
            clear hS5 hr7 hg7 hw7
            go_wp2
            go_roundw
            case rel => exact ⟨j + 1, [k] ++ [k1], some ⟨g7, 0, none⟩, p7, by omega, by simp; omega, by go_num, by simp, hS7, HJ2⟩
            case measure => simp [intOf]; omega
          | false =>
            simp only [Bool.false_eq_true, if_false] at HJ2
            go_wp2
            go_roundw
            case rel => exact ⟨j + 1, [k], some ⟨g3, 0, none⟩, p3, by omega, by first | omega | (simp; omega), by go_num, rfl, hS5, HJ2⟩
            case measure => simp [intOf]; omega
        · have hkKi : ¬ (k : Int) < (fs.length : Int) := by omega
          have hkKd : decide ((k : Int) < (fs.length : Int)) = false := decide_eq_false hkKi
          have hkKe : decide (k < fs.length) = false := decide_eq_false hkK
          have HK : Hid (takB fs k c = false) := Lib.hid (by unfold takB; rw [List.getElem?_eq_none (by omega)])
          rw [HK.out] at HJ2
          simp only [Bool.false_eq_true, if_false] at HJ2
          go_wp2
          go_roundw
          case rel => exact ⟨j + 1, [k], some ⟨g3, 0, none⟩, p3, by omega, by first | omega | (simp; omega), by go_num, rfl, hS3, HJ2⟩
          case measure => simp [intOf]; omega
      | false =>
        simp only [Bool.false_eq_true, if_false] at HJ2
        have hz1 := hS.sizes
        by_cases hkK : k < fs.length
        · obtain ⟨gT, rfl⟩ : ∃ gT, aT = some ⟨gT, 0, none⟩ := by
            rcases hS.plan.1.2 with ⟨_, h0⟩ | ⟨g, cap, _, h0, _⟩
            · omega
            · injection h0 with h1 _ _; exact ⟨g, h1⟩
          have hkKi : (k : Int) < (fs.length : Int) := by omega
          have HT := HH fs[k]
          have HK : Hid (takB fs k c = fs[k] c) := Lib.hid (by unfold takB; rw [List.getElem?_eq_getElem hkK])
          have rS : ∀ i, i < 4 → wr.cell? ⟨gT, k * 4 + i, none⟩ = (cell4 fs[k])[i]? := fun i hi => by
            rw [hS.plan.1.cellAt (k * 4 + i) (by omega), rowS_get fs k i hkK hi]
          have s0 : wr.cell? ⟨gT, k * 4, none⟩ = some (.int .u64 (wd fs[k] 0 : Nat)) := rS 0 (by decide)
          have s1 : wr.cell? ⟨gT, k * 4 + 1, none⟩ = some (.int .u64 (wd fs[k] 1 : Nat)) := rS 1 (by decide)
          have s2 : wr.cell? ⟨gT, k * 4 + 2, none⟩ = some (.int .u64 (wd fs[k] 2 : Nat)) := rS 2 (by decide)
          have s3 : wr.cell? ⟨gT, k * 4 + 3, none⟩ = some (.int .u64 (wd fs[k] 3 : Nat)) := rS 3 (by decide)
          clear rS
          rw [HK.out] at HJ2
          generalize fs[k] = p at *
          simp only [setV] at HT
          generalize p c = zt at *
          go_wp2_with fail
          refine (HT.out _).mono ?_
          rintro ending w5 ⟨rfl, hb5⟩
          have hS5 := hS.after hb5
          clear hb5 s0 s1 s2 s3 b0c b1c cD0 cG0
          cases zt with
          | true =>
            simp only [if_true] at HJ2
            obtain ⟨k1, hk1⟩ : ∃ k1, k + 1 = k1 := ⟨_, rfl⟩
            have EK : (k : Int) + 1 = (k1 : Int) := by omega
            rw [hk1] at HJ2
            clear hk1
            have hz5 := hS5.sizes
            go_wp2_with (at_builtin; refine wpList_append_two _ rfl _ _ 61 rfl base 3 j0 _ 1 8 Try.underlying61 hj hy0 hy1 hy2 rfl (by decide) _ _ _ rfl (hS5.row.alloc _) ⟨w5.heap.size, 0, none⟩ 1 [intV k1] rfl rfl ?y1 ?y2 ?y3 ?y4 ?y5 ?_)
            case y1 =>
              intro j u hj
              match j, hj with
              | 0, hj => simp [intV] at hj; subst hj; simp [Addr.add]
            case y2 => intro u hu; simp at hu; subst hu; rfl
            case y3 => unfold maxLen; first | omega | (simp only [List.length_cons, List.length_nil]; omega)
            case y4 => first | omega | (simp only [List.length_cons, List.length_nil]; omega)
            case y5 => simp; omega
            intro g7 p7 w7 hr7 hg7 hw7
            have hS7 := hS5.push k1 hr7 hg7 (by simpa using hw7)
            clear hS5 hr7 hg7 hw7
            go_wp2
            go_roundw
            case rel => exact ⟨j + 1, nx ++ [k1], some ⟨g7, 0, none⟩, p7, by omega, by simp; omega, by go_num, by simp, hS7, HJ2⟩
            case measure => simp [intOf]; omega
          | false =>
            simp only [Bool.false_eq_true, if_false] at HJ2
            go_wp2
            go_roundw
            case rel => exact ⟨j + 1, nx, ao, cap, by omega, by first | omega | (simp; omega), by go_num, rfl, hS5, HJ2⟩
            case measure => simp [intOf]; omega
        · have hkKi : ¬ (k : Int) < (fs.length : Int) := by omega
          have hkKd : decide ((k : Int) < (fs.length : Int)) = false := decide_eq_false hkKi
          have hkKe : decide (k < fs.length) = false := decide_eq_false hkK
          have HK : Hid (takB fs k c = false) := Lib.hid (by unfold takB; rw [List.getElem?_eq_none (by omega)])
          rw [HK.out] at HJ2
          simp only [Bool.false_eq_true, if_false] at HJ2
          go_wp2
          go_roundw
          case rel => exact ⟨j + 1, nx, ao, cap, by omega, by first | omega | (simp; omega), by go_num, rfl, hS, HJ2⟩
          case measure => simp [intOf]; omega
    · have hjj : j = ds.length := by omega
      have hlti : ¬ (j : Int) < (ds.length : Int) := by omega
      have hltd : decide ((j : Int) < (ds.length : Int)) = false := decide_eq_false hlti
      have hnn : nx = nE := by rw [← HJ.out, List.drop_of_length_le (by omega), aft]
      subst hnn
      clear HJ hjj
      go_wp2
      go_ret
      exact ⟨ao, cap, rfl, hS⟩
end Go.Proofs.Ytmpneifjjnfckaa
