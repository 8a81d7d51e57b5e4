/-
  Contracts of package pat's lengths and Match.
-/
import Derived.Test.YtmpneifjjnfckaaPmRange
namespace Go.Proofs.Ytmpneifjjnfckaa
open Go.RowKit Go.Shelf

attribute [local go_sem] Oper.semAt_some

set_option maxHeartbeats 2000000 in
set_option maxRecDepth 100000 in
theorem lengths_is (T G : Value) (s : ByteArray) (w : World) : Calls Try.prog 21 #[planV T G, .string s] w fun e w' => e = .returned (.func (.func 33) #[] #[.pointer (some ⟨w.heap.size, 0, none⟩), .pointer (some ⟨w.heap.size + 1, 0, none⟩)]) ∧ w' = (w.alloc (.cells #[T, G] 42)).alloc (.cells #[.string s] 9) := by
  unfold planV
  go_enter Try.func21, Try.ntmps21
  go_wp2
  go_ret
  exact ⟨rfl, rfl⟩

theorem leave_marks {P : Program} {n : Nat} {fn : Func} {R : Ending → World → Prop} {tmps : Array Value} {W : World} {D : Nat} (hK : W.heap[D]? = some (.deferred (some []))) (v : Value) (hres : (results fn tmps).run P (W.putObj D (.deferred none)) = .ok v (W.putObj D (.deferred none))) (hR : R (.returned v) (W.putObj D (.deferred none))) : bodyPostM Fence.wide n P fn R .ret { tmps := tmps, defers := [{ target := .collected D, args := #[] }] } W :=
  ⟨by simp, .inl ⟨D, _, rfl, run_takeDeferred hK, ⟨v, hres, hR⟩⟩⟩
theorem BlkAt.put {w : World} {b D : Nat} {cs : Array Value} {t : TypeId} (h : BlkAt w b cs t) (hb : b ≠ D) (o : Obj) : BlkAt (w.putObj D o) b cs t := (World.putObj_heap_other hb).trans h
theorem bel_put {w w' : World} {D : Nat} (h : Below w.heap.size w w') (hD : w.heap.size ≤ D) (o : Obj) : Below w.heap.size w (w'.putObj D o) := h.trans ⟨rfl, rfl, rfl, by simp, fun k hk => World.putObj_heap_other (by omega)⟩

/-- a plan's parts -/
theorem plan_forms {w : World} {b0 : Nat} {T G : Value} {gs : List Bool} {fs : List (Nat → Bool)} (h : PlanAt w b0 T G gs fs) (hl : gs.length = fs.length + 1) : ∃ aT cT gG cG, T = .slice aT fs.length cT ∧ G = .slice (some ⟨gG, 0, none⟩) gs.length cG ∧ (∀ b, T.ownBlock = some b → b0 ≤ b ∧ b < w.heap.size) ∧ b0 ≤ gG ∧ gG < w.heap.size := by
  obtain ⟨h1, h2⟩ := h
  have k1 := h1.lt
  have k2 := h2.lt
  rcases h2.2 with ⟨_, h0⟩ | ⟨g, cap, cur, rfl, _⟩
  · omega
  · have k3 := k2 g rfl
    rcases h1.2 with ⟨rfl, h0⟩ | ⟨g', cap', cur', rfl, _⟩
    · exact ⟨none, 0, g, cap, by rw [h0], rfl, k1, k3⟩
    · exact ⟨_, cap', g, cap, rfl, rfl, k1, k3⟩

theorem iterOk (m l r bm bs b0 M : Nat) (aT : Option Addr) (cT gG cG : Nat) (gs : List Bool) (fs : List (Nat → Bool)) (s : ByteArray) (hs : s.size ≤ 1048576) (hl : gs.length = fs.length + 1) (hfl : fs.length ≤ 1048576) (go : Nat → Bool)
    (hlM : l < M) (hrM : r < M) (hbm : bm ≠ l ∧ bm ≠ r ∧ bm < M) (hbs : bs ≠ l ∧ bs ≠ r ∧ bs < M) (hTl : ∀ b, (Value.slice aT fs.length cT).ownBlock = some b → b ≠ l ∧ b ≠ r ∧ b < M) (hGl : gG ≠ l ∧ gG ≠ r ∧ gG < M)
    (w : World) (hM : M = w.heap.size) (hB : BlkAt w bm #[.slice aT fs.length cT, .slice (some ⟨gG, 0, none⟩) gs.length cG] 42) (hSt : BlkAt w bs #[.string s] 9) (hP : PlanAt w b0 (.slice aT fs.length cT) (.slice (some ⟨gG, 0, none⟩) gs.length cG) gs fs) :
    IterOk Try.prog m 33 l r M s.size #[.pointer (some ⟨bm, 0, none⟩), .pointer (some ⟨bs, 0, none⟩)] go (lensL gs fs s.data.toList) w :=
  fun J Jx hJ hJx hY h0 => iter_is m l r bm bs b0 M aT cT gG cG gs fs s hs hl hfl go J Jx hJ hJx hY hlM hrM hbm hbs hTl hGl w hM hB hSt hP h0

set_option maxHeartbeats 16000000 in
set_option maxRecDepth 100000 in
theorem patMatch_is (t : ByteArray) (ht : t.size ≤ 1048576) (L : Value) (v : List Bool) (s : ByteArray) (hs : s.size ≤ 1048576) (w : World) (hL : LiveAt w L v) : Calls Try.prog 10 #[patV t L, .string s] w (Gives w (.bool (patB t.data.toList v s.data.toList))) := by
  obtain ⟨wA, hwA, hb, hP⟩ := lay_pat w t L
  have hsA : wA.heap.size = w.heap.size + 1 := by rw [← hwA]; simp
  have hS := BlkAt.new_at wA #[.string s] 9 _ hsA
  have hP := hP.alloc (.cells #[.string s] 9)
  have hb := bel_alloc hb (.cells #[.string s] 9)
  obtain ⟨w0, hw0⟩ : ∃ w0, wA.alloc (.cells #[.string s] 9) = w0 := ⟨_, rfl⟩
  have hs0 : w0.heap.size = w.heap.size + 1 + 1 := by rw [← hw0]; simp [hsA]
  rw [hw0] at hS hP hb
  have hZ := BlkAt.new_at w0 #[.bool false] 4 _ hs0
  have hP := hP.alloc (.cells #[.bool false] 4)
  have hS := hS.alloc (.cells #[.bool false] 4)
  have hb := bel_alloc hb (.cells #[.bool false] 4)
  obtain ⟨w1, hw1⟩ : ∃ w1, w0.alloc (.cells #[.bool false] 4) = w1 := ⟨_, rfl⟩
  have hs1 : w.heap.size + 1 + 1 + 1 ≤ w1.heap.size := by rw [← hw1]; simp [hs0]
  rw [hw1] at hS hP hb hZ
  have HRd := Lib.hid (read_is t ht L v)
  have HLn := Lib.hid lengths_is
  unfold patV at HRd ⊢
  unfold planV at HLn
  have HW := Lib.hid (And.intro hwA (And.intro hw0 hw1))
  clear hwA hw0 hw1 hsA hs0
  have hLd : LiveAt w1.drew L v := hL.after (bel_drew hb)
  have HLd := Lib.hid hLd
  clear hLd
  have p0 := hP.cell 0 (v := .string t) rfl
  have p1 := hP.cell 1 (v := L) rfl
  have q0 := hS.cell 0 (v := .string s) rfl
  have Q2 : ∀ w2 : World, Below w1.drew.heap.size w1.drew w2 → w2.cell? ⟨w.heap.size + 1, 0, none⟩ = some (.string s) := fun w2 h => ((show BlkAt w1.drew (w.heap.size + 1) #[.string s] 9 from hS).after h).cell 0 rfl
  refine (callsIn_wide (n := 3)).1 (callsIn_of_wp_marks Try.func10 rfl trivial (wpIn_wide.2 ?_))
  simp only [Try.ntmps10, List.size_toArray, List.length_cons, List.length_nil, Nat.reduceAdd, Nat.reduceSub, Array.replicate_succ, Array.replicate_zero, List.push_toArray, List.append_toArray, List.nil_append, List.cons_append]
  go_upto_region 1 with fail
  rw [HW.out.1, HW.out.2.1, HW.out.2.2]
  go_region_with (first | (go_at_call 20; refine (HRd.out _ HLd.out).mono ?_; rintro ending w2 ⟨T, G, gs, fs, rfl, hPl, hgl, hfl, hM, hb2⟩; have q2 := Q2 w2 hb2; unfold planV) | (go_at_call 21; refine (HLn.out _ _ _ _).mono ?_; rintro ending w3 ⟨rfl, rfl⟩))
  all_goals
    clear p0 p1 q0 q2 Q2 HRd HLn HLd HW hP
    obtain ⟨aT, cT, gG, cG, rfl, rfl, hTb, hGb1, hGb2⟩ := plan_forms hPl hgl
    have HGL := Lib.hid hgl
    have HM := Lib.hid hM
    clear hgl hM
    have hb1 : Below w.heap.size w w2 := bel_step (bel_drew hb) hb2
    have hz2 : w1.heap.size ≤ w2.heap.size := hb2.size
    have hz1 : w1.drew.heap.size = w1.heap.size := rfl
    have hS2 : BlkAt w2 (w.heap.size + 1) #[.string s] 9 := (show BlkAt w1.drew (w.heap.size + 1) #[.string s] 9 from hS).after hb2
    have hZ2 : BlkAt w2 (w.heap.size + 1 + 1) #[.bool false] 4 := (show BlkAt w1.drew (w.heap.size + 1 + 1) #[.bool false] 4 from hZ).after hb2
    obtain ⟨w3, hw3⟩ : ∃ w3, (w2.alloc (.cells #[.slice aT fs.length cT, .slice (some ⟨gG, 0, none⟩) gs.length cG] 42)).alloc (.cells #[.string s] 9) = w3 := ⟨_, rfl⟩
    have hB3 : BlkAt w3 w2.heap.size #[.slice aT fs.length cT, .slice (some ⟨gG, 0, none⟩) gs.length cG] 42 := by rw [← hw3]; exact (BlkAt.new w2 _ _).alloc _
    have hSt3 : BlkAt w3 (w2.heap.size + 1) #[.string s] 9 := by rw [← hw3]; exact BlkAt.new_at _ _ _ _ (by simp)
    have hP3 : PlanAt w3 w1.drew.heap.size (.slice aT fs.length cT) (.slice (some ⟨gG, 0, none⟩) gs.length cG) gs fs := by rw [← hw3]; exact ⟨(hPl.1.alloc _).alloc _, (hPl.2.alloc _).alloc _⟩
    have hS3 : BlkAt w3 (w.heap.size + 1) #[.string s] 9 := by rw [← hw3]; exact (hS2.alloc _).alloc _
    have hZ3 : BlkAt w3 (w.heap.size + 1 + 1) #[.bool false] 4 := by rw [← hw3]; exact (hZ2.alloc _).alloc _
    have hb3 : Below w.heap.size w w3 := by rw [← hw3]; exact bel_alloc (bel_alloc hb1 _) _
    have hz3 : w3.heap.size = w2.heap.size + 1 + 1 := by rw [← hw3]; simp
    rw [hw3]
    clear hw3 hS hZ hb hb2 hS2 hZ2 hPl hb1
    have HZ3 := Lib.hid hz3
    clear hz3
    go_wp2
    refine wp_rangeIt 3 (gf := 33) (lb := #[.pointer (some ⟨w2.heap.size, 0, none⟩), .pointer (some ⟨w2.heap.size + 1, 0, none⟩)]) rfl (enters_of Try.func33 (by kernel_rfl) rfl) rfl (w.heap.size + 1 + 1) s.size (by have := HZ3.out; omega) (fun x => decide (x ≠ s.size)) (lensL gs fs s.data.toList)
      (fun pre W => BlkAt W (w.heap.size + 1 + 1) #[.bool false] 4 ∧ BlkAt W (w.heap.size + 1) #[.string s] 9 ∧ Below w.heap.size w W)
      (fun c _ W => c = .ret ∧ BlkAt W (w.heap.size + 1 + 1) #[.bool true] 4 ∧ Below w.heap.size w W)
      (fun W1 hbW hzW => ?hit) (fun pre W W' h hbW => ?hI) (fun c pre W W' h hbW => ?hIx) ⟨hZ3, hS3, hb3⟩
      (fun x => { tmps := #[.agg #[.string t, L], .string s, .pointer (some ⟨w.heap.size, 0, none⟩), .pointer (some ⟨w.heap.size + 1, 0, none⟩), .pointer (some ⟨w.heap.size + 1 + 1, 0, none⟩), .int .i64 (x : Int), .agg #[.string t, L], .agg #[.slice aT fs.length cT, .slice (some ⟨gG, 0, none⟩) gs.length cG], .string s, .func (.func 33) #[] #[.pointer (some ⟨w2.heap.size, 0, none⟩), .pointer (some ⟨w2.heap.size + 1, 0, none⟩)], .int .i64 (x : Int), undef, undef, undef, undef], defers := [] }) ?assign ?body ?done ?stop
    case hit =>
      have hz := HZ3.out
      refine iterOk 3 _ _ _ _ _ _ aT cT gG cG gs fs s hs HGL.out (by omega) _ (by omega) (by omega) ⟨by omega, by omega, by omega⟩ ⟨by omega, by omega, by omega⟩ (fun b hb => by have := hTb b hb; omega) ⟨by omega, by omega, by omega⟩ W1 (by omega) (hB3.after hbW) (hSt3.after hbW) ⟨own_aft hP3.1 hbW, own_aft hP3.2 hbW⟩
    case hI =>
      have hz := HZ3.out
      exact ⟨h.1.below hbW (by omega), h.2.1.below hbW (by omega), h.2.2.trans (hbW.mono (by omega))⟩
    case hIx =>
      have hz := HZ3.out
      exact ⟨h.1, h.2.1.below hbW (by omega), h.2.2.trans (hbW.mono (by omega))⟩
    case assign =>
      intro l x W K hK
      gi_wp2
      exact hK
    case body =>
      rintro l pre x W ⟨hZ4, hS4, hb4⟩ hxN
      have q4 := hS4.cell 0 (v := .string s) rfl
      have z4 := hZ4.cell 0 (v := .bool false) rfl
      have f4 := hZ4.frozen 0
      by_cases hx : x = s.size
      · have hxe : ((x : Int) == (s.size : Int)) = true := by rw [hx]; simp
        have HXe := Lib.hid hx
        clear hx
        gi_wp2
        exact ⟨by rw [HXe.out]; simp, Kr.set _ 0 _ _, rfl, hZ4.set 0 _, bel_set hb4 ⟨w.heap.size + 1 + 1, 0, none⟩ (by show w.heap.size ≤ w.heap.size + 1 + 1; omega) _⟩
      · have hxe : ((x : Int) == (s.size : Int)) = false := by rw [beq_eq_false_iff_ne]; omega
        have HXe := Lib.hid hx
        clear hx
        gi_wp2
        exact ⟨decide_eq_true HXe.out, Kr.refl _ _, hZ4, hS4, hb4⟩
    case done =>
      rintro W ⟨hZ4, hS4, hb4⟩ hall _ hK
      have hF : patB t.data.toList v s.data.toList = false := by
        rw [Bool.eq_false_iff, HM.out]
        intro h
        have := hall s.size ((mem_lensL gs fs s.data.toList s.size).2 ⟨by rw [len_list]; exact Nat.le_refl _, by unfold lenB; rw [← len_list s, List.take_length]; exact h⟩)
        simp at this
      have HFF := Lib.hid hF
      clear hF
      have z4 := hZ4.cell 0 (v := .bool false) rfl
      have f4 := hZ4.frozen 0
      have hK5 : (W.setCell ⟨w.heap.size + 1 + 1, 0, none⟩ (.bool false)).heap[w3.heap.size]? = some (.deferred (some [])) := (Below.heap_setCell _ _ _ _ (by show w3.heap.size ≠ w.heap.size + 1 + 1; have := HZ3.out; omega)).trans hK
      have hZ5 : BlkAt (W.setCell ⟨w.heap.size + 1 + 1, 0, none⟩ (.bool false)) (w.heap.size + 1 + 1) #[.bool false] 4 := hZ4.set 0 _
      have hb5 := bel_set hb4 ⟨w.heap.size + 1 + 1, 0, none⟩ (by show w.heap.size ≤ w.heap.size + 1 + 1; omega) (.bool false)
      have HK5 := Lib.hid (And.intro hK5 (And.intro hZ5 hb5))
      clear hK5 hZ5 hb5 hK
      go_wp2
      obtain ⟨hK5, hZ5, hb5⟩ := HK5.out
      have c5 := (hZ5.put (D := w3.heap.size) (by have := HZ3.out; omega) (.deferred none)).cell 0 (v := .bool false) rfl
      refine leave_marks hK5 (.bool false) ?_ ⟨congrArg (fun b => Ending.returned (.bool b)) HFF.out.symm, bel_put hb5 (by have := HZ3.out; omega) _⟩
      simp [results, Try.results10, go_sem, c5]
    case stop =>
      rintro c pre x W hpre hall hgo ⟨rfl, hZ4, hb4⟩ hK
      have hF : patB t.data.toList v s.data.toList = true := by
        rw [HM.out]
        have hxs : x = s.size := by simpa using hgo
        have := (mem_lensL gs fs s.data.toList x).1 (hpre.subset (by simp))
        unfold lenB at this
        rw [hxs, ← len_list s, List.take_length] at this
        exact this.2
      have HFF := Lib.hid hF
      clear hF
      have z4 := hZ4.cell 0 (v := .bool true) rfl
      have HK5 := Lib.hid hK
      clear hK
      go_wp2
      have c5 := (hZ4.put (D := w3.heap.size) (by have := HZ3.out; omega) (.deferred none)).cell 0 (v := .bool true) rfl
      refine leave_marks HK5.out (.bool true) ?_ ⟨congrArg (fun b => Ending.returned (.bool b)) HFF.out.symm, bel_put hb4 (by have := HZ3.out; omega) _⟩
      simp [results, Try.results10, go_sem, c5]
end Go.Proofs.Ytmpneifjjnfckaa
