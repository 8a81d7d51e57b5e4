/-
  The contract of package pat's length: the least, or the greatest, of the lengths that are told; 0 of none.
-/
import Derived.Test.YtmpneifjjnfckaaPmMatch
import Derived.Test.YtmpneifjjnfckaaPmCutPlain
namespace Go.Proofs.Ytmpneifjjnfckaa
open Go.RowKit Go.Shelf

attribute [local go_sem] Oper.semAt_some


theorem last_snoc (pre : List Nat) (x : Nat) : (pre ++ [x]).getLast?.getD 0 = x := by simp

set_option maxHeartbeats 16000000 in
set_option maxRecDepth 100000 in
theorem length_is (b0 : Nat) (T G : Value) (gs : List Bool) (fs : List (Nat → Bool)) (hgl : gs.length = fs.length + 1) (hfl : fs.length ≤ 1048576) (s : ByteArray) (hs : s.size ≤ 1048576) (long : Bool) (w : World) (hPl : PlanAt w b0 T G gs fs) : Calls Try.prog 28 #[planV T G, .string s, .bool long] w (Gives w (.int .i64 (lenR long (lensL gs fs s.data.toList) : Nat))) := by
  obtain ⟨aT, cT, gG, cG, rfl, rfl, hTb, hGb1, hGb2⟩ := plan_forms hPl hgl
  have HGL := Lib.hid hgl
  clear hgl
  have hM := BlkAt.new w #[.slice aT fs.length cT, .slice (some ⟨gG, 0, none⟩) gs.length cG] 42
  have hb := bel_alloc (Below.refl w.heap.size w) (.cells #[.slice aT fs.length cT, .slice (some ⟨gG, 0, none⟩) gs.length cG] 42)
  obtain ⟨wA, hwA⟩ : ∃ wA, w.alloc (.cells #[.slice aT fs.length cT, .slice (some ⟨gG, 0, none⟩) gs.length cG] 42) = wA := ⟨_, rfl⟩
  have hsA : wA.heap.size = w.heap.size + 1 := by rw [← hwA]; simp
  rw [hwA] at hM hb
  have hN := BlkAt.new_at wA #[.bool long] 4 _ hsA
  have hM := hM.alloc (.cells #[.bool long] 4)
  have hb := bel_alloc hb (.cells #[.bool long] 4)
  obtain ⟨wB, hwB⟩ : ∃ wB, wA.alloc (.cells #[.bool long] 4) = wB := ⟨_, rfl⟩
  have hsB : wB.heap.size = w.heap.size + 1 + 1 := by rw [← hwB]; simp [hsA]
  rw [hwB] at hM hN hb
  have hZ := BlkAt.new_at wB #[.int .i64 0] 3 _ hsB
  have hM := hM.alloc (.cells #[.int .i64 0] 3)
  have hN := hN.alloc (.cells #[.int .i64 0] 3)
  have hb := bel_alloc hb (.cells #[.int .i64 0] 3)
  obtain ⟨w1, hw1⟩ : ∃ w1, wB.alloc (.cells #[.int .i64 0] 3) = w1 := ⟨_, rfl⟩
  have hs1 : w1.heap.size = w.heap.size + 1 + 1 + 1 := by rw [← hw1]; simp [hsB]
  rw [hw1] at hM hN hb hZ
  have hP1 : PlanAt w1 b0 (.slice aT fs.length cT) (.slice (some ⟨gG, 0, none⟩) gs.length cG) gs fs := ⟨own_aft hPl.1 hb, own_aft hPl.2 hb⟩
  have HLn := Lib.hid lengths_is
  unfold planV at HLn ⊢
  have HW := Lib.hid (And.intro hwA (And.intro hwB hw1))
  clear hwA hwB hw1 hsA hsB hPl
  obtain ⟨R, hR⟩ : ∃ R, lenR long (lensL gs fs s.data.toList) = R := ⟨_, rfl⟩
  rw [hR]
  have HR := Lib.hid hR
  clear hR
  have p0 := hM.cell 0 (v := .slice aT fs.length cT) rfl
  have p1 := hM.cell 1 (v := .slice (some ⟨gG, 0, none⟩) gs.length cG) rfl
  have HS1 := Lib.hid hs1
  clear hs1
  refine (callsIn_wide (n := 3)).1 (callsIn_of_wp_marks Try.func28 rfl trivial (wpIn_wide.2 ?_))
  simp only [Try.ntmps28, List.size_toArray, List.length_cons, List.length_nil, Nat.reduceAdd, Nat.reduceSub, Array.replicate_succ, Array.replicate_zero, List.push_toArray, List.append_toArray, List.nil_append, List.cons_append]
  go_upto_region 2 with fail
  rw [HW.out.1, HW.out.2.1, HW.out.2.2]
  go_wp2_with fail
  refine (HLn.out _ _ _ _).mono ?_
  rintro ending w2 ⟨rfl, hw2⟩
  have hB3 : BlkAt w2 w1.heap.size #[.slice aT fs.length cT, .slice (some ⟨gG, 0, none⟩) gs.length cG] 42 := by rw [hw2]; exact (BlkAt.new w1 _ _).alloc _
  have hSt3 : BlkAt w2 (w1.heap.size + 1) #[.string s] 9 := by rw [hw2]; exact BlkAt.new_at _ _ _ _ (by simp)
  have hP3 : PlanAt w2 b0 (.slice aT fs.length cT) (.slice (some ⟨gG, 0, none⟩) gs.length cG) gs fs := by rw [hw2]; exact ⟨(hP1.1.alloc _).alloc _, (hP1.2.alloc _).alloc _⟩
  have hN3 : BlkAt w2 (w.heap.size + 1) #[.bool long] 4 := by rw [hw2]; exact (hN.alloc _).alloc _
  have hZ3 : BlkAt w2 (w.heap.size + 1 + 1) #[.int .i64 0] 3 := by rw [hw2]; exact (hZ.alloc _).alloc _
  have hb3 : Below w.heap.size w w2 := by rw [hw2]; exact bel_alloc (bel_alloc hb _) _
  have HZ3 : Hid (w2.heap.size = w1.heap.size + 1 + 1) := Lib.hid (by rw [hw2]; simp)
  clear hw2 hM hN hZ hb hP1 p0 p1 HLn HW
  go_wp2
  refine wp_rangeIt 3 (gf := 33) (lb := #[.pointer (some ⟨w1.heap.size, 0, none⟩), .pointer (some ⟨w1.heap.size + 1, 0, none⟩)]) rfl (enters_of Try.func33 (by kernel_rfl) rfl) rfl (w.heap.size + 1 + 1) s.size (by have := HZ3.out; have := HS1.out; omega) (fun _ => long) (lensL gs fs s.data.toList)
    (fun pre W => BlkAt W (w.heap.size + 1 + 1) #[.int .i64 ((pre.getLast?.getD 0 : Nat) : Int)] 3 ∧ BlkAt W (w.heap.size + 1) #[.bool long] 4 ∧ Below w.heap.size w W)
    (fun c pre W => c = .exit 0 ∧ BlkAt W (w.heap.size + 1 + 1) #[.int .i64 ((pre.getLast?.getD 0 : Nat) : Int)] 3 ∧ Below w.heap.size w W)
    (fun W1 hbW hzW => ?hit) (fun pre W W' h hbW => ?hI) (fun c pre W W' h hbW => ?hIx) ⟨hZ3, hN3, hb3⟩
    (fun x => { tmps := #[.agg #[.slice aT fs.length cT, .slice (some ⟨gG, 0, none⟩) gs.length cG], .string s, .bool long, .pointer (some ⟨w.heap.size, 0, none⟩), undef, .pointer (some ⟨w.heap.size + 1, 0, none⟩), .int .i64 0, .pointer (some ⟨w.heap.size + 1 + 1, 0, none⟩), .int .i64 (x : Int), .agg #[.slice aT fs.length cT, .slice (some ⟨gG, 0, none⟩) gs.length cG], .string s, .func (.func 33) #[] #[.pointer (some ⟨w1.heap.size, 0, none⟩), .pointer (some ⟨w1.heap.size + 1, 0, none⟩)], .int .i64 (x : Int), undef, undef, undef, undef], defers := [] }) ?assign ?body ?done ?stop
  case hit =>
    have hz := HZ3.out
    have hz2 := HS1.out
    refine iterOk 3 _ _ _ _ _ _ aT cT gG cG gs fs s hs HGL.out (by omega) _ (by omega) (by omega) ⟨by omega, by omega, by omega⟩ ⟨by omega, by omega, by omega⟩ (fun b hb => by have := hTb b hb; omega) ⟨by omega, by omega, by omega⟩ W1 (by omega) (hB3.after hbW) (hSt3.after hbW) ⟨own_aft hP3.1 hbW, own_aft hP3.2 hbW⟩
  case hI =>
    have hz := HZ3.out
    have hz2 := HS1.out
    exact ⟨h.1.below hbW (by omega), h.2.1.below hbW (by omega), h.2.2.trans (hbW.mono (by omega))⟩
  case hIx =>
    have hz := HZ3.out
    have hz2 := HS1.out
    exact ⟨h.1, h.2.1.below hbW (by omega), h.2.2.trans (hbW.mono (by omega))⟩
  case assign =>
    intro l x W K hK
    gi_wp2
    exact hK
  case body =>
    rintro l pre x W ⟨hZ4, hN4, hb4⟩ hxN
    obtain ⟨B, hB⟩ : ∃ B, pre.getLast?.getD 0 = B := ⟨_, rfl⟩
    rw [hB] at hZ4
    clear hB
    have q4 := hN4.cell 0 (v := .bool long) rfl
    have z4 := hZ4.cell 0 (v := .int .i64 (B : Int)) rfl
    have f4 := hZ4.frozen 0
    have hZ5 : BlkAt (W.setCell ⟨w.heap.size + 1 + 1, 0, none⟩ (.int .i64 (x : Int))) (w.heap.size + 1 + 1) #[.int .i64 (((pre ++ [x]).getLast?.getD 0 : Nat) : Int)] 3 := by rw [last_snoc]; exact hZ4.set 0 _
    have hN5 := hN4.far (a := ⟨w.heap.size + 1 + 1, 0, none⟩) (by show w.heap.size + 1 ≠ w.heap.size + 1 + 1; omega) (.int .i64 (x : Int))
    have hb5 := bel_set hb4 ⟨w.heap.size + 1 + 1, 0, none⟩ (by show w.heap.size ≤ w.heap.size + 1 + 1; omega) (.int .i64 (x : Int))
    have HH := Lib.hid (And.intro hZ5 (And.intro hN5 hb5))
    clear hZ5 hN5 hb5
    cases long with
    | true =>
      gi_wp2
      exact ⟨rfl, Kr.set _ 0 _ _, HH.out.1, HH.out.2.1, HH.out.2.2⟩
    | false =>
      gi_wp2
      exact ⟨rfl, Kr.set _ 0 _ _, rfl, HH.out.1, HH.out.2.2⟩
  case done =>
    rintro W ⟨hZ4, hN4, hb4⟩ hall _ hK
    have hF : (lensL gs fs s.data.toList).getLast?.getD 0 = R := by
      rw [← HR.out]
      unfold lenR
      cases long with
      | true => rfl
      | false =>
        cases hx : lensL gs fs s.data.toList with
        | nil => rfl
        | cons x xs => rw [hx] at hall; have := hall x (by simp); cases this
    rw [hF] at hZ4
    clear hF
    have z4 := hZ4.cell 0 (v := .int .i64 (R : Int)) rfl
    have HK5 := Lib.hid hK
    clear hK
    go_wp2
    refine leave_marks HK5.out (.int .i64 (R : Int)) ?_ ⟨rfl, bel_put hb4 (by have := HZ3.out; have := HS1.out; omega) _⟩
    simp [results, Try.results28, go_sem]
  case stop =>
    rintro c pre x W hpre hall hgo ⟨rfl, hZ4, hb4⟩ hK
    have hF : (pre ++ [x]).getLast?.getD 0 = R := by
      rw [← HR.out]
      unfold lenR
      cases long with
      | true => cases hgo
      | false =>
        cases pre with
        | cons y ys => have := hall y (by simp); cases this
        | nil =>
          obtain ⟨zs, hzs⟩ := hpre
          rw [← hzs]
          rfl
    rw [hF] at hZ4
    clear hF
    have z4 := hZ4.cell 0 (v := .int .i64 (R : Int)) rfl
    have HK5 := Lib.hid hK
    clear hK
    go_wp2
    refine leave_marks HK5.out (.int .i64 (R : Int)) ?_ ⟨rfl, bel_put hb4 (by have := HZ3.out; have := HS1.out; omega) _⟩
    simp [results, Try.results28, go_sem]
end Go.Proofs.Ytmpneifjjnfckaa
