/-
  Contracts of package split's Fields, Whole, Trim and Words.
-/
import Derived.Test.YtdehjkmjebplbaaSpNext
namespace Go.Proofs.Ytdehjkmjebplbaa
open Go.RowKit

theorem own_drewN {w : World} {base : Nat} {e : TypeId} {z : Nat} {v : Value} {n : Nat} {xs : List Value} (h : w.ownsRow base e z v n xs) (q : Nat) : (w.drewN q).ownsRow base e z v n xs := h
theorem bel_drewN {w w' : World} (h : Below w.heap.size w w') (n : Nat) : Below w.heap.size w (w'.drewN n) := h.trans ⟨rfl, rfl, rfl, Nat.le_refl _, fun _ _ => rfl⟩
/-- the marks are laid into a new variable -/
theorem marks_laid (w w1 : World) (hb : Below w.heap.size w w1) (l : List UInt8) : ∃ w2 : World, (w1.alloc (.cells (Array.replicate 256 (.bool false)) 35)).setRow w1.heap.size (Lib.setCells l) = w2 ∧ BlkAt w2 w1.heap.size (Lib.setCells l) 35 ∧ Below w.heap.size w w2 ∧ w2.heap.size = w1.heap.size + 1 :=
  ⟨_, rfl, blk_row (BlkAt.new _ _ _), below_row (bel_alloc hb _) hb.size _, by simp⟩

set_option maxHeartbeats 2000000 in
set_option maxRecDepth 100000 in
theorem splitTrim_is (s t : ByteArray) (hs : s.size ≤ 1048576) (ht : t.size ≤ 1048576) (w : World) :
    Calls Try.prog 9 #[.string s, .string t] w (Gives w (strV (trimP (ofS t.data.toList) s.data.toList))) := by
  have hz := zero_marks
  have HM := Lib.hid (marked_is t ht)
  have HT := fun b w hB => Lib.hid (trim_is t.data.toList b s w hs hB)
  go_enter Try.func9, Try.ntmps9
  go_wp2_with fail
  refine (HM.out _).mono ?_
  rintro ending w1 ⟨rfl, hb⟩
  clear HM
  obtain ⟨w2, hw2, hB, hb2, _⟩ := marks_laid w w1 hb t.data.toList
  have HW2 := Lib.hid hw2
  clear hw2
  go_wp2_with (first | (refine wpList_store_row rfl 35 _ _ rfl w1.heap.size _ rfl rfl _ _ (BlkAt.new w1 _ _) (size_marks _) (by rw [Lib.setCells_size, Array.size_replicate]) (Lib.setCells_one _) ?_; rw [HW2.out]) | fail)
  refine (HT _ _ hB).out.mono ?_
  rintro ending w3 ⟨rfl, n, rfl⟩
  go_wp2
  go_ret
  exact ⟨rfl, bel_drewN hb2 n⟩

set_option maxHeartbeats 2000000 in
set_option maxRecDepth 100000 in
theorem splitWhole_is (s t : ByteArray) (hs : s.size ≤ 1048576) (ht : t.size ≤ 1048576) (w : World) :
    Calls Try.prog 13 #[.string s, .string t] w (Gives w (.bool (wholeB s.data.toList t.data.toList))) := by
  have hz := zero_marks
  have HM := Lib.hid (marked_is t ht)
  have HT := fun b w hB => Lib.hid (row_is t.data.toList b s false w hs hB)
  have HV : Hid (wholeB s.data.toList t.data.toList = wholeRow (ofS t.data.toList) s.data.toList) := Lib.hid (by rw [whole_row]; rfl)
  rw [HV.out]
  clear HV
  unfold wholeRow
  generalize rowN (ofS t.data.toList) false s.data.toList = k at *
  by_cases hz0 : s.size = 0
  · have he := emp_of_size hz0
    subst he
    clear hz0 HT
    go_enter Try.func13, Try.ntmps13
    go_wp2_with fail
    refine (HM.out _).mono ?_
    rintro ending w1 ⟨rfl, hb⟩
    clear HM
    obtain ⟨w2, hw2, hB, hb2, _⟩ := marks_laid w w1 hb t.data.toList
    have HW2 := Lib.hid hw2
    clear hw2
    go_wp2_with (first | (refine wpList_store_row rfl 35 _ _ rfl w1.heap.size _ rfl rfl _ _ (BlkAt.new w1 _ _) (size_marks _) (by rw [Lib.setCells_size, Array.size_replicate]) (Lib.setCells_one _) ?_; rw [HW2.out]) | fail)
    go_ret
    exact ⟨rfl, hb2⟩
  · have hp : 0 < s.size := by omega
    have he := emp_false hp
    have HE : Hid (s.data.toList.isEmpty = false) := Lib.hid (by rw [← toList_data]; exact he)
    have HQ : Hid (((k : Int) == (s.size : Int)) = decide (k = s.data.toList.length)) := Lib.hid (by rw [Bool.eq_iff_iff, decide_eq_true_eq, beq_iff_eq]; simp; omega)
    rw [HE.out, ← HQ.out]
    clear HE HQ hz0
    go_enter Try.func13, Try.ntmps13
    go_wp2_with fail
    refine (HM.out _).mono ?_
    rintro ending w1 ⟨rfl, hb⟩
    clear HM
    obtain ⟨w2, hw2, hB, hb2, _⟩ := marks_laid w w1 hb t.data.toList
    have HW2 := Lib.hid hw2
    clear hw2
    go_wp2_with (first | (refine wpList_store_row rfl 35 _ _ rfl w1.heap.size _ rfl rfl _ _ (BlkAt.new w1 _ _) (size_marks _) (by rw [Lib.setCells_size, Array.size_replicate]) (Lib.setCells_one _) ?_; rw [HW2.out]) | fail)
    refine (HT _ _ hB).out.mono ?_
    rintro ending w3 ⟨rfl, n, rfl⟩
    go_wp2
    go_ret
    exact ⟨rfl, bel_drewN hb2 n⟩
end Go.Proofs.Ytdehjkmjebplbaa
