/-
  conchlaw1.TextBounds returns true for every input.
-/
import Derived.Test.YtfmmdhmoogjnhaaDoorAwake
import Derived.Test.YtfmmdhmoogjnhaaDoorBits
namespace Go.Proofs.YtfmmdhmoogjnhaaDoor
open Go.RowKit

/-- the text that Digits gives, as bytes -/
theorem strV_eq (l : List UInt8) : strV l = .string ⟨l.toArray⟩ := rfl
theorem data_list (l : List UInt8) : (⟨l.toArray⟩ : ByteArray).data.toList = l := rfl
theorem size_list (l : List UInt8) : (⟨l.toArray⟩ : ByteArray).size = l.length := rfl

set_option maxHeartbeats 1000000 in
theorem TextBounds_walk (n : Int) (w : World) (ht : TabOk w) :
    Calls Tryd.prog 3 #[.int .i64 n] w (Gives w (.bool true)) := by
  have HT := Lib.hid ht; clear ht
  have hm0 := and_mask_le n 4 (by decide) 15 (by decide)
  obtain ⟨m, hm⟩ : ∃ m, bits BinOp.and IntKind.i64 n 15 = m := ⟨_, rfl⟩
  rw [hm] at hm0
  obtain ⟨ha, hb⟩ := hm0
  have HL := Lib.hid (itoa_len (4611686018427387896 + (m - 8) + 8) (by omega) (by omega))
  by_cases h8 : m ≤ 8
  · have HN : Hid (numB (Lib.itoa (4611686018427387896 + (m - 8) + 8)) = some (4611686018427387896 + (m - 8) + 8)) := Lib.hid (by
      rw [numB_itoa _ (by omega)]; unfold maxNum; rw [if_pos (by omega)])
    have d1 : decide (m - 8 ≤ 0) = true := decide_eq_true (by omega)
    have d2 : (4611686018427387896 + (m - 8) + 8 == 4611686018427387904 + (m - 8)) = true := by rw [beq_iff_eq]; omega
    go_enter Tryd.func3, Tryd.ntmps3
    go_wp2_with fail
    refine (Digits_any _ (by omega) (by omega) _ HT.out).mono ?_
    rintro e w1 ⟨rfl, hb1⟩
    have HB1 := Lib.hid hb1; clear hb1
    rw [strV_eq]
    go_wp2_with fail
    refine (Number_is _ (some (4611686018427387896 + (m - 8) + 8)) _ (small_len (by rw [size_list]; have := HL.out; omega)) (by rw [data_list]; exact HN.out)).mono ?_
    rintro e w' ⟨rfl, rfl⟩
    go_wp2_with fail
    refine (Number_is _ none _ (small_len (by decide)) (by decide)).mono ?_
    rintro e w' ⟨rfl, rfl⟩
    go_wp2_with fail
    refine (Number_is _ none _ (small_len (by decide)) (by decide)).mono ?_
    rintro e w' ⟨rfl, rfl⟩
    go_wp2_with fail
    refine (Number_is _ none _ (small_len (by decide)) (by decide)).mono ?_
    rintro e w' ⟨rfl, rfl⟩
    go_wp2_with fail
    refine (awake_any _ (HT.out.below HB1.out)).mono ?_
    rintro e w2 ⟨rfl, hb2⟩
    have HB2 := Lib.hid hb2; clear hb2
    go_wp2
    go_ret
    exact ⟨rfl, HB1.out.trans (HB2.out.mono HB1.out.size)⟩
  · have HN : Hid (numB (Lib.itoa (4611686018427387896 + (m - 8) + 8)) = none) := Lib.hid (by
      rw [numB_itoa _ (by omega)]; unfold maxNum; rw [if_neg (by omega)])
    have d1 : decide (m - 8 ≤ 0) = false := decide_eq_false (by omega)
    go_enter Tryd.func3, Tryd.ntmps3
    go_wp2_with fail
    refine (Digits_any _ (by omega) (by omega) _ HT.out).mono ?_
    rintro e w1 ⟨rfl, hb1⟩
    have HB1 := Lib.hid hb1; clear hb1
    rw [strV_eq]
    go_wp2_with fail
    refine (Number_is _ none _ (small_len (by rw [size_list]; have := HL.out; omega)) (by rw [data_list]; exact HN.out)).mono ?_
    rintro e w' ⟨rfl, rfl⟩
    go_wp2_with fail
    refine (Number_is _ none _ (small_len (by decide)) (by decide)).mono ?_
    rintro e w' ⟨rfl, rfl⟩
    go_wp2_with fail
    refine (Number_is _ none _ (small_len (by decide)) (by decide)).mono ?_
    rintro e w' ⟨rfl, rfl⟩
    go_wp2_with fail
    refine (Number_is _ none _ (small_len (by decide)) (by decide)).mono ?_
    rintro e w' ⟨rfl, rfl⟩
    go_wp2_with fail
    refine (awake_any _ (HT.out.below HB1.out)).mono ?_
    rintro e w2 ⟨rfl, hb2⟩
    have HB2 := Lib.hid hb2; clear hb2
    go_wp2
    go_ret
    exact ⟨rfl, HB1.out.trans (HB2.out.mono HB1.out.size)⟩
end Go.Proofs.YtfmmdhmoogjnhaaDoor
