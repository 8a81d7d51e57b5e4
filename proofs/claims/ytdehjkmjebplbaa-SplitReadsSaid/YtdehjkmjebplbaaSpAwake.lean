/-
  The contract of conchlaw7.awake: the fixed checks of layer 7 hold.
-/
import Derived.Test.YtdehjkmjebplbaaSpWords
import Derived.Test.YtdehjkmjebplbaaSplitSmall
namespace Go.Proofs.Ytdehjkmjebplbaa
open Go.RowKit

theorem lit2 (w : World) (a b : List UInt8) : StrRow (w.alloc (.cells #[.string ⟨a.toArray⟩, .string ⟨b.toArray⟩] 9)) (.slice (some ⟨w.heap.size, 0, none⟩) 2 2) [a, b] := by
  refine ⟨_, 2, rfl, by simp [maxLen], fun _ => ⟨_, rfl, ?_⟩⟩
  intro j x hj
  match j, hj with
  | 0, hj => simp at hj; subst hj; simp [strV]
  | 1, hj => simp at hj; subst hj; simp [strV]
theorem Fields_at (s t : ByteArray) (xs : List (List UInt8)) (hs : s.size ≤ 1048576) (ht : t.size ≤ 1048576) (h : fieldsOf s.data.toList t.data.toList = xs) (w : World) : Calls Try.prog 11 #[.string s, .string t] w (LinesLeft w xs) := by
  rw [← h]; exact splitFields_is s t hs ht w
theorem Words_at (s t : ByteArray) (n : Int) (xs : List (List UInt8)) (hs : s.size ≤ 1048576) (ht : t.size ≤ 1048576) (h : wordsP (ofS t.data.toList) (wordsN n - 1) s.data.toList = xs) (w : World) : Calls Try.prog 16 #[.string s, .string t, .int .i64 n] w (LinesLeft w xs) := by
  rw [← h]; exact splitWords_is s t n hs ht w
theorem Trim_at (s t u : ByteArray) (hs : s.size ≤ 1048576) (ht : t.size ≤ 1048576) (h : trimP (ofS t.data.toList) s.data.toList = u.data.toList) (w : World) : Calls Try.prog 9 #[.string s, .string t] w (Gives w (.string u)) := by
  have := splitTrim_is s t hs ht w
  rwa [h, ← strV_str u _ rfl] at this
theorem Whole_at (s t : ByteArray) (b : Bool) (hs : s.size ≤ 1048576) (ht : t.size ≤ 1048576) (h : wholeB s.data.toList t.data.toList = b) (w : World) : Calls Try.prog 13 #[.string s, .string t] w (Gives w (.bool b)) := by
  rw [← h]; exact splitWhole_is s t hs ht w
theorem SameTexts_yes (a b : Value) (xs : List (List UInt8)) (w : World) (ha : StrRow w a xs) (hb : StrRow w b xs) :
    Calls Try.prog 10 #[a, b] w (Gives w (.bool true)) := by
  have := SameTexts_any a b xs xs w ha hb
  rw [decide_eq_true rfl] at this
  refine this.mono ?_
  rintro e w' ⟨rfl, n, rfl⟩
  exact ⟨rfl, bel_drewN (Below.refl _ _) n⟩

set_option maxHeartbeats 2000000 in
set_option maxRecDepth 100000 in
theorem awake7_is (w : World) : Calls Try.prog 8 #[] w (Gives w (.bool true)) := by
  have H1 := Lib.hid (Fields_at ⟨#[32, 97, 32, 32, 98]⟩ ⟨#[32]⟩ [[97], [98]] (by decide) (by decide) (by decide))
  have H2 := Lib.hid (Whole_at ⟨#[97, 98]⟩ ⟨#[32]⟩ true (by decide) (by decide) (by decide))
  have H3 := Lib.hid (Whole_at ⟨#[]⟩ ⟨#[32]⟩ false (by decide) (by decide) (by decide))
  have H4 := Lib.hid (Trim_at ⟨#[32, 97, 32, 98, 32]⟩ ⟨#[32]⟩ ⟨#[97, 32, 98]⟩ (by decide) (by decide) (by decide))
  have H5 := Lib.hid (Words_at ⟨#[97, 32, 98, 32, 99]⟩ ⟨#[32]⟩ 2 [[97], [98, 32, 99]] (by decide) (by decide) (by decide))
  go_enter Try.func8, Try.ntmps8
  go_wp2_with fail
  refine (H1.out _).mono ?_
  rintro e w2 ⟨v, rfl, hown, hb2⟩
  have HO := Lib.hid (StrRow.of_owns (hown.alloc (.cells #[.string ⟨#[97]⟩, .string ⟨#[98]⟩] 9)))
  have hb3 := bel_alloc hb2 (.cells #[.string ⟨#[97]⟩, .string ⟨#[98]⟩] 9)
  clear hb2 hown
  go_wp2_with fail
  refine (SameTexts_yes _ _ [[97], [98]] _ HO.out (lit2 _ _ _)).mono ?_
  rintro e w3 ⟨rfl, hb4⟩
  have hb5 := bel_step hb3 hb4
  clear hb3 hb4 HO
  go_wp2_with fail
  refine (H2.out _).mono ?_
  rintro e w4 ⟨rfl, hb6⟩
  have hb7 := bel_step hb5 hb6
  clear hb5 hb6
  go_wp2_with fail
  refine (H3.out _).mono ?_
  rintro e w5 ⟨rfl, hb8⟩
  have hb9 := bel_step hb7 hb8
  clear hb7 hb8
  go_wp2_with fail
  refine (H4.out _).mono ?_
  rintro e w6 ⟨rfl, hb10⟩
  have hb11 := bel_step hb9 hb10
  clear hb9 hb10
  go_wp2_with fail
  refine (H5.out _).mono ?_
  rintro e w7 ⟨v2, rfl, hown, hb2⟩
  have HO := Lib.hid (StrRow.of_owns (hown.alloc (.cells #[.string ⟨#[97]⟩, .string ⟨#[98, 32, 99]⟩] 9)))
  have hb3 := bel_alloc (bel_step hb11 hb2) (.cells #[.string ⟨#[97]⟩, .string ⟨#[98, 32, 99]⟩] 9)
  clear hb2 hown hb11
  go_wp2_with fail
  refine (SameTexts_yes _ _ [[97], [98, 32, 99]] _ HO.out (lit2 _ _ _)).mono ?_
  rintro e w8 ⟨rfl, hb4⟩
  have hb5 := bel_step hb3 hb4
  clear hb3 hb4 HO
  go_wp2
  go_ret
  exact ⟨rfl, hb5⟩
end Go.Proofs.Ytdehjkmjebplbaa
