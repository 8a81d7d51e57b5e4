/-
  The contract of the statements' own fixed checks of layer 1 (awake): they hold, in every world where Go's table of powers of ten reads as it is laid.
-/
import Derived.Test.YtfmmdhmoogjnhaaDoorText
import Derived.Test.YtfmmdhmoogjnhaaDoorSame
import Derived.Test.YtfmmdhmoogjnhaaDoorDigits
import Derived.Test.YtfmmdhmoogjnhaaDoorNums
namespace Go.Proofs.YtfmmdhmoogjnhaaDoor
open Go.RowKit

theorem Number_is (s : ByteArray) (o : Option Int) (w : World) (hs : s.size ≤ maxLen) (ho : numB s.data.toList = o) :
    Calls Tryd.prog 8 #[.string s] w fun e w' => e = .returned (.tuple #[.int .i64 (o.getD 0), .bool o.isSome]) ∧ w = w' := by
  rw [← ho]; exact Number_any s w hs
theorem Name_is (s : ByteArray) (b : Bool) (w : World) (hs : s.size ≤ maxLen) (hb : nameB s.data.toList = b) :
    Calls Tryd.prog 13 #[.string s] w fun e w' => e = .returned (.bool b) ∧ w = w' := by
  rw [← hb]; exact Name_any s w hs
theorem NameLen_is (s : ByteArray) (a n : Int) (w : World) (hs : s.size ≤ maxLen) (hn : nlen s.data.toList a = n) :
    Calls Tryd.prog 10 #[.string s, .int .i64 a] w fun e w' => e = .returned (.int .i64 n) ∧ w = w' := by
  rw [← hn]; exact NameLen_any s a w hs
theorem Lines_is (s : ByteArray) (ls : List (List UInt8)) (w : World) (hs : s.size ≤ 1048576) (hl : linesOf s.data.toList = ls) :
    Calls Tryd.prog 17 #[.string s] w (LinesLeft w ls) := by
  rw [← hl]; exact Lines_any s w hs
theorem itoa_m5 : Lib.itoa (-5) = [45, 53] := by
  rw [Lib.itoa, if_pos (by decide)]
  have : Lib.decDigits (-5 : Int).natAbs = [53] := by
    rw [show (-5 : Int).natAbs = 5 from rfl, Lib.decDigits, dif_pos (by decide)]; rfl
  rw [this]
theorem lit3 (w : World) (a b c : List UInt8) : StrRow (w.alloc (.cells #[.string ⟨a.toArray⟩, .string ⟨b.toArray⟩, .string ⟨c.toArray⟩] 9)) (.slice (some ⟨w.heap.size, 0, none⟩) 3 3) [a, b, c] := by
  refine ⟨_, 3, rfl, by simp [maxLen], fun _ => ⟨_, rfl, ?_⟩⟩
  intro j x hj
  match j, hj with
  | 0, hj => simp at hj; subst hj; simp [strV]
  | 1, hj => simp at hj; subst hj; simp [strV]
  | 2, hj => simp at hj; subst hj; simp [strV]
theorem small_len {n : Nat} (h : n ≤ 1000000) : n ≤ maxLen := by unfold maxLen; omega

set_option maxHeartbeats 1000000 in
theorem awake_any (w : World) (ht : TabOk w) : Calls Tryd.prog 9 #[] w (Gives w (.bool true)) := by
  have HT := Lib.hid ht; clear ht
  go_enter Tryd.func9, Tryd.ntmps9
  go_wp2_with fail
  refine (Number_is _ (some 12) _ (small_len (by decide)) (by decide)).mono ?_
  rintro e w' ⟨rfl, rfl⟩
  go_wp2_with fail
  refine (Number_is _ none _ (small_len (by decide)) (by decide)).mono ?_
  rintro e w' ⟨rfl, rfl⟩
  go_wp2_with fail
  refine (Digits_any _ (by decide) (by decide) _ HT.out).mono ?_
  rintro e w1 ⟨rfl, hb1⟩
  have HB1 := Lib.hid hb1; clear hb1
  rw [itoa_m5]
  unfold strV
  go_wp2_with fail
  refine (Name_is _ true _ (small_len (by decide)) (by decide)).mono ?_
  rintro e w' ⟨rfl, rfl⟩
  go_wp2_with fail
  refine (Name_is _ false _ (small_len (by decide)) (by decide)).mono ?_
  rintro e w' ⟨rfl, rfl⟩
  go_wp2_with fail
  refine (NameLen_is _ _ 2 _ (small_len (by decide)) (by decide)).mono ?_
  rintro e w' ⟨rfl, rfl⟩
  go_wp2_with fail
  refine (Lines_is _ [[97], [], [98]] _ (by decide) (by decide)).mono ?_
  rintro e w2 ⟨v, rfl, hown, hb2⟩
  have HO := Lib.hid (StrRow.of_owns (hown.alloc (.cells #[.string ⟨#[97]⟩, .string ⟨#[]⟩, .string ⟨#[98]⟩] 9)))
  have HB2 := Lib.hid hb2; clear hb2 hown
  go_wp2_with fail
  refine (SameTexts_any _ _ [[97], [], [98]] [[97], [], [98]] _ HO.out (lit3 _ _ _ _)).mono ?_
  rintro e w3 ⟨rfl, q, rfl⟩
  go_wp2
  go_ret
  refine ⟨rfl, ?_⟩
  have h1 := HB1.out
  have h2 := HB2.out
  have h3 : Below w.heap.size w w2 := h1.trans (h2.mono h1.size)
  exact below_drewN (h3.alloc h3.size _) _
end Go.Proofs.YtfmmdhmoogjnhaaDoor
