/-
  conchlaw1.TextTells returns true for every input.
-/
import Derived.Test.YtfmmdhmoogjnhaaDoorAwake
import Derived.Test.YtfmmdhmoogjnhaaDoorRefDigits
import Derived.Test.YtfmmdhmoogjnhaaDoorBounds
namespace Go.Proofs.YtfmmdhmoogjnhaaDoor
open Go.RowKit

theorem size_of_list (s : ByteArray) : s.data.toList.length = s.size := by simp

theorem grown_below {w w' : World} (h : Below w.heap.size w w') (row : Option Nat) : w.grownBy w' row := ⟨h.os, h.tape, h.output, h.size, fun k hk _ => h.block k hk⟩
theorem RNumber_is (s : ByteArray) (o : Option Int) (w : World) (hs : s.size ≤ maxLen) (ho : numB s.data.toList = o) :
    Calls Tryd.prog 12 #[.string s] w fun e w' => e = .returned (.tuple #[.int .i64 (o.getD 0), .bool o.isSome]) ∧ w = w' := by
  rw [← ho]; exact RNumber_any s w hs
theorem RName_is (s : ByteArray) (b : Bool) (w : World) (hs : s.size ≤ maxLen) (hb : nameB s.data.toList = b) :
    Calls Tryd.prog 14 #[.string s] w fun e w' => e = .returned (.bool b) ∧ w = w' := by
  rw [← hb]; exact RName_any s w hs
theorem RLines_is (s : ByteArray) (ls : List (List UInt8)) (w : World) (hs : s.size ≤ 1048576) (hl : linesOf s.data.toList = ls) :
    Calls Tryd.prog 18 #[.string s] w (LinesLeft w ls) := by
  rw [← hl]; exact RLines_any s w hs
theorem SameTexts_yes (a b : Value) (xs : List (List UInt8)) (w : World) (ha : StrRow w a xs) (hb : StrRow w b xs) :
    Calls Tryd.prog 16 #[a, b] w (Told w true) := by
  have := SameTexts_any a b xs xs w ha hb
  rwa [decide_eq_true rfl] at this

set_option maxHeartbeats 2000000 in
theorem TextTells_walk (s : ByteArray) (a n : Int) (w : World) (hs : s.size ≤ maxLen) (h0 : -9223372036854775808 ≤ n) (h1 : n ≤ 9223372036854775807) (ht : TabOk w) :
    Calls Tryd.prog 4 #[.string s, .int .i64 a, .int .i64 n] w (Gives w (.bool true)) := by
  have HT := Lib.hid ht; clear ht
  by_cases hl : 400 < s.size
  · have hS := Lib.hid hs
    unfold maxLen at hs
    go_enter Tryd.func4, Tryd.ntmps4
    go_wp2_with fail
    refine (awake_any _ HT.out).mono ?_
    rintro e w2 ⟨rfl, hb2⟩
    have HB2 := Lib.hid hb2; clear hb2
    go_wp2
    go_ret
    exact ⟨rfl, HB2.out⟩
  · have hS := Lib.hid hs
    unfold maxLen at hs
    have hl2 : decide (400 < s.size) = false := decide_eq_false hl
    go_enter Tryd.func4, Tryd.ntmps4
    go_wp2_with fail
    go_loop [1, 7] (fun x i => ∃ (b : Int) (k : Nat), k ≤ 2 ∧ x = .int .i64 b ∧ i = .int .i64 k) (fun _ i => 2 - (intOf i).toNat)
    case atStart => exact ⟨a, 0, by omega, rfl, rfl⟩
    case round =>
      obtain ⟨b, k, hk, rfl, rfl⟩ := hrel
      by_cases hk2 : k < 2
      · go_wp2_with fail
        refine (NameLen_any _ _ _ hS.out).mono ?_
        rintro e w' ⟨rfl, rfl⟩
        go_wp2_with fail
        refine (RNameLen_any _ _ _ hS.out).mono ?_
        rintro e w' ⟨rfl, rfl⟩
        go_wp2_with fail
        go_round
        case rel => exact ⟨_, k + 1, by omega, rfl, by go_num⟩
        case measure => simp [intOf]; omega
      · obtain ⟨o, ho⟩ : ∃ o, numB s.data.toList = o := ⟨_, rfl⟩
        have HO := Lib.hid ho; clear ho
        obtain ⟨nb, hnb⟩ : ∃ nb, nameB s.data.toList = nb := ⟨_, rfl⟩
        have HNB := Lib.hid hnb; clear hnb
        obtain ⟨ls, hls⟩ : ∃ ls, linesOf s.data.toList = ls := ⟨_, rfl⟩
        have HLS := Lib.hid hls; clear hls
        have hsm : s.size ≤ 1048576 := by omega
        go_wp2_with fail
        refine (Number_is _ o _ hS.out HO.out).mono ?_
        rintro e w' ⟨rfl, rfl⟩
        go_wp2_with fail
        refine (RNumber_is _ o _ hS.out HO.out).mono ?_
        rintro e w' ⟨rfl, rfl⟩
        go_wp2_with fail
        refine (Name_is _ nb _ hS.out HNB.out).mono ?_
        rintro e w' ⟨rfl, rfl⟩
        go_wp2_with fail
        refine (RName_is _ nb _ hS.out HNB.out).mono ?_
        rintro e w' ⟨rfl, rfl⟩
        go_wp2_with fail
        refine (Digits_any _ h0 h1 _ HT.out).mono ?_
        rintro e w1 ⟨rfl, hb1⟩
        have HB1 := Lib.hid hb1; clear hb1
        rw [strV_eq]
        go_wp2_with fail
        refine (RDigits_any _ h0 h1 _).mono ?_
        rintro e w' ⟨rfl, rfl⟩
        rw [strV_eq]
        go_wp2_with fail
        refine (Lines_is _ ls _ hsm HLS.out).mono ?_
        rintro e w2 ⟨v1, rfl, hown1, hb2⟩
        have HO1 := Lib.hid hown1; have HB2 := Lib.hid hb2; clear hown1 hb2
        go_wp2_with fail
        refine (RLines_is _ ls _ hsm HLS.out).mono ?_
        rintro e w3 ⟨v2, rfl, hown2, hb3⟩
        have HR2 := Lib.hid (StrRow.of_owns hown2)
        have HR1 := Lib.hid (StrRow.of_owns (HO1.out.kept (grown_below hb3 none) (Classical.em _)))
        have HB3 := Lib.hid hb3; clear hown2 hb3 HO1
        go_wp2_with fail
        refine (SameTexts_yes _ _ ls _ HR1.out HR2.out).mono ?_
        rintro e w4 ⟨rfl, q, rfl⟩
        have h13 : Below w.heap.size w w3 := (HB1.out.trans (HB2.out.mono HB1.out.size)).trans (HB3.out.mono (Nat.le_trans HB1.out.size HB2.out.size))
        have HB4 := Lib.hid (below_drewN h13 q); clear h13
        go_wp2_with fail
        refine (awake_any _ (HT.out.below HB4.out)).mono ?_
        rintro e w5 ⟨rfl, hb5⟩
        have HB5 := Lib.hid (HB4.out.trans (hb5.mono HB4.out.size)); clear hb5
        go_wp2
        go_ret
        exact ⟨rfl, HB5.out⟩
end Go.Proofs.YtfmmdhmoogjnhaaDoor
