/-
  conchlaw7.SplitTells returns true at any two texts, any number.
-/
import Derived.Test.YtdehjkmjebplbaaSpAwake
import Derived.Test.YtdehjkmjebplbaaBits
import Derived.Test.YtdehjkmjebplbaaLater
namespace Go.Proofs.Ytdehjkmjebplbaa
open Go.RowKit

theorem StrRow.after {w w' : World} {v : Value} {xs : List (List UInt8)} (h : StrRow w v xs) (hb : Below w.heap.size w w') : StrRow w' v xs := by
  obtain ⟨ao, cap, rfl, h1, h2⟩ := h
  refine ⟨ao, cap, rfl, h1, fun hp => ?_⟩
  obtain ⟨g, rfl, hc⟩ := h2 hp
  refine ⟨g, rfl, fun j x hj => ?_⟩
  have c := hc j x hj
  have hlt := World.block_lt_of_cell? w _ c
  have hq := hb.block g hlt
  rw [← c]
  simp only [World.cell?, hq]
theorem str_of_left {w w' : World} {v : Value} {xs : List (List UInt8)} (h : w'.ownsRow w.heap.size 9 1 v xs.length (xs.map strV)) : StrRow w' v xs := StrRow.of_owns h

set_option maxHeartbeats 4000000 in
set_option maxRecDepth 100000 in
theorem SplitTells_walk (s t : ByteArray) (n : Int) (w : World) (hs : s.size ≤ maxLen) (ht : t.size ≤ maxLen) :
    Calls Try.prog 4 #[.string s, .string t, .int .i64 n] w (Gives w (.bool true)) := by
  by_cases hl : 300 < s.size
  · unfold maxLen at hs ht
    have hl2 : decide (300 < s.size) = true := decide_eq_true hl
    go_enter Try.func4, Try.ntmps4
    go_wp2_with fail
    refine (awake7_is _).mono ?_
    rintro e w2 ⟨rfl, hb2⟩
    go_wp2
    go_ret
    exact ⟨rfl, hb2⟩
  by_cases hm : 60 < t.size
  · unfold maxLen at hs ht
    have hl2 : decide (300 < s.size) = false := decide_eq_false hl
    have hm2 : decide (60 < t.size) = true := decide_eq_true hm
    go_enter Try.func4, Try.ntmps4
    go_wp2_with fail
    refine (awake7_is _).mono ?_
    rintro e w2 ⟨rfl, hb2⟩
    go_wp2
    go_ret
    exact ⟨rfl, hb2⟩
  have hl2 : decide (300 < s.size) = false := decide_eq_false hl
  have hm2 : decide (60 < t.size) = false := decide_eq_false hm
  have hl1 : s.size ≤ 300 := by omega
  have hm1 : t.size ≤ 60 := by omega
  clear hs ht hl hm
  go_enter Try.func4, Try.ntmps4
  go_wp2
  go_loopw [0, 1, 2, 7] (fun x y z i wr => ∃ (u v : ByteArray) (m : Int) (k : Nat), k ≤ 2 ∧ u.size ≤ 300 ∧ v.size ≤ 60 ∧ x = .string u ∧ y = .string v ∧ z = .int .i64 m ∧ i = .int .i64 (k : Int) ∧ Below w.heap.size w wr) (fun _ _ _ i _ => 2 - (intOf i).toNat)
  case atStart => exact ⟨s, t, n, 0, by omega, hl1, hm1, rfl, rfl, rfl, rfl, Below.refl _ _⟩
  case round =>
    clear hl1 hm1 hl2 hm2
    obtain ⟨u, v, m, k, hk, hu, hv, rfl, rfl, rfl, rfl, hb⟩ := hrel
    by_cases hk2 : k < 2
    · have hki : (k : Int) < 2 := by omega
      have F1 := Lib.hid (splitFields_is u v (by omega) (by omega))
      have F2 := Lib.hid (refFields_is u v (by omega) (by omega))
      have G1 := Lib.hid (splitWhole_is u v (by omega) (by omega))
      have G2 := Lib.hid (refWhole_is u v (by omega) (by omega))
      have H1 := Lib.hid (splitTrim_is u v (by omega) (by omega))
      have H2 := Lib.hid (refTrim_is u v (by omega) (by omega))
      have I1 := Lib.hid (splitWords_is u v m (by omega) (by omega))
      have I2 := Lib.hid (refWords_is u v m (by omega) (by omega))
      have T1 := Lib.hid (tame7_is u (by omega))
      have hT9 := tame7_size u
      unfold strV at H1
      generalize fieldsOf u.data.toList v.data.toList = fs at *
      generalize wholeB u.data.toList v.data.toList = wb at *
      generalize (⟨(trimP (ofS v.data.toList) u.data.toList).toArray⟩ : ByteArray) = tr at *
      generalize wordsP (ofS v.data.toList) (wordsN m - 1) u.data.toList = ws at *
      generalize tame7 u = T at *
      go_wp2_with fail
      refine (F1.out _).mono ?_
      rintro e w1 ⟨v1, rfl, hown1, hb1⟩
      have R1 := Lib.hid (StrRow.of_owns hown1)
      have hb2 := bel_step hb hb1
      clear hb hb1 hown1 F1
      go_wp2_with fail
      refine (F2.out _).mono ?_
      rintro e w2 ⟨v2, rfl, hown2, hb3⟩
      have R2 := Lib.hid (StrRow.of_owns hown2)
      have R3 := Lib.hid (R1.out.after hb3)
      have hb4 := bel_step hb2 hb3
      clear hb2 hb3 hown2 F2 R1
      go_wp2_with fail
      refine (SameTexts_yes _ _ fs _ R3.out R2.out).mono ?_
      rintro e w3 ⟨rfl, hb5⟩
      have hb6 := bel_step hb4 hb5
      clear hb4 hb5 R2 R3
      go_wp2_with fail
      refine (G1.out _).mono ?_
      rintro e w4 ⟨rfl, hb7⟩
      have hb8 := bel_step hb6 hb7
      clear hb6 hb7 G1
      go_wp2_with fail
      refine (G2.out _).mono ?_
      rintro e w5 ⟨rfl, hb9⟩
      have hb10 := bel_step hb8 hb9
      clear hb8 hb9 G2
      go_wp2_with fail
      refine (H1.out _).mono ?_
      rintro e w6 ⟨rfl, hb11⟩
      have hb12 := bel_step hb10 hb11
      clear hb10 hb11 H1
      go_wp2_with fail
      refine (H2.out _).mono ?_
      rintro e w7 ⟨rfl, rfl⟩
      clear H2
      go_wp2_with fail
      refine (I1.out _).mono ?_
      rintro e w8 ⟨v8, rfl, hown8, hb13⟩
      have R8 := Lib.hid (StrRow.of_owns hown8)
      have hb14 := bel_step hb12 hb13
      clear hb12 hb13 hown8 I1
      go_wp2_with fail
      refine (I2.out _).mono ?_
      rintro e w9 ⟨v9, rfl, hown9, hb15⟩
      have R9 := Lib.hid (StrRow.of_owns hown9)
      have R7 := Lib.hid (R8.out.after hb15)
      have hb16 := bel_step hb14 hb15
      clear hb14 hb15 hown9 I2 R8
      go_wp2_with fail
      refine (SameTexts_yes _ _ ws _ R7.out R9.out).mono ?_
      rintro e w10 ⟨rfl, hb17⟩
      have hb18 := bel_step hb16 hb17
      clear hb16 hb17 R7 R9
      obtain ⟨d1, d2⟩ := and_mask_le (v.size : Int) 1 (by decide) 1 (by decide)
      rcases (show bits .and .i64 (v.size : Int) 1 = 0 ∨ bits .and .i64 (v.size : Int) 1 = 1 by omega) with hD | hD
      · clear d1 d2
        go_wp2
        refine region_later (by kernel_rfl) (by kernel_rfl) ?_
        repeat (go_big_quiet_step (fail))
        go_big_quiet_step (exact later_same (T1.out _))
        repeat (go_big_quiet_step (fail))
        refine wpQuiet_nil ?_
        rintro _ ⟨mm, rfl⟩
        have hb19 := bel_step hb18 mm.below
        clear hb18 T1
        generalize mm.at_ = V at *
        go_wp2
        go_roundw
        case rel => exact ⟨T, _, _, k + 1, by omega, by omega, by decide, rfl, rfl, rfl, by go_num, hb19⟩
        case measure => simp [intOf]; omega
      · clear d1 d2
        go_wp2
        refine region_later (by kernel_rfl) (by kernel_rfl) ?_
        repeat (go_big_quiet_step (fail))
        go_big_quiet_step (exact later_same (T1.out _))
        repeat (go_big_quiet_step (fail))
        refine wpQuiet_nil ?_
        rintro _ ⟨mm, rfl⟩
        have hb19 := bel_step hb18 mm.below
        clear hb18 T1
        generalize mm.at_ = V at *
        go_wp2
        go_roundw
        case rel => exact ⟨T, _, _, k + 1, by omega, by omega, by decide, rfl, rfl, rfl, by go_num, hb19⟩
        case measure => simp [intOf]; omega
    · have hki : decide ((k : Int) < 2) = false := decide_eq_false (by omega)
      have hki2 : decide (k < 2) = false := decide_eq_false hk2
      go_wp2_with fail
      refine (awake7_is _).mono ?_
      rintro e w2 ⟨rfl, hb2⟩
      have hb3 := bel_step hb hb2
      clear hb hb2
      go_wp2
      go_ret
      exact ⟨rfl, hb3⟩
end Go.Proofs.Ytdehjkmjebplbaa
