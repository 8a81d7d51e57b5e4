/-
  conchlaw7.SplitTrims returns true at any text, any two numbers.
-/
import Derived.Test.YtdehjkmjebplbaaSpAwake
import Derived.Test.YtdehjkmjebplbaaBits
namespace Go.Proofs.Ytdehjkmjebplbaa
open Go.RowKit

theorem ofS_two (c : UInt8) (h : inP (ofS [32, 58]) c = false) : c.toNat ≠ 32 ∧ c.toNat ≠ 58 := by
  constructor
  · intro he
    rw [show inP (ofS [32, 58]) c = true from by unfold inP; rw [he]; rfl] at h
    cases h
  · intro he
    rw [show inP (ofS [32, 58]) c = true from by unfold inP; rw [he]; rfl] at h
    cases h
theorem trimP_none (l : List UInt8) : trimP (ofS []) l = l := trimP_id (fun _ _ => rfl) (fun _ _ => rfl)
theorem all_snoc {q : UInt8 → Bool} {X : ByteArray} {z : List UInt8} (h : ∀ b ∈ X.data.toList, q b = true) (k : ∀ b ∈ z, q b = true) : ∀ b ∈ (X ++ ⟨z.toArray⟩).data.toList, q b = true := fun b hb => by
  rw [ByteArray.data_append] at hb
  simp at hb
  rcases hb with h1 | h1
  · exact h b (by simpa using h1)
  · exact k b h1

set_option maxHeartbeats 4000000 in
set_option maxRecDepth 100000 in
theorem SplitTrims_walk (s : ByteArray) (a b : Int) (w : World) (hs : s.size ≤ maxLen) :
    Calls Try.prog 3 #[.string s, .int .i64 a, .int .i64 b] w (Gives w (.bool true)) := by
  by_cases hl : 200 < s.size
  · unfold maxLen at hs
    go_enter Try.func3, Try.ntmps3
    go_wp2_with fail
    refine (awake7_is _).mono ?_
    rintro e w2 ⟨rfl, hb2⟩
    go_wp2
    go_ret
    exact ⟨rfl, hb2⟩
  · have hl2 : decide (200 < s.size) = false := decide_eq_false hl
    have hl1 : s.size ≤ 200 := by omega
    clear hs hl
    obtain ⟨T, hT⟩ : ∃ T : ByteArray, T.data.toList = trimP (ofS [32, 58]) s.data.toList := ⟨⟨(trimP (ofS [32, 58]) s.data.toList).toArray⟩, rfl⟩
    have hTs : T.size ≤ s.size := by
      have h1 := trimP_len (p := ofS [32, 58]) s.data.toList
      rw [← hT] at h1
      simpa using h1
    have H1 := Lib.hid (Trim_at s ⟨#[32, 58]⟩ T (by omega) (by decide) hT.symm)
    have H2 := Lib.hid (Trim_at T ⟨#[32, 58]⟩ T (by omega) (by decide) (by rw [hT]; exact trimP_twice _))
    have H3 : Hid (∀ X Y : ByteArray, X.size ≤ 100 → Y.size ≤ 100 → (∀ b ∈ X.data.toList, inP (ofS [32, 58]) b = true) → (∀ b ∈ Y.data.toList, inP (ofS [32, 58]) b = true) → ∀ w, Calls Try.prog 9 #[.string (X ++ s ++ Y), .string ⟨#[32, 58]⟩] w (Gives w (.string T))) := Lib.hid fun X Y hX hY h1 h2 w => Trim_at (X ++ s ++ Y) ⟨#[32, 58]⟩ T (by rw [ByteArray.size_append, ByteArray.size_append]; omega) (by decide) (by
      rw [hT, ByteArray.data_append, ByteArray.data_append, Array.toList_append, Array.toList_append]
      exact trimP_app _ _ _ h1 h2) w
    have H4 := Lib.hid (Trim_at s ⟨#[]⟩ s (by omega) (by decide) (trimP_none _))
    have HH : Hid (∀ c, T.data.toList.head? = some c → c.toNat ≠ 32 ∧ c.toNat ≠ 58) := Lib.hid fun c hc => ofS_two c (trimP_head (by rw [← hT]; exact hc))
    have HE : Hid (∀ c, T.data.toList.getLast? = some c → c.toNat ≠ 32 ∧ c.toNat ≠ 58) := Lib.hid fun c hc => ofS_two c (trimP_last (by rw [← hT]; exact hc))
    clear hT
    obtain ⟨a1, a2⟩ := and_mask_le a 3 (by decide) 7 (by decide)
    obtain ⟨b1, b2⟩ := and_mask_le b 3 (by decide) 7 (by decide)
    obtain ⟨A, hA⟩ : ∃ A : Nat, bits .and .i64 a 7 = (A : Int) := ⟨(bits .and .i64 a 7).toNat, by omega⟩
    obtain ⟨B, hB⟩ : ∃ B : Nat, bits .and .i64 b 7 = (B : Int) := ⟨(bits .and .i64 b 7).toNat, by omega⟩
    have hA7 : A ≤ 7 := by omega
    have hB7 : B ≤ 7 := by omega
    clear a1 a2 b1 b2
    go_enter Try.func3, Try.ntmps3
    go_wp2_with fail
    refine (H1.out _).mono ?_
    rintro e w1 ⟨rfl, hb1⟩
    clear H1
    go_wp2
    go_loop [9, 11] (fun x i => ∃ (X : ByteArray) (k : Nat), k ≤ A ∧ x = .string X ∧ i = .int .i64 (k : Int) ∧ X.size ≤ 2 * k ∧ Hid (∀ b ∈ X.data.toList, inP (ofS [32, 58]) b = true)) (fun _ i => A - (intOf i).toNat)
    case atStart => exact ⟨⟨#[]⟩, 0, Nat.zero_le _, rfl, rfl, Nat.le_refl _, Lib.hid (fun b hb => by cases hb)⟩
    case round =>
      obtain ⟨X, k, hk, rfl, rfl, hX, HX⟩ := hrel
      by_cases hka : k < A
      · have hki : (k : Int) < (A : Int) := by omega
        have HX2 := Lib.hid (all_snoc (z := [58, 32]) HX.out (by decide))
        have hXm : X.size ≤ 1000 := by omega
        go_wp2
        go_round
        case rel => exact ⟨_, k + 1, by omega, rfl, by go_num, by rw [ByteArray.size_append]; show X.size + 2 ≤ _; omega, HX2⟩
        case measure => simp [intOf]; omega
      · have hki : decide ((k : Int) < (A : Int)) = false := decide_eq_false (by omega)
        have hki2 : decide (k < A) = false := decide_eq_false hka
        go_wp2
        go_loop [10, 12] (fun x i => ∃ (Y : ByteArray) (k : Nat), k ≤ B ∧ x = .string Y ∧ i = .int .i64 (k : Int) ∧ Y.size ≤ k ∧ Hid (∀ b ∈ Y.data.toList, inP (ofS [32, 58]) b = true)) (fun _ i => B - (intOf i).toNat)
        case atStart => exact ⟨⟨#[]⟩, 0, Nat.zero_le _, rfl, rfl, Nat.le_refl _, Lib.hid (fun b hb => by cases hb)⟩
        case round =>
          obtain ⟨Y, j, hj, rfl, rfl, hY, HY⟩ := hrel
          by_cases hjb : j < B
          · have hji : (j : Int) < (B : Int) := by omega
            have HY2 := Lib.hid (all_snoc (z := [32]) HY.out (by decide))
            have hYm : Y.size ≤ 1000 := by omega
            go_wp2
            go_round
            case rel => exact ⟨_, j + 1, by omega, rfl, by go_num, by rw [ByteArray.size_append]; show Y.size + 1 ≤ _; omega, HY2⟩
            case measure => simp [intOf]; omega
          · have hji : decide ((j : Int) < (B : Int)) = false := decide_eq_false (by omega)
            have hji2 : decide (j < B) = false := decide_eq_false hjb
            have HX3 := Lib.hid (H3.out X Y (by omega) (by omega) HX.out HY.out)
            have hTi : (T.size : Int) ≤ (s.size : Int) := by omega
            have hXm : X.size ≤ 1000 := by omega
            have hYm : Y.size ≤ 1000 := by omega
            clear H3 HX HY hki hki2 hka hjb
            by_cases hz : T.size = 0
            · have he := emp_of_size hz
              subst he
              clear HH HE hz
              go_wp2_with fail
              refine (H2.out _).mono ?_
              rintro e w2 ⟨rfl, hb2⟩
              have hb3 := bel_step hb1 hb2
              clear hb1 hb2
              go_wp2_with fail
              refine (HX3.out _).mono ?_
              rintro e w3 ⟨rfl, hb4⟩
              have hb5 := bel_step hb3 hb4
              clear hb3 hb4
              go_wp2_with fail
              refine (H4.out _).mono ?_
              rintro e w4 ⟨rfl, hb6⟩
              have hb7 := bel_step hb5 hb6
              clear hb5 hb6
              go_wp2_with fail
              refine (awake7_is _).mono ?_
              rintro e w5 ⟨rfl, hb8⟩
              have hb9 := bel_step hb7 hb8
              clear hb7 hb8
              go_wp2
              go_ret
              exact ⟨rfl, hb9⟩
            · have hp : 0 < T.size := by omega
              have he := emp_false hp
              obtain ⟨q, hq⟩ : ∃ q, T.size = q + 1 := ⟨T.size - 1, by omega⟩
              have hql : q < T.size := by omega
              have EQ : (T.size : Int) - 1 = (q : Int) := by omega
              have hq0 : (0 : Int) ≤ (q : Int) := by omega
              have hq1 : (q : Int) < (T.size : Int) := by omega
              have hp1 : (0 : Int) < (T.size : Int) := by omega
              have n0 := HH.out T[0] (by have h0 := drop_cons T 0 hp; rw [List.drop_zero] at h0; rw [h0]; rfl)
              have n1 := HE.out T[q] (by rw [last_snocB hq hql, List.getLast?_concat])
              have g0 : ((T[0].toNat : Int) == 32) = false := by rw [beq_eq_false_iff_ne]; omega
              have g1 : ((T[0].toNat : Int) == 58) = false := by rw [beq_eq_false_iff_ne]; omega
              have g2 : ((T[q].toNat : Int) == 32) = false := by rw [beq_eq_false_iff_ne]; omega
              have g3 : ((T[q].toNat : Int) == 58) = false := by rw [beq_eq_false_iff_ne]; omega
              clear HH HE n0 n1 hz hq
              go_wp2_with fail
              refine (H2.out _).mono ?_
              rintro e w2 ⟨rfl, hb2⟩
              have hb3 := bel_step hb1 hb2
              clear hb1 hb2
              go_wp2_with fail
              refine (HX3.out _).mono ?_
              rintro e w3 ⟨rfl, hb4⟩
              have hb5 := bel_step hb3 hb4
              clear hb3 hb4
              go_wp2_with fail
              refine (H4.out _).mono ?_
              rintro e w4 ⟨rfl, hb6⟩
              have hb7 := bel_step hb5 hb6
              clear hb5 hb6
              go_wp2_with fail
              refine (awake7_is _).mono ?_
              rintro e w5 ⟨rfl, hb8⟩
              have hb9 := bel_step hb7 hb8
              clear hb7 hb8
              go_wp2
              go_ret
              exact ⟨rfl, hb9⟩
end Go.Proofs.Ytdehjkmjebplbaa
