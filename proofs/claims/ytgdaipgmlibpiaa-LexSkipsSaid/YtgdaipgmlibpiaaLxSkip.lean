/-
  The contract of the document's Skip (conchref1).
-/
import Derived.Test.YtgdaipgmlibpiaaLxRef
namespace Go.Proofs.Ytgdaipgmlibpiaa
open Go.RowKit

theorem skip_blank {c : UInt8} {r : List UInt8} (h : c = 32 ∨ c = 9) : skipGo (c :: r) = 1 + skipGo r := by
  cases r with
  | nil => simp [skipGo, h]
  | cons d r => rw [skipGo, if_pos h]
theorem skip_join (r : List UInt8) : skipGo (92 :: 10 :: r) = 2 + skipGo r := by
  rw [skipGo, if_neg (by decide), if_pos (by decide)]
/-- how many bytes up to the line feed -/
def comN (l : List UInt8) : Nat := (l.takeWhile (fun b => b ≠ 10)).length
theorem skip_com (r : List UInt8) : skipGo (35 :: r) = comN (35 :: r) := by
  cases r with
  | nil => rfl
  | cons d r => rw [skipGo, if_neg (by decide), if_neg (fun h => absurd h.1 (by decide)), if_pos rfl]; rfl
theorem skip_else {c : UInt8} {r : List UInt8} (h1 : c ≠ 32) (h2 : c ≠ 9) (h3 : c ≠ 35) (h4 : ¬ (c = 92 ∧ r.head? = some 10)) : skipGo (c :: r) = 0 := by
  cases r with
  | nil => simp [skipGo, h1, h2, h3]
  | cons d r =>
    have h5 : ¬ (c = 92 ∧ d = 10) := fun h => h4 ⟨h.1, by rw [h.2]; rfl⟩
    rw [skipGo, if_neg (by simp [h1, h2]), if_neg h5, if_neg h3]
theorem com_more {c : UInt8} {r : List UInt8} (h : c ≠ 10) : comN (c :: r) = 1 + comN r := by
  unfold comN
  rw [List.takeWhile_cons, if_pos (by simpa using h), List.length_cons]
  omega
theorem com_stop (r : List UInt8) : comN (10 :: r) = 0 := by
  unfold comN
  rw [List.takeWhile_cons, if_neg (by simp)]
  rfl
theorem byte_ne {c d : UInt8} (h : ¬ c.toNat = d.toNat) : c ≠ d := fun e => h (by rw [e])
theorem byte_is {c d : UInt8} (h : c.toNat = d.toNat) : c = d := UInt8.toNat_inj.1 h
theorem skip_le (l : List UInt8) : skipGo l ≤ l.length := by
  have key : ∀ n (l : List UInt8), l.length ≤ n → skipGo l ≤ l.length := by
    intro n
    induction n with
    | zero => intro l h; cases l with | nil => exact Nat.le_refl _ | cons _ _ => simp at h
    | succ n ih =>
      intro l h
      match l, h with
      | [], _ => exact Nat.le_refl _
      | [c], _ =>
        simp only [skipGo, List.length_singleton]
        split
        · omega
        · split <;> omega
      | c :: d :: r, h =>
        simp only [List.length_cons] at h
        have h1 := ih (d :: r) (by simp; omega)
        have h2 := ih r (by omega)
        have h3 := (List.takeWhile_sublist (fun b : UInt8 => decide (b ≠ 10)) (l := c :: d :: r)).length_le
        rw [skipGo]
        simp only [List.length_cons] at *
        split
        · omega
        · split
          · omega
          · split
            · exact h3
            · omega
  exact key l.length l (Nat.le_refl _)

set_option maxHeartbeats 8000000 in
set_option maxRecDepth 100000 in
theorem refSkip_is (s : ByteArray) (at_ : Int) (w : World) (hs : s.size ≤ 1048576) : Calls Try.prog 13 #[.string s, .int .i64 at_] w fun e w' => e = .returned (.int .i64 (skipP s.data.toList at_ : Nat)) ∧ w = w' := by
  obtain ⟨R, hR⟩ : ∃ R, skipP s.data.toList at_ = R := ⟨_, rfl⟩
  rw [hR]
  obtain ⟨a0, ha0⟩ : ∃ a0, atIn s.data.toList at_ = a0 := ⟨_, rfl⟩
  have hmm : min (max at_ 0) (s.size : Int) = (a0 : Int) := by
    rw [← ha0]
    unfold atIn
    have : s.data.toList.length = s.size := by simp
    rw [this]
    omega
  have ha1 : a0 ≤ s.size := by omega
  have HR : Hid (a0 + skipGo (s.data.toList.drop a0) = R) := Lib.hid (by rw [← hR, ← ha0]; rfl)
  clear hR ha0
  go_enter Try.func13, Try.ntmps13
  go_wp2
  go_loop [1] (fun i => ∃ k : Nat, k ≤ s.size ∧ i = .int .i64 (k : Int) ∧ Hid (k + skipGo (s.data.toList.drop k) = R)) (fun i => s.size - (intOf i).toNat)
  case atStart => exact ⟨a0, ha1, rfl, HR⟩
  case round =>
    clear HR hmm ha1
    obtain ⟨k, hk, rfl, HR⟩ := hrel
    by_cases hlt : k < s.size
    · have hdc := drop_cons s k hlt
      have hx1 : (s[k].toNat : Int) < 256 := by have := s[k].toNat_lt; omega
      have hx0 : (0 : Int) ≤ (s[k].toNat : Int) := by omega
      have hk0 : (0 : Int) ≤ (k : Int) := by omega
      have hk1 : (k : Int) < (s.size : Int) := by omega
      by_cases h32 : s[k].toNat = 32
      · have b32 : ((s[k].toNat : Int) == 32) = true := by rw [h32]; rfl
        have HQ : Hid ((k + 1) + skipGo (s.data.toList.drop (k + 1)) = R) := Lib.hid (by rw [← HR.out, hdc, skip_blank (.inl (byte_is (d := 32) h32))]; omega)
        clear HR hdc h32
        go_wp2
        go_round
        case rel => exact ⟨k + 1, by omega, by go_num, HQ⟩
        case measure => simp [intOf]; omega
      have b32 : ((s[k].toNat : Int) == 32) = false := by rw [beq_eq_false_iff_ne]; omega
      by_cases h9 : s[k].toNat = 9
      · have b9 : ((s[k].toNat : Int) == 9) = true := by rw [h9]; rfl
        have HQ : Hid ((k + 1) + skipGo (s.data.toList.drop (k + 1)) = R) := Lib.hid (by rw [← HR.out, hdc, skip_blank (.inr (byte_is (d := 9) h9))]; omega)
        clear HR hdc h32 h9
        go_wp2
        go_round
        case rel => exact ⟨k + 1, by omega, by go_num, HQ⟩
        case measure => simp [intOf]; omega
      have b9 : ((s[k].toNat : Int) == 9) = false := by rw [beq_eq_false_iff_ne]; omega
      by_cases h92 : s[k].toNat = 92
      · have b92 : ((s[k].toNat : Int) == 92) = true := by rw [h92]; rfl
        have b35 : ((s[k].toNat : Int) == 35) = false := by rw [h92]; rfl
        by_cases hl2 : k + 1 < s.size
        · have d2 : decide ((k : Int) + 1 < (s.size : Int)) = true := decide_eq_true (by omega)
          have hk2 : (k : Int) + 1 < (s.size : Int) := by omega
          have hk3 : (0 : Int) ≤ (k : Int) + 1 := by omega
          have hdc2 := drop_cons s (k + 1) hl2
          have hy1 : (s[k + 1].toNat : Int) < 256 := by have := s[k + 1].toNat_lt; omega
          have hy0 : (0 : Int) ≤ (s[k + 1].toNat : Int) := by omega
          by_cases h10 : s[k + 1].toNat = 10
          · have b10 : ((s[k + 1].toNat : Int) == 10) = true := by rw [h10]; rfl
            have HQ : Hid ((k + 2) + skipGo (s.data.toList.drop (k + 2)) = R) := Lib.hid (by
              rw [← HR.out, hdc, hdc2, byte_is (d := 92) h92, byte_is (d := 10) h10, skip_join, show k + 1 + 1 = k + 2 from rfl]; omega)
            clear HR hdc hdc2 h32 h9 h92 h10
            go_wp2
            go_round
            case rel => exact ⟨k + 2, by omega, by go_num, HQ⟩
            case measure => simp [intOf]; omega
          · have b10 : ((s[k + 1].toNat : Int) == 10) = false := by rw [beq_eq_false_iff_ne]; omega
            have HX : Hid (R = k) := Lib.hid (by
              rw [← HR.out, hdc, skip_else (byte_ne (d := 32) h32) (byte_ne (d := 9) h9) (byte_ne (d := 35) (by rw [h92]; decide)) (fun h => h10 (by
                have h2 := h.2
                rw [hdc2] at h2
                simp only [List.head?_cons, Option.some.injEq] at h2
                rw [h2]
                rfl))]; rfl)
            clear HR hdc hdc2 h32 h9 h92 h10
            go_wp2
            go_ret
            exact ⟨by rw [HX.out]; rfl, rfl⟩
        · have d2 : decide ((k : Int) + 1 < (s.size : Int)) = false := decide_eq_false (by omega)
          have HX : Hid (R = k) := Lib.hid (by
            rw [← HR.out, hdc, skip_else (byte_ne (d := 32) h32) (byte_ne (d := 9) h9) (byte_ne (d := 35) (by rw [h92]; decide)) (fun h => by
              have h2 := h.2
              rw [List.drop_of_length_le (by simp; omega)] at h2
              cases h2)]; rfl)
          clear HR hdc h32 h9 h92
          go_wp2
          go_ret
          exact ⟨by rw [HX.out]; rfl, rfl⟩
      have b92 : ((s[k].toNat : Int) == 92) = false := by rw [beq_eq_false_iff_ne]; omega
      by_cases h35 : s[k].toNat = 35
      · have b35 : ((s[k].toNat : Int) == 35) = true := by rw [h35]; rfl
        have HQ : Hid (k + comN (s.data.toList.drop k) = R) := Lib.hid (by rw [← HR.out, hdc, byte_is (d := 35) h35, skip_com])
        clear HR hdc h32 h9 h92 h35
        go_wp2
        go_loop [1] (fun i => ∃ j : Nat, j ≤ s.size ∧ i = .int .i64 (j : Int) ∧ Hid (j + comN (s.data.toList.drop j) = R)) (fun i => s.size - (intOf i).toNat)
        case atStart => exact ⟨k, hk, rfl, HQ⟩
        case round =>
          clear HQ
          obtain ⟨j, hj, rfl, HJ⟩ := hrel
          by_cases hjl : j < s.size
          · have hdj := drop_cons s j hjl
            have hy1 : (s[j].toNat : Int) < 256 := by have := s[j].toNat_lt; omega
            have hy0 : (0 : Int) ≤ (s[j].toNat : Int) := by omega
            have hj0 : (0 : Int) ≤ (j : Int) := by omega
            have hj1 : (j : Int) < (s.size : Int) := by omega
            by_cases h10 : s[j].toNat = 10
            · have b10 : ((s[j].toNat : Int) != 10) = false := by rw [h10]; rfl
              have HX : Hid (R = j) := Lib.hid (by rw [← HJ.out, hdj, byte_is (d := 10) h10, com_stop]; rfl)
              clear HJ hdj h10
              go_wp2
              go_ret
              exact ⟨by rw [HX.out]; rfl, rfl⟩
            · have b10 : ((s[j].toNat : Int) != 10) = true := by simp only [bne_iff_ne, ne_eq]; omega
              have HQ : Hid ((j + 1) + comN (s.data.toList.drop (j + 1)) = R) := Lib.hid (by rw [← HJ.out, hdj, com_more (byte_ne (d := 10) h10)]; omega)
              clear HJ hdj h10
              go_wp2
              go_round
              case rel => exact ⟨j + 1, by omega, by go_num, HQ⟩
              case measure => simp [intOf]; omega
          · have HX : Hid (R = j) := Lib.hid (by rw [← HJ.out, List.drop_of_length_le (by simp; omega)]; rfl)
            have dj : decide ((j : Int) < (s.size : Int)) = false := decide_eq_false (by omega)
            clear HJ
            go_wp2
            go_ret
            exact ⟨by rw [HX.out]; rfl, rfl⟩
      · have b35 : ((s[k].toNat : Int) == 35) = false := by rw [beq_eq_false_iff_ne]; omega
        have HX : Hid (R = k) := Lib.hid (by
          rw [← HR.out, hdc, skip_else (byte_ne (d := 32) h32) (byte_ne (d := 9) h9) (byte_ne (d := 35) h35) (fun h => h92 (by rw [h.1]; rfl))]; rfl)
        clear HR hdc h32 h9 h92 h35
        go_wp2
        go_ret
        exact ⟨by rw [HX.out]; rfl, rfl⟩
    · have HX : Hid (R = k) := Lib.hid (by rw [← HR.out, List.drop_of_length_le (by simp; omega)]; rfl)
      clear HR
      go_wp2
      go_ret
      exact ⟨by rw [HX.out]; rfl, rfl⟩
end Go.Proofs.Ytgdaipgmlibpiaa
