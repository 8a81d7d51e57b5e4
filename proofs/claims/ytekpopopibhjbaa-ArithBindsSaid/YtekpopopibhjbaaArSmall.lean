/-
  Contracts of package arith's small functions: truth, holds, ofOne, ofTwo, asks, isBlank, ahead, between, isSign. (By wip/tools/gen_arsmall.py.)
-/
import Derived.Test.YtekpopopibhjbaaArPlain
import Derived.Test.YtekpopopibhjbaaBase
import Derived.Deep.QuietTactic
import Derived.BigQuiet
namespace Go.Proofs.Ytekpopopibhjbaa
open Go.RowKit

theorem bne_dec (a : Int) : (a != 0) = !decide (a = 0) := by by_cases h : a = 0 <;> simp [h]

set_option maxHeartbeats 1000000 in
theorem tru_is (b : Bool) (w : World) : Calls Try.prog 34 #[.bool b] w fun e w' => e = .returned (.int .i64 (truthI b)) ∧ w = w' := by
  cases b with
  | true =>
    go_enter Try.func34, Try.ntmps34
    go_wp2
    go_ret
    exact ⟨rfl, rfl⟩
  | false =>
    go_enter Try.func34, Try.ntmps34
    go_wp2
    go_ret
    exact ⟨rfl, rfl⟩

set_option maxHeartbeats 1000000 in
theorem holds_11 (a b : Int) (w : World) : Calls Try.prog 35 #[.int .i64 11, .int .i64 a, .int .i64 b] w fun e w' => e = .returned (.bool (decide (a < b))) ∧ w = w' := by
  go_enter Try.func35, Try.ntmps35
  go_wp2
  go_ret
  first | exact ⟨rfl, rfl⟩ | exact ⟨by simp, rfl⟩

set_option maxHeartbeats 1000000 in
theorem holds_12 (a b : Int) (w : World) : Calls Try.prog 35 #[.int .i64 12, .int .i64 a, .int .i64 b] w fun e w' => e = .returned (.bool (decide (a ≤ b))) ∧ w = w' := by
  go_enter Try.func35, Try.ntmps35
  go_wp2
  go_ret
  first | exact ⟨rfl, rfl⟩ | exact ⟨by simp, rfl⟩

set_option maxHeartbeats 1000000 in
theorem holds_13 (a b : Int) (w : World) : Calls Try.prog 35 #[.int .i64 13, .int .i64 a, .int .i64 b] w fun e w' => e = .returned (.bool (decide (b < a))) ∧ w = w' := by
  go_enter Try.func35, Try.ntmps35
  go_wp2
  go_ret
  first | exact ⟨rfl, rfl⟩ | exact ⟨by simp, rfl⟩

set_option maxHeartbeats 1000000 in
theorem holds_14 (a b : Int) (w : World) : Calls Try.prog 35 #[.int .i64 14, .int .i64 a, .int .i64 b] w fun e w' => e = .returned (.bool (decide (b ≤ a))) ∧ w = w' := by
  go_enter Try.func35, Try.ntmps35
  go_wp2
  go_ret
  first | exact ⟨rfl, rfl⟩ | exact ⟨by simp, rfl⟩

set_option maxHeartbeats 1000000 in
theorem holds_15 (a b : Int) (w : World) : Calls Try.prog 35 #[.int .i64 15, .int .i64 a, .int .i64 b] w fun e w' => e = .returned (.bool (decide (a = b))) ∧ w = w' := by
  go_enter Try.func35, Try.ntmps35
  go_wp2
  go_ret
  first | exact ⟨rfl, rfl⟩ | exact ⟨by simp, rfl⟩

set_option maxHeartbeats 1000000 in
theorem holds_16 (a b : Int) (w : World) : Calls Try.prog 35 #[.int .i64 16, .int .i64 a, .int .i64 b] w fun e w' => e = .returned (.bool (!decide (a = b))) ∧ w = w' := by
  go_enter Try.func35, Try.ntmps35
  go_wp2
  go_ret
  first | exact ⟨rfl, rfl⟩ | exact ⟨by simp, rfl⟩

set_option maxHeartbeats 2000000 in
theorem holds_17 (a b : Int) (w : World) : Calls Try.prog 35 #[.int .i64 17, .int .i64 a, .int .i64 b] w fun e w' => e = .returned (.bool (!decide (a = 0) && !decide (b = 0))) ∧ w = w' := by
  by_cases ha : a = 0
  · have HA : Hid ((!decide (a = 0) && !decide (b = 0)) = false) := Lib.hid (by simp [ha])
    have hd : (a == 0) = true := by simp [ha]
    go_enter Try.func35, Try.ntmps35
    go_wp2
    go_ret
    exact ⟨by rw [HA.out]; first | rfl | (simp; done) | (simp only [bne_dec, ha]; done) | (simp only [bne_dec, ha]; simp), rfl⟩
  · have HA : Hid ((!decide (a = 0) && !decide (b = 0)) = !decide (b = 0)) := Lib.hid (by simp [ha])
    have hd : (a == 0) = false := by simpa using ha
    go_enter Try.func35, Try.ntmps35
    go_wp2
    go_ret
    exact ⟨by rw [HA.out]; first | rfl | (simp; done) | (simp only [bne_dec, ha]; done) | (simp only [bne_dec, ha]; simp), rfl⟩

set_option maxHeartbeats 2000000 in
theorem holds_18 (a b : Int) (w : World) : Calls Try.prog 35 #[.int .i64 18, .int .i64 a, .int .i64 b] w fun e w' => e = .returned (.bool (!decide (a = 0) || !decide (b = 0))) ∧ w = w' := by
  by_cases ha : a = 0
  · have HA : Hid ((!decide (a = 0) || !decide (b = 0)) = !decide (b = 0)) := Lib.hid (by simp [ha])
    have hd : (a == 0) = true := by simp [ha]
    go_enter Try.func35, Try.ntmps35
    go_wp2
    go_ret
    exact ⟨by rw [HA.out]; first | rfl | (simp; done) | (simp only [bne_dec, ha]; done) | (simp only [bne_dec, ha]; simp), rfl⟩
  · have HA : Hid ((!decide (a = 0) || !decide (b = 0)) = true) := Lib.hid (by simp [ha])
    have hd : (a == 0) = false := by simpa using ha
    go_enter Try.func35, Try.ntmps35
    go_wp2
    go_ret
    exact ⟨by rw [HA.out]; first | rfl | (simp; done) | (simp only [bne_dec, ha]; done) | (simp only [bne_dec, ha]; simp), rfl⟩

set_option maxHeartbeats 1000000 in
theorem ofOne_3 (a : Int) (w : World) : Calls Try.prog 26 #[.int .i64 3, .int .i64 a] w fun e w' => e = .returned (.int .i64 (oneP 3 a)) ∧ w = w' := by
  go_enter Try.func26, Try.ntmps26
  go_wp2
  go_ret
  exact ⟨by simp [oneP, wrap64], rfl⟩

set_option maxHeartbeats 1000000 in
theorem ofOne_4 (a : Int) (w : World) : Calls Try.prog 26 #[.int .i64 4, .int .i64 a] w fun e w' => e = .returned (.int .i64 (oneP 4 a)) ∧ w = w' := by
  go_enter Try.func26, Try.ntmps26
  go_wp2
  go_ret
  exact ⟨rfl, rfl⟩

set_option maxHeartbeats 1000000 in
theorem ofOne_5 (a : Int) (w : World) : Calls Try.prog 26 #[.int .i64 5, .int .i64 a] w fun e w' => e = .returned (.int .i64 (oneP 5 a)) ∧ w = w' := by
  have hq : (a == 0) = decide (a = 0) := by by_cases h : a = 0 <;> simp [h]
  go_enter Try.func26, Try.ntmps26
  go_wp2_with fail
  refine (tru_is _ _).mono ?_
  rintro e w1 ⟨rfl, rfl⟩
  go_wp2
  go_ret
  exact ⟨by first | rfl | simp [oneP, hq], rfl⟩

theorem ofOne_is (k : Nat) (hk : 3 ≤ k ∧ k ≤ 5) (a : Int) (w : World) : Calls Try.prog 26 #[.int .i64 (k : Int), .int .i64 a] w fun e w' => e = .returned (.int .i64 (oneP k a)) ∧ w = w' := by
  rcases (show k = 3 ∨ k = 4 ∨ k = 5 by omega) with rfl | rfl | rfl
  · exact ofOne_3 a w
  · exact ofOne_4 a w
  · exact ofOne_5 a w

set_option maxHeartbeats 2000000 in
theorem ofTwo_6 (a b : Int) (w : World) : Calls Try.prog 27 #[.int .i64 6, .int .i64 a, .int .i64 b] w fun e w' => e = .returned (.tuple #[.int .i64 (twoP 6 a b).1, .int .i64 (twoP 6 a b).2]) ∧ w = w' := by
  have hp : twoP 6 a b = (wrap64 (a * b), 0) := rfl
  rw [hp]
  clear hp
  by_cases hb : b = 0
  · subst hb
    go_enter Try.func27, Try.ntmps27
    go_wp2
    go_ret2
    exact ⟨by first | rfl | simp [wrap64], rfl⟩
  · have hd : (b == 0) = false := by simpa using hb
    go_enter Try.func27, Try.ntmps27
    go_wp2
    go_ret2
    exact ⟨by first | rfl | simp [wrap64], rfl⟩

set_option maxHeartbeats 2000000 in
theorem ofTwo_9 (a b : Int) (w : World) : Calls Try.prog 27 #[.int .i64 9, .int .i64 a, .int .i64 b] w fun e w' => e = .returned (.tuple #[.int .i64 (twoP 9 a b).1, .int .i64 (twoP 9 a b).2]) ∧ w = w' := by
  have hp : twoP 9 a b = (wrap64 (a + b), 0) := rfl
  rw [hp]
  clear hp
  by_cases hb : b = 0
  · subst hb
    go_enter Try.func27, Try.ntmps27
    go_wp2
    go_ret2
    exact ⟨by first | rfl | simp [wrap64], rfl⟩
  · have hd : (b == 0) = false := by simpa using hb
    go_enter Try.func27, Try.ntmps27
    go_wp2
    go_ret2
    exact ⟨by first | rfl | simp [wrap64], rfl⟩

set_option maxHeartbeats 2000000 in
theorem ofTwo_10 (a b : Int) (w : World) : Calls Try.prog 27 #[.int .i64 10, .int .i64 a, .int .i64 b] w fun e w' => e = .returned (.tuple #[.int .i64 (twoP 10 a b).1, .int .i64 (twoP 10 a b).2]) ∧ w = w' := by
  have hp : twoP 10 a b = (wrap64 (a - b), 0) := rfl
  rw [hp]
  clear hp
  by_cases hb : b = 0
  · subst hb
    go_enter Try.func27, Try.ntmps27
    go_wp2
    go_ret2
    exact ⟨by first | rfl | simp [wrap64], rfl⟩
  · have hd : (b == 0) = false := by simpa using hb
    go_enter Try.func27, Try.ntmps27
    go_wp2
    go_ret2
    exact ⟨by first | rfl | simp [wrap64], rfl⟩

set_option maxHeartbeats 2000000 in
theorem ofTwo_7 (a b : Int) (w : World) : Calls Try.prog 27 #[.int .i64 7, .int .i64 a, .int .i64 b] w fun e w' => e = .returned (.tuple #[.int .i64 (twoP 7 a b).1, .int .i64 (twoP 7 a b).2]) ∧ w = w' := by
  by_cases hb : b = 0
  · subst hb
    have hp : twoP 7 a 0 = (0, 12) := rfl
    rw [hp]
    clear hp
    go_enter Try.func27, Try.ntmps27
    go_wp2
    go_ret2
    exact ⟨rfl, rfl⟩
  · have hp : twoP 7 a b = (wrap64 (a.tdiv b), 0) := by simp [twoP, hb]
    rw [hp]
    clear hp
    have hd : (b == 0) = false := by simpa using hb
    go_enter Try.func27, Try.ntmps27
    go_wp2
    go_ret2
    exact ⟨by first | rfl | simp [wrap64], rfl⟩

set_option maxHeartbeats 2000000 in
theorem ofTwo_8 (a b : Int) (w : World) : Calls Try.prog 27 #[.int .i64 8, .int .i64 a, .int .i64 b] w fun e w' => e = .returned (.tuple #[.int .i64 (twoP 8 a b).1, .int .i64 (twoP 8 a b).2]) ∧ w = w' := by
  by_cases hb : b = 0
  · subst hb
    have hp : twoP 8 a 0 = (0, 12) := rfl
    rw [hp]
    clear hp
    go_enter Try.func27, Try.ntmps27
    go_wp2
    go_ret2
    exact ⟨rfl, rfl⟩
  · have hp : twoP 8 a b = (a.tmod b, 0) := by simp [twoP, hb]
    rw [hp]
    clear hp
    have hd : (b == 0) = false := by simpa using hb
    go_enter Try.func27, Try.ntmps27
    go_wp2
    go_ret2
    exact ⟨by first | rfl | simp [wrap64], rfl⟩

set_option maxHeartbeats 2000000 in
theorem ofTwo_11 (a b : Int) (w : World) : Calls Try.prog 27 #[.int .i64 11, .int .i64 a, .int .i64 b] w fun e w' => e = .returned (.tuple #[.int .i64 (twoP 11 a b).1, .int .i64 (twoP 11 a b).2]) ∧ w = w' := by
  have hp : twoP 11 a b = (truthI (decide (a < b)), 0) := rfl
  rw [hp]
  clear hp
  have HH := Lib.hid (holds_11 a b)
  generalize (decide (a < b)) = q at HH ⊢
  by_cases hb : b = 0
  · subst hb
    go_enter Try.func27, Try.ntmps27
    go_wp2_with fail
    refine (HH.out _).mono ?_
    rintro e w1 ⟨rfl, rfl⟩
    go_wp2_with fail
    refine (tru_is _ _).mono ?_
    rintro e w1 ⟨rfl, rfl⟩
    go_wp2
    go_ret2
    exact ⟨rfl, rfl⟩
  · have hd : (b == 0) = false := by simpa using hb
    go_enter Try.func27, Try.ntmps27
    go_wp2_with fail
    refine (HH.out _).mono ?_
    rintro e w1 ⟨rfl, rfl⟩
    go_wp2_with fail
    refine (tru_is _ _).mono ?_
    rintro e w1 ⟨rfl, rfl⟩
    go_wp2
    go_ret2
    exact ⟨rfl, rfl⟩

set_option maxHeartbeats 2000000 in
theorem ofTwo_12 (a b : Int) (w : World) : Calls Try.prog 27 #[.int .i64 12, .int .i64 a, .int .i64 b] w fun e w' => e = .returned (.tuple #[.int .i64 (twoP 12 a b).1, .int .i64 (twoP 12 a b).2]) ∧ w = w' := by
  have hp : twoP 12 a b = (truthI (decide (a ≤ b)), 0) := rfl
  rw [hp]
  clear hp
  have HH := Lib.hid (holds_12 a b)
  generalize (decide (a ≤ b)) = q at HH ⊢
  by_cases hb : b = 0
  · subst hb
    go_enter Try.func27, Try.ntmps27
    go_wp2_with fail
    refine (HH.out _).mono ?_
    rintro e w1 ⟨rfl, rfl⟩
    go_wp2_with fail
    refine (tru_is _ _).mono ?_
    rintro e w1 ⟨rfl, rfl⟩
    go_wp2
    go_ret2
    exact ⟨rfl, rfl⟩
  · have hd : (b == 0) = false := by simpa using hb
    go_enter Try.func27, Try.ntmps27
    go_wp2_with fail
    refine (HH.out _).mono ?_
    rintro e w1 ⟨rfl, rfl⟩
    go_wp2_with fail
    refine (tru_is _ _).mono ?_
    rintro e w1 ⟨rfl, rfl⟩
    go_wp2
    go_ret2
    exact ⟨rfl, rfl⟩

set_option maxHeartbeats 2000000 in
theorem ofTwo_13 (a b : Int) (w : World) : Calls Try.prog 27 #[.int .i64 13, .int .i64 a, .int .i64 b] w fun e w' => e = .returned (.tuple #[.int .i64 (twoP 13 a b).1, .int .i64 (twoP 13 a b).2]) ∧ w = w' := by
  have hp : twoP 13 a b = (truthI (decide (b < a)), 0) := rfl
  rw [hp]
  clear hp
  have HH := Lib.hid (holds_13 a b)
  generalize (decide (b < a)) = q at HH ⊢
  by_cases hb : b = 0
  · subst hb
    go_enter Try.func27, Try.ntmps27
    go_wp2_with fail
    refine (HH.out _).mono ?_
    rintro e w1 ⟨rfl, rfl⟩
    go_wp2_with fail
    refine (tru_is _ _).mono ?_
    rintro e w1 ⟨rfl, rfl⟩
    go_wp2
    go_ret2
    exact ⟨rfl, rfl⟩
  · have hd : (b == 0) = false := by simpa using hb
    go_enter Try.func27, Try.ntmps27
    go_wp2_with fail
    refine (HH.out _).mono ?_
    rintro e w1 ⟨rfl, rfl⟩
    go_wp2_with fail
    refine (tru_is _ _).mono ?_
    rintro e w1 ⟨rfl, rfl⟩
    go_wp2
    go_ret2
    exact ⟨rfl, rfl⟩

set_option maxHeartbeats 2000000 in
theorem ofTwo_14 (a b : Int) (w : World) : Calls Try.prog 27 #[.int .i64 14, .int .i64 a, .int .i64 b] w fun e w' => e = .returned (.tuple #[.int .i64 (twoP 14 a b).1, .int .i64 (twoP 14 a b).2]) ∧ w = w' := by
  have hp : twoP 14 a b = (truthI (decide (b ≤ a)), 0) := rfl
  rw [hp]
  clear hp
  have HH := Lib.hid (holds_14 a b)
  generalize (decide (b ≤ a)) = q at HH ⊢
  by_cases hb : b = 0
  · subst hb
    go_enter Try.func27, Try.ntmps27
    go_wp2_with fail
    refine (HH.out _).mono ?_
    rintro e w1 ⟨rfl, rfl⟩
    go_wp2_with fail
    refine (tru_is _ _).mono ?_
    rintro e w1 ⟨rfl, rfl⟩
    go_wp2
    go_ret2
    exact ⟨rfl, rfl⟩
  · have hd : (b == 0) = false := by simpa using hb
    go_enter Try.func27, Try.ntmps27
    go_wp2_with fail
    refine (HH.out _).mono ?_
    rintro e w1 ⟨rfl, rfl⟩
    go_wp2_with fail
    refine (tru_is _ _).mono ?_
    rintro e w1 ⟨rfl, rfl⟩
    go_wp2
    go_ret2
    exact ⟨rfl, rfl⟩

set_option maxHeartbeats 2000000 in
theorem ofTwo_15 (a b : Int) (w : World) : Calls Try.prog 27 #[.int .i64 15, .int .i64 a, .int .i64 b] w fun e w' => e = .returned (.tuple #[.int .i64 (twoP 15 a b).1, .int .i64 (twoP 15 a b).2]) ∧ w = w' := by
  have hp : twoP 15 a b = (truthI (decide (a = b)), 0) := rfl
  rw [hp]
  clear hp
  have HH := Lib.hid (holds_15 a b)
  generalize (decide (a = b)) = q at HH ⊢
  by_cases hb : b = 0
  · subst hb
    go_enter Try.func27, Try.ntmps27
    go_wp2_with fail
    refine (HH.out _).mono ?_
    rintro e w1 ⟨rfl, rfl⟩
    go_wp2_with fail
    refine (tru_is _ _).mono ?_
    rintro e w1 ⟨rfl, rfl⟩
    go_wp2
    go_ret2
    exact ⟨rfl, rfl⟩
  · have hd : (b == 0) = false := by simpa using hb
    go_enter Try.func27, Try.ntmps27
    go_wp2_with fail
    refine (HH.out _).mono ?_
    rintro e w1 ⟨rfl, rfl⟩
    go_wp2_with fail
    refine (tru_is _ _).mono ?_
    rintro e w1 ⟨rfl, rfl⟩
    go_wp2
    go_ret2
    exact ⟨rfl, rfl⟩

set_option maxHeartbeats 2000000 in
theorem ofTwo_16 (a b : Int) (w : World) : Calls Try.prog 27 #[.int .i64 16, .int .i64 a, .int .i64 b] w fun e w' => e = .returned (.tuple #[.int .i64 (twoP 16 a b).1, .int .i64 (twoP 16 a b).2]) ∧ w = w' := by
  have hp : twoP 16 a b = (truthI (!decide (a = b)), 0) := rfl
  rw [hp]
  clear hp
  have HH := Lib.hid (holds_16 a b)
  generalize (!decide (a = b)) = q at HH ⊢
  by_cases hb : b = 0
  · subst hb
    go_enter Try.func27, Try.ntmps27
    go_wp2_with fail
    refine (HH.out _).mono ?_
    rintro e w1 ⟨rfl, rfl⟩
    go_wp2_with fail
    refine (tru_is _ _).mono ?_
    rintro e w1 ⟨rfl, rfl⟩
    go_wp2
    go_ret2
    exact ⟨rfl, rfl⟩
  · have hd : (b == 0) = false := by simpa using hb
    go_enter Try.func27, Try.ntmps27
    go_wp2_with fail
    refine (HH.out _).mono ?_
    rintro e w1 ⟨rfl, rfl⟩
    go_wp2_with fail
    refine (tru_is _ _).mono ?_
    rintro e w1 ⟨rfl, rfl⟩
    go_wp2
    go_ret2
    exact ⟨rfl, rfl⟩

set_option maxHeartbeats 2000000 in
theorem ofTwo_17 (a b : Int) (w : World) : Calls Try.prog 27 #[.int .i64 17, .int .i64 a, .int .i64 b] w fun e w' => e = .returned (.tuple #[.int .i64 (twoP 17 a b).1, .int .i64 (twoP 17 a b).2]) ∧ w = w' := by
  have hp : twoP 17 a b = (truthI (!decide (a = 0) && !decide (b = 0)), 0) := rfl
  rw [hp]
  clear hp
  have HH := Lib.hid (holds_17 a b)
  generalize (!decide (a = 0) && !decide (b = 0)) = q at HH ⊢
  by_cases hb : b = 0
  · subst hb
    go_enter Try.func27, Try.ntmps27
    go_wp2_with fail
    refine (HH.out _).mono ?_
    rintro e w1 ⟨rfl, rfl⟩
    go_wp2_with fail
    refine (tru_is _ _).mono ?_
    rintro e w1 ⟨rfl, rfl⟩
    go_wp2
    go_ret2
    exact ⟨rfl, rfl⟩
  · have hd : (b == 0) = false := by simpa using hb
    go_enter Try.func27, Try.ntmps27
    go_wp2_with fail
    refine (HH.out _).mono ?_
    rintro e w1 ⟨rfl, rfl⟩
    go_wp2_with fail
    refine (tru_is _ _).mono ?_
    rintro e w1 ⟨rfl, rfl⟩
    go_wp2
    go_ret2
    exact ⟨rfl, rfl⟩

set_option maxHeartbeats 2000000 in
theorem ofTwo_18 (a b : Int) (w : World) : Calls Try.prog 27 #[.int .i64 18, .int .i64 a, .int .i64 b] w fun e w' => e = .returned (.tuple #[.int .i64 (twoP 18 a b).1, .int .i64 (twoP 18 a b).2]) ∧ w = w' := by
  have hp : twoP 18 a b = (truthI (!decide (a = 0) || !decide (b = 0)), 0) := rfl
  rw [hp]
  clear hp
  have HH := Lib.hid (holds_18 a b)
  generalize (!decide (a = 0) || !decide (b = 0)) = q at HH ⊢
  by_cases hb : b = 0
  · subst hb
    go_enter Try.func27, Try.ntmps27
    go_wp2_with fail
    refine (HH.out _).mono ?_
    rintro e w1 ⟨rfl, rfl⟩
    go_wp2_with fail
    refine (tru_is _ _).mono ?_
    rintro e w1 ⟨rfl, rfl⟩
    go_wp2
    go_ret2
    exact ⟨rfl, rfl⟩
  · have hd : (b == 0) = false := by simpa using hb
    go_enter Try.func27, Try.ntmps27
    go_wp2_with fail
    refine (HH.out _).mono ?_
    rintro e w1 ⟨rfl, rfl⟩
    go_wp2_with fail
    refine (tru_is _ _).mono ?_
    rintro e w1 ⟨rfl, rfl⟩
    go_wp2
    go_ret2
    exact ⟨rfl, rfl⟩

theorem ofTwo_is (k : Nat) (hk : 6 ≤ k ∧ k ≤ 18) (a b : Int) (w : World) : Calls Try.prog 27 #[.int .i64 (k : Int), .int .i64 a, .int .i64 b] w fun e w' => e = .returned (.tuple #[.int .i64 (twoP k a b).1, .int .i64 (twoP k a b).2]) ∧ w = w' := by
  rcases (show k = 6 ∨ k = 7 ∨ k = 8 ∨ k = 9 ∨ k = 10 ∨ k = 11 ∨ k = 12 ∨ k = 13 ∨ k = 14 ∨ k = 15 ∨ k = 16 ∨ k = 17 ∨ k = 18 by omega) with rfl | rfl | rfl | rfl | rfl | rfl | rfl | rfl | rfl | rfl | rfl | rfl | rfl
  · exact ofTwo_6 a b w
  · exact ofTwo_7 a b w
  · exact ofTwo_8 a b w
  · exact ofTwo_9 a b w
  · exact ofTwo_10 a b w
  · exact ofTwo_11 a b w
  · exact ofTwo_12 a b w
  · exact ofTwo_13 a b w
  · exact ofTwo_14 a b w
  · exact ofTwo_15 a b w
  · exact ofTwo_16 a b w
  · exact ofTwo_17 a b w
  · exact ofTwo_18 a b w

/-- how many numbers a step asks for; whether it is one -/
def asksP (k : Nat) : Nat × Bool := if k = 1 ∨ k = 2 then (0, true) else if 3 ≤ k ∧ k ≤ 5 then (1, true) else if 6 ≤ k ∧ k ≤ 18 then (2, true) else (0, false)

set_option maxHeartbeats 4000000 in
theorem asks_is (k : Nat) (w : World) : Calls Try.prog 21 #[.int .i64 (k : Int)] w fun e w' => e = .returned (.tuple #[.int .i64 ((asksP k).1 : Int), .bool (asksP k).2]) ∧ w = w' := by
  by_cases h1 : k = 1
  · subst h1
    go_enter Try.func21, Try.ntmps21
    go_wp2
    go_ret2
    exact ⟨rfl, rfl⟩
  by_cases h2 : k = 2
  · subst h2
    go_enter Try.func21, Try.ntmps21
    go_wp2
    go_ret2
    exact ⟨rfl, rfl⟩
  have a1 : decide ((k : Int) = 1) = false := decide_eq_false (by omega)
  have a2 : decide ((k : Int) = 2) = false := decide_eq_false (by omega)
  have b1 : ((k : Int) == 1) = false := by simp; omega
  have b2 : ((k : Int) == 2) = false := by simp; omega
  have n1 : ¬ (k : Int) = 1 := by omega
  have n2 : ¬ (k : Int) = 2 := by omega
  by_cases h3 : 3 ≤ k
  · have a3 : decide ((3 : Int) ≤ (k : Int)) = true := decide_eq_true (by omega)
    by_cases h5 : k ≤ 5
    · have a5 : decide ((k : Int) ≤ 5) = true := decide_eq_true (by omega)
      have HP : Hid (asksP k = (1, true)) := Lib.hid (by simp [asksP, h1, h2, h3, h5])
      go_enter Try.func21, Try.ntmps21
      go_wp2
      go_ret2
      exact ⟨by rw [HP.out]; rfl, rfl⟩
    · have a5 : decide ((k : Int) ≤ 5) = false := decide_eq_false (by omega)
      have a6 : decide ((6 : Int) ≤ (k : Int)) = true := decide_eq_true (by omega)
      by_cases h18 : k ≤ 18
      · have a18 : decide ((k : Int) ≤ 18) = true := decide_eq_true (by omega)
        have HP : Hid (asksP k = (2, true)) := Lib.hid (by simp [asksP, h1, h2, h3, h5, h18]; omega)
        go_enter Try.func21, Try.ntmps21
        go_wp2
        go_ret2
        exact ⟨by rw [HP.out]; rfl, rfl⟩
      · have a18 : decide ((k : Int) ≤ 18) = false := decide_eq_false (by omega)
        have HP : Hid (asksP k = (0, false)) := Lib.hid (by simp [asksP, h1, h2, h3, h5, h18])
        go_enter Try.func21, Try.ntmps21
        go_wp2
        go_ret2
        exact ⟨by rw [HP.out]; rfl, rfl⟩
  · have h0 : k = 0 := by omega
    subst h0
    go_enter Try.func21, Try.ntmps21
    go_wp2
    go_ret2
    exact ⟨rfl, rfl⟩

end Go.Proofs.Ytekpopopibhjbaa
