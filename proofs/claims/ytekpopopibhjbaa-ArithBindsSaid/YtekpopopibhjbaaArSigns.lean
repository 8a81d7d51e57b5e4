/-
  Contracts of package arith's isBlank, ahead, between, isSign; plain signs. (By wip/tools/gen_arsigns.py.)
-/
import Derived.Test.YtekpopopibhjbaaArPlain
import Derived.Test.YtekpopopibhjbaaBase
import Derived.Deep.QuietTactic
import Derived.BigQuiet
namespace Go.Proofs.Ytekpopopibhjbaa
open Go.RowKit

def blankB (c : UInt8) : Bool := c == 32 || c == 9 || c == 10
/-- what a sign ahead of one does; 0 of another -/
def ahdP (l : List UInt8) : Nat := if l = [45] then 3 else if l = [43] then 4 else if l = [33] then 5 else 0
/-- what a sign between two does, and how strongly it binds -/
def btwP (l : List UInt8) : Nat × Nat :=
  if l = [124, 124] then (18, 1) else if l = [38, 38] then (17, 2) else if l = [61, 61] then (15, 3) else if l = [33, 61] then (16, 3)
  else if l = [60] then (11, 4) else if l = [60, 61] then (12, 4) else if l = [62] then (13, 4) else if l = [62, 61] then (14, 4)
  else if l = [43] then (9, 5) else if l = [45] then (10, 5) else if l = [42] then (6, 6) else if l = [47] then (7, 6) else if l = [37] then (8, 6) else (0, 0)
def isSignB (l : List UInt8) : Bool := decide (0 < (btwP l).2) || decide (0 < ahdP l) || (l == [40]) || (l == [41])

theorem bytes_eq {s : ByteArray} {l : List UInt8} (h : s.data.toList = l) : s = ⟨l.toArray⟩ := by
  subst h; obtain ⟨⟨l⟩⟩ := s; rfl
theorem bytes_ne {s : ByteArray} {l : List UInt8} (h : ¬ s.data.toList = l) : (s.toList == l) = false := by
  rw [toList_data]; simpa using h
theorem bytes_beq (s : ByteArray) (l : List UInt8) : (s.toList == l) = (s.data.toList == l) := by rw [toList_data]

set_option maxHeartbeats 4000000 in
theorem ahead_is (s : ByteArray) (w : World) : Calls Try.prog 29 #[.string s] w fun e w' => e = .returned (.int .i64 (ahdP s.data.toList : Int)) ∧ w = w' := by
  by_cases h0 : s.data.toList = [45]
  · obtain rfl := bytes_eq h0
    clear h0
    go_enter Try.func29, Try.ntmps29
    go_wp2
    go_ret
    exact ⟨rfl, rfl⟩
  by_cases h1 : s.data.toList = [43]
  · obtain rfl := bytes_eq h1
    clear h0 h1
    go_enter Try.func29, Try.ntmps29
    go_wp2
    go_ret
    exact ⟨rfl, rfl⟩
  by_cases h2 : s.data.toList = [33]
  · obtain rfl := bytes_eq h2
    clear h0 h1 h2
    go_enter Try.func29, Try.ntmps29
    go_wp2
    go_ret
    exact ⟨rfl, rfl⟩
  have HP := Lib.hid (show ahdP s.data.toList = 0 by simp only [ahdP, h0, h1, h2, if_false])
  have k0 := bytes_ne h0
  have k1 := bytes_ne h1
  have k2 := bytes_ne h2
  clear h0 h1 h2
  go_enter Try.func29, Try.ntmps29
  go_wp2
  go_ret
  exact ⟨by rw [HP.out]; rfl, rfl⟩

set_option maxHeartbeats 4000000 in
theorem between_is (s : ByteArray) (w : World) : Calls Try.prog 25 #[.string s] w fun e w' => e = .returned (.tuple #[.int .i64 ((btwP s.data.toList).1 : Int), .int .i64 ((btwP s.data.toList).2 : Int)]) ∧ w = w' := by
  by_cases h0 : s.data.toList = [124, 124]
  · obtain rfl := bytes_eq h0
    clear h0
    go_enter Try.func25, Try.ntmps25
    go_wp2
    go_ret2
    exact ⟨rfl, rfl⟩
  by_cases h1 : s.data.toList = [38, 38]
  · obtain rfl := bytes_eq h1
    clear h0 h1
    go_enter Try.func25, Try.ntmps25
    go_wp2
    go_ret2
    exact ⟨rfl, rfl⟩
  by_cases h2 : s.data.toList = [61, 61]
  · obtain rfl := bytes_eq h2
    clear h0 h1 h2
    go_enter Try.func25, Try.ntmps25
    go_wp2
    go_ret2
    exact ⟨rfl, rfl⟩
  by_cases h3 : s.data.toList = [33, 61]
  · obtain rfl := bytes_eq h3
    clear h0 h1 h2 h3
    go_enter Try.func25, Try.ntmps25
    go_wp2
    go_ret2
    exact ⟨rfl, rfl⟩
  by_cases h4 : s.data.toList = [60]
  · obtain rfl := bytes_eq h4
    clear h0 h1 h2 h3 h4
    go_enter Try.func25, Try.ntmps25
    go_wp2
    go_ret2
    exact ⟨rfl, rfl⟩
  by_cases h5 : s.data.toList = [60, 61]
  · obtain rfl := bytes_eq h5
    clear h0 h1 h2 h3 h4 h5
    go_enter Try.func25, Try.ntmps25
    go_wp2
    go_ret2
    exact ⟨rfl, rfl⟩
  by_cases h6 : s.data.toList = [62]
  · obtain rfl := bytes_eq h6
    clear h0 h1 h2 h3 h4 h5 h6
    go_enter Try.func25, Try.ntmps25
    go_wp2
    go_ret2
    exact ⟨rfl, rfl⟩
  by_cases h7 : s.data.toList = [62, 61]
  · obtain rfl := bytes_eq h7
    clear h0 h1 h2 h3 h4 h5 h6 h7
    go_enter Try.func25, Try.ntmps25
    go_wp2
    go_ret2
    exact ⟨rfl, rfl⟩
  by_cases h8 : s.data.toList = [43]
  · obtain rfl := bytes_eq h8
    clear h0 h1 h2 h3 h4 h5 h6 h7 h8
    go_enter Try.func25, Try.ntmps25
    go_wp2
    go_ret2
    exact ⟨rfl, rfl⟩
  by_cases h9 : s.data.toList = [45]
  · obtain rfl := bytes_eq h9
    clear h0 h1 h2 h3 h4 h5 h6 h7 h8 h9
    go_enter Try.func25, Try.ntmps25
    go_wp2
    go_ret2
    exact ⟨rfl, rfl⟩
  by_cases h10 : s.data.toList = [42]
  · obtain rfl := bytes_eq h10
    clear h0 h1 h2 h3 h4 h5 h6 h7 h8 h9 h10
    go_enter Try.func25, Try.ntmps25
    go_wp2
    go_ret2
    exact ⟨rfl, rfl⟩
  by_cases h11 : s.data.toList = [47]
  · obtain rfl := bytes_eq h11
    clear h0 h1 h2 h3 h4 h5 h6 h7 h8 h9 h10 h11
    go_enter Try.func25, Try.ntmps25
    go_wp2
    go_ret2
    exact ⟨rfl, rfl⟩
  by_cases h12 : s.data.toList = [37]
  · obtain rfl := bytes_eq h12
    clear h0 h1 h2 h3 h4 h5 h6 h7 h8 h9 h10 h11 h12
    go_enter Try.func25, Try.ntmps25
    go_wp2
    go_ret2
    exact ⟨rfl, rfl⟩
  have HP := Lib.hid (show btwP s.data.toList = (0, 0) by simp only [btwP, h0, h1, h2, h3, h4, h5, h6, h7, h8, h9, h10, h11, h12, if_false])
  have k0 := bytes_ne h0
  have k1 := bytes_ne h1
  have k2 := bytes_ne h2
  have k3 := bytes_ne h3
  have k4 := bytes_ne h4
  have k5 := bytes_ne h5
  have k6 := bytes_ne h6
  have k7 := bytes_ne h7
  have k8 := bytes_ne h8
  have k9 := bytes_ne h9
  have k10 := bytes_ne h10
  have k11 := bytes_ne h11
  have k12 := bytes_ne h12
  clear h0 h1 h2 h3 h4 h5 h6 h7 h8 h9 h10 h11 h12
  go_enter Try.func25, Try.ntmps25
  go_wp2
  go_ret2
  exact ⟨by rw [HP.out]; rfl, rfl⟩

set_option maxHeartbeats 2000000 in
theorem isBlank_is (c : UInt8) (w : World) : Calls Try.prog 32 #[.int .u8 (c.toNat : Int)] w fun e w' => e = .returned (.bool (blankB c)) ∧ w = w' := by
  by_cases h1 : c = 32
  · subst h1
    go_enter Try.func32, Try.ntmps32
    go_wp2
    go_ret
    exact ⟨rfl, rfl⟩
  by_cases h2 : c = 9
  · subst h2
    go_enter Try.func32, Try.ntmps32
    go_wp2
    go_ret
    exact ⟨rfl, rfl⟩
  by_cases h3 : c = 10
  · subst h3
    go_enter Try.func32, Try.ntmps32
    go_wp2
    go_ret
    exact ⟨rfl, rfl⟩
  have HP : Hid (blankB c = false) := Lib.hid (by simp [blankB, h1, h2, h3])
  obtain ⟨n, hn⟩ : ∃ n : Nat, c.toNat = n := ⟨_, rfl⟩
  have k1 : ((n : Int) == 32) = false := by
    simp only [beq_eq_false_iff_ne, ne_eq]
    intro h; exact h1 (UInt8.toNat_inj.1 (by rw [hn]; show n = 32; omega))
  have k2 : ((n : Int) == 9) = false := by
    simp only [beq_eq_false_iff_ne, ne_eq]
    intro h; exact h2 (UInt8.toNat_inj.1 (by rw [hn]; show n = 9; omega))
  have k3 : ((n : Int) == 10) = false := by
    simp only [beq_eq_false_iff_ne, ne_eq]
    intro h; exact h3 (UInt8.toNat_inj.1 (by rw [hn]; show n = 10; omega))
  have n1 : ¬ (n : Int) = 32 := by simpa using k1
  have n2 : ¬ (n : Int) = 9 := by simpa using k2
  have n3 : ¬ (n : Int) = 10 := by simpa using k3
  clear h1 h2 h3
  rw [hn]
  clear hn
  go_enter Try.func32, Try.ntmps32
  go_wp2
  go_ret
  exact ⟨by rw [HP.out]; rfl, rfl⟩

set_option maxHeartbeats 4000000 in
theorem isSign_is (s : ByteArray) (w : World) : Calls Try.prog 33 #[.string s] w fun e w' => e = .returned (.bool (isSignB s.data.toList)) ∧ w = w' := by
  have H1 := Lib.hid (between_is s)
  have H2 := Lib.hid (ahead_is s)
  have hq0 := bytes_beq s [40]
  have hq1 := bytes_beq s [41]
  obtain ⟨l, hl⟩ : ∃ l, s.data.toList = l := ⟨_, rfl⟩
  have HP : Hid (isSignB s.data.toList = (decide (0 < (btwP l).2) || decide (0 < ahdP l) || (l == [40]) || (l == [41]))) := Lib.hid (by rw [hl]; rfl)
  rw [hl] at H1 H2 hq0 hq1
  generalize btwP l = kk at H1 HP
  obtain ⟨k1, k2⟩ := kk
  dsimp only at H1 HP
  generalize ahdP l = k3 at H2 HP
  generalize (l == [40]) = q0 at hq0 HP
  generalize (l == [41]) = q1 at hq1 HP
  clear hl
  by_cases hk2 : 0 < k2
  · have d2 : decide ((0 : Int) < (k2 : Int)) = true := decide_eq_true (by omega)
    go_enter Try.func33, Try.ntmps33
    go_wp2_with fail
    refine (H1.out _).mono ?_
    rintro e w1 ⟨rfl, rfl⟩
    go_wp2_with fail
    go_ret
    exact ⟨by rw [HP.out]; simp [hk2], rfl⟩
  · have d2 : decide ((0 : Int) < (k2 : Int)) = false := decide_eq_false (by omega)
    have hz2 : k2 = 0 := by omega
    subst hz2
    by_cases hk3 : 0 < k3
    · have d3 : decide ((0 : Int) < (k3 : Int)) = true := decide_eq_true (by omega)
      go_enter Try.func33, Try.ntmps33
      go_wp2_with fail
      refine (H1.out _).mono ?_
      rintro e w1 ⟨rfl, rfl⟩
      go_wp2_with fail
      refine (H2.out _).mono ?_
      rintro e w1 ⟨rfl, rfl⟩
      go_wp2_with fail
      go_ret
      exact ⟨by rw [HP.out]; simp [hk3], rfl⟩
    · have d3 : decide ((0 : Int) < (k3 : Int)) = false := decide_eq_false (by omega)
      have hz3 : k3 = 0 := by omega
      subst hz3
      clear d3
      cases q0 with
      | true =>
        go_enter Try.func33, Try.ntmps33
        go_wp2_with fail
        refine (H1.out _).mono ?_
        rintro e w1 ⟨rfl, rfl⟩
        go_wp2_with fail
        refine (H2.out _).mono ?_
        rintro e w1 ⟨rfl, rfl⟩
        go_wp2_with fail
        go_ret
        exact ⟨by rw [HP.out]; rfl, rfl⟩
      | false =>
        go_enter Try.func33, Try.ntmps33
        go_wp2_with fail
        refine (H1.out _).mono ?_
        rintro e w1 ⟨rfl, rfl⟩
        go_wp2_with fail
        refine (H2.out _).mono ?_
        rintro e w1 ⟨rfl, rfl⟩
        go_wp2_with fail
        go_ret
        exact ⟨by rw [HP.out]; simp, rfl⟩

end Go.Proofs.Ytekpopopibhjbaa
