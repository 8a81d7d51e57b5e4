/-
  Contracts of conchlaw6's Tame and letters: each returns a text of few bytes. (By wip/tools/gen_patsmall.py.)
-/
import Derived.Test.YtmpneifjjnfckaaPatGives
namespace Go.Proofs.Ytmpneifjjnfckaa
open Go.RowKit

theorem tame6_slice (d : Nat) (h : d < 10) : ∃ D : ByteArray, D.size = 1 ∧ ∀ W : World, (Instr.slice 9 (.string ⟨#[97, 98, 42, 63, 91, 93, 33, 45, 97, 99]⟩) (some (.int .u8 (d : Int))) (some (.int .u8 ((d : Int) + 1))) none).run Try.prog W = .ok (.string D) W := by
  rcases (show d = 0 ∨ d = 1 ∨ d = 2 ∨ d = 3 ∨ d = 4 ∨ d = 5 ∨ d = 6 ∨ d = 7 ∨ d = 8 ∨ d = 9 by omega) with rfl | rfl | rfl | rfl | rfl | rfl | rfl | rfl | rfl | rfl
  · exact ⟨⟨#[97]⟩, rfl, fun W => by kernel_rfl⟩
  · exact ⟨⟨#[98]⟩, rfl, fun W => by kernel_rfl⟩
  · exact ⟨⟨#[42]⟩, rfl, fun W => by kernel_rfl⟩
  · exact ⟨⟨#[63]⟩, rfl, fun W => by kernel_rfl⟩
  · exact ⟨⟨#[91]⟩, rfl, fun W => by kernel_rfl⟩
  · exact ⟨⟨#[93]⟩, rfl, fun W => by kernel_rfl⟩
  · exact ⟨⟨#[33]⟩, rfl, fun W => by kernel_rfl⟩
  · exact ⟨⟨#[45]⟩, rfl, fun W => by kernel_rfl⟩
  · exact ⟨⟨#[97]⟩, rfl, fun W => by kernel_rfl⟩
  · exact ⟨⟨#[99]⟩, rfl, fun W => by kernel_rfl⟩

set_option maxHeartbeats 2000000 in
set_option maxRecDepth 100000 in
theorem tame6_is (s : ByteArray) (w : World) (hs : s.size ≤ 1048576) : Calls Try.prog 16 #[.string s] w fun e w' => (∃ Y : ByteArray, e = .returned (.string Y) ∧ Y.size ≤ 12) ∧ w = w' := by
  go_enter Try.func16, Try.ntmps16
  go_wp2
  go_loop [3, 4] (fun a z => ∃ (k : Nat) (Y : ByteArray), k ≤ 12 ∧ k ≤ s.size ∧ z = .int .i64 (k : Int) ∧ a = .string Y ∧ Y.size = k) (fun _ z => s.size - (intOf z).toNat)
  case atStart => exact ⟨0, ⟨#[]⟩, by omega, by omega, rfl, rfl, rfl⟩
  case round =>
    obtain ⟨k, Y, hk9, hk8, rfl, rfl, hY⟩ := hrel
    have HY := Lib.hid hY
    clear hY
    by_cases hk : k < s.size
    · by_cases hl : k < 12
      · have hi0 : (0 : Int) ≤ (k : Int) := by omega
        have hi1 : (k : Int) < (s.size : Int) := by omega
        have dl : decide ((k : Int) < 12) = true := decide_eq_true (by omega)
        obtain ⟨d, hd, hd9⟩ : ∃ d : Nat, (s[k].toNat : Int) % 10 = (d : Int) ∧ d < 10 := ⟨s[k].toNat % 10, by omega, by omega⟩
        obtain ⟨D, hD, hDs⟩ := tame6_slice d hd9
        have hY1 : Y.size ≤ 1048576 := by rw [HY.out]; omega
        have hD1 : D.size ≤ 1 := by rw [hD]; decide
        have HD := Lib.hid hD
        clear hD
        go_wp2
        go_round
        case rel => exact ⟨k + 1, Y ++ D, by omega, by omega, by go_num, rfl, by rw [ByteArray.size_append, HY.out, HD.out]⟩
        case measure => simp [intOf]; omega
      · have dl : decide ((k : Int) < 12) = false := decide_eq_false (by omega)
        go_wp2
        go_ret
        exact ⟨⟨Y, rfl, by rw [HY.out]; exact hk9⟩, rfl⟩
    · go_wp2
      go_ret
      exact ⟨⟨Y, rfl, by rw [HY.out]; exact hk9⟩, rfl⟩

theorem letters6_slice (d : Nat) (h : d < 5) : ∃ D : ByteArray, D.size = 1 ∧ ∀ W : World, (Instr.slice 9 (.string ⟨#[97, 98, 99, 93, 45]⟩) (some (.int .u8 (d : Int))) (some (.int .u8 ((d : Int) + 1))) none).run Try.prog W = .ok (.string D) W := by
  rcases (show d = 0 ∨ d = 1 ∨ d = 2 ∨ d = 3 ∨ d = 4 by omega) with rfl | rfl | rfl | rfl | rfl
  · exact ⟨⟨#[97]⟩, rfl, fun W => by kernel_rfl⟩
  · exact ⟨⟨#[98]⟩, rfl, fun W => by kernel_rfl⟩
  · exact ⟨⟨#[99]⟩, rfl, fun W => by kernel_rfl⟩
  · exact ⟨⟨#[93]⟩, rfl, fun W => by kernel_rfl⟩
  · exact ⟨⟨#[45]⟩, rfl, fun W => by kernel_rfl⟩

set_option maxHeartbeats 2000000 in
set_option maxRecDepth 100000 in
theorem letters6_is (s : ByteArray) (w : World) (hs : s.size ≤ 1048576) : Calls Try.prog 17 #[.string s] w fun e w' => (∃ Y : ByteArray, e = .returned (.string Y) ∧ Y.size ≤ 10) ∧ w = w' := by
  go_enter Try.func17, Try.ntmps17
  go_wp2
  go_loop [3, 4] (fun a z => ∃ (k : Nat) (Y : ByteArray), k ≤ 10 ∧ k ≤ s.size ∧ z = .int .i64 (k : Int) ∧ a = .string Y ∧ Y.size = k) (fun _ z => s.size - (intOf z).toNat)
  case atStart => exact ⟨0, ⟨#[]⟩, by omega, by omega, rfl, rfl, rfl⟩
  case round =>
    obtain ⟨k, Y, hk9, hk8, rfl, rfl, hY⟩ := hrel
    have HY := Lib.hid hY
    clear hY
    by_cases hk : k < s.size
    · by_cases hl : k < 10
      · have hi0 : (0 : Int) ≤ (k : Int) := by omega
        have hi1 : (k : Int) < (s.size : Int) := by omega
        have dl : decide ((k : Int) < 10) = true := decide_eq_true (by omega)
        obtain ⟨d, hd, hd9⟩ : ∃ d : Nat, (s[k].toNat : Int) % 5 = (d : Int) ∧ d < 5 := ⟨s[k].toNat % 5, by omega, by omega⟩
        obtain ⟨D, hD, hDs⟩ := letters6_slice d hd9
        have hY1 : Y.size ≤ 1048576 := by rw [HY.out]; omega
        have hD1 : D.size ≤ 1 := by rw [hD]; decide
        have HD := Lib.hid hD
        clear hD
        go_wp2
        go_round
        case rel => exact ⟨k + 1, Y ++ D, by omega, by omega, by go_num, rfl, by rw [ByteArray.size_append, HY.out, HD.out]⟩
        case measure => simp [intOf]; omega
      · have dl : decide ((k : Int) < 10) = false := decide_eq_false (by omega)
        go_wp2
        go_ret
        exact ⟨⟨Y, rfl, by rw [HY.out]; exact hk9⟩, rfl⟩
    · go_wp2
      go_ret
      exact ⟨⟨Y, rfl, by rw [HY.out]; exact hk9⟩, rfl⟩

end Go.Proofs.Ytmpneifjjnfckaa
