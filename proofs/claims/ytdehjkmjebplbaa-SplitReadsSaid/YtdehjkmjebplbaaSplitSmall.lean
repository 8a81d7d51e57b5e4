/-
  The contract of conchlaw7's Tame.
-/
import Derived.Test.YtdehjkmjebplbaaRefWords
namespace Go.Proofs.Ytdehjkmjebplbaa
open Go.RowKit

def tb (c : UInt8) : UInt8 := ([97, 98, 32, 9, 58] : List UInt8).getD (c.toNat % 5) 0
def tame7 (s : ByteArray) : ByteArray := ⟨((s.data.toList.take 20).map tb).toArray⟩
theorem tame7_size (s : ByteArray) : (tame7 s).size ≤ 20 := by
  show ((s.data.toList.take 20).map tb).toArray.size ≤ 20
  simp
  omega
theorem tame7_slice (c : UInt8) (d : Nat) (h : c.toNat % 5 = d) : ∀ W : World, (Instr.slice 9 (.string ⟨#[97, 98, 32, 9, 58]⟩) (some (.int .u8 (d : Int))) (some (.int .u8 ((d : Int) + 1))) none).run Try.prog W = .ok (.string ⟨#[tb c]⟩) W := by
  unfold tb
  rw [h]
  rcases (show d = 0 ∨ d = 1 ∨ d = 2 ∨ d = 3 ∨ d = 4 by omega) with rfl | rfl | rfl | rfl | rfl <;> exact fun W => by kernel_rfl
theorem bytes_snoc (x : List UInt8) (c : UInt8) : (⟨x.toArray⟩ : ByteArray) ++ ⟨#[c]⟩ = ⟨(x ++ [c]).toArray⟩ := by
  apply ByteArray.ext
  rw [ByteArray.data_append]
  simp

set_option maxHeartbeats 2000000 in
set_option maxRecDepth 100000 in
theorem tame7_is (s : ByteArray) (hs : s.size ≤ 1048576) (w : World) : Calls Try.prog 18 #[.string s] w fun e w' => e = .returned (.string (tame7 s)) ∧ w = w' := by
  go_enter Try.func18, Try.ntmps18
  go_wp2
  go_loop [3, 4] (fun a z => ∃ (k : Nat) (Y : ByteArray), k ≤ 20 ∧ k ≤ s.size ∧ z = .int .i64 (k : Int) ∧ a = .string Y ∧ Y.size ≤ k ∧ Hid (Y = ⟨((s.data.toList.take k).map tb).toArray⟩)) (fun _ z => s.size - (intOf z).toNat)
  case atStart => exact ⟨0, ⟨#[]⟩, by omega, by omega, rfl, rfl, Nat.le_refl _, Lib.hid rfl⟩
  case round =>
    obtain ⟨k, Y, hk9, hk8, rfl, rfl, hY, HY⟩ := hrel
    by_cases hk : k < s.size
    · by_cases hl : k < 20
      · have hi0 : (0 : Int) ≤ (k : Int) := by omega
        have hi1 : (k : Int) < (s.size : Int) := by omega
        have dl : decide ((k : Int) < 20) = true := decide_eq_true (by omega)
        obtain ⟨d, hd⟩ : ∃ d : Nat, s[k].toNat % 5 = d := ⟨_, rfl⟩
        have hdi : (s[k].toNat : Int) % 5 = (d : Int) := by omega
        have hd9 : d < 5 := by omega
        have hDs := tame7_slice s[k] d hd
        have HY2 : Hid (Y ++ ⟨#[tb s[k]]⟩ = ⟨((s.data.toList.take (k + 1)).map tb).toArray⟩) := Lib.hid (by rw [HY.out, bytes_snoc, byte_snoc s k hk, List.map_append]; rfl)
        have hY1 : Y.size ≤ 1048576 := by omega
        generalize hD : (⟨#[tb s[k]]⟩ : ByteArray) = D at *
        have hD1 : D.size ≤ 1 := by rw [← hD]; exact Nat.le_refl _
        clear hd hD HY
        go_wp2
        go_round
        case rel => exact ⟨k + 1, Y ++ D, by omega, by omega, by go_num, rfl, by rw [ByteArray.size_append]; omega, HY2⟩
        case measure => simp [intOf]; omega
      · have dl : decide ((k : Int) < 20) = false := decide_eq_false (by omega)
        have hE : tame7 s = Y := by rw [HY.out, show k = 20 by omega]; rfl
        have HE := Lib.hid hE
        clear hE HY
        go_wp2
        go_ret
        exact ⟨congrArg (fun x => Ending.returned (.string x)) HE.out.symm, rfl⟩
    · have hE : tame7 s = Y := by
        rw [HY.out]
        unfold tame7
        rw [List.take_of_length_le (by simp; omega), List.take_of_length_le (i := k) (by simp; omega)]
      have HE := Lib.hid hE
      clear hE HY
      go_wp2
      go_ret
      exact ⟨congrArg (fun x => Ending.returned (.string x)) HE.out.symm, rfl⟩
end Go.Proofs.Ytdehjkmjebplbaa
