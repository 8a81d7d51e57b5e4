/-
  The contract of the document's Digits (conchref1): it returns the number's digits; the world is as it was.
-/
import Derived.Test.YtmpneifjjnfckaaRefOne
namespace Go.Proofs.Ytmpneifjjnfckaa
open Go.RowKit

theorem dec_big {u : Nat} (h : 9 < u) : Lib.decDigits u = Lib.decDigits (u / 10) ++ [UInt8.ofNat (48 + u % 10)] := by
  rw [Lib.decDigits, dif_neg (by omega)]
theorem dec_small {u : Nat} (h : ¬ 9 < u) : Lib.decDigits u = [UInt8.ofNat (48 + u)] := by
  rw [Lib.decDigits, dif_pos (by omega)]

/-- the ten digits, cut at one -/
theorem dig_slice (d : Nat) (h : d < 10) : ∃ D : ByteArray, D.data.toList = [UInt8.ofNat (48 + d)] ∧ ∀ W : World, (Instr.slice 9 (.string ⟨#[48, 49, 50, 51, 52, 53, 54, 55, 56, 57]⟩) (some (.int .u64 (d : Int))) (some (.int .u64 ((d : Int) + 1))) none).run Try.prog W = .ok (.string D) W := by
  rcases (show d = 0 ∨ d = 1 ∨ d = 2 ∨ d = 3 ∨ d = 4 ∨ d = 5 ∨ d = 6 ∨ d = 7 ∨ d = 8 ∨ d = 9 by omega) with rfl | rfl | rfl | rfl | rfl | rfl | rfl | rfl | rfl | rfl
  · exact ⟨⟨#[48]⟩, rfl, fun W => by kernel_rfl⟩
  · exact ⟨⟨#[49]⟩, rfl, fun W => by kernel_rfl⟩
  · exact ⟨⟨#[50]⟩, rfl, fun W => by kernel_rfl⟩
  · exact ⟨⟨#[51]⟩, rfl, fun W => by kernel_rfl⟩
  · exact ⟨⟨#[52]⟩, rfl, fun W => by kernel_rfl⟩
  · exact ⟨⟨#[53]⟩, rfl, fun W => by kernel_rfl⟩
  · exact ⟨⟨#[54]⟩, rfl, fun W => by kernel_rfl⟩
  · exact ⟨⟨#[55]⟩, rfl, fun W => by kernel_rfl⟩
  · exact ⟨⟨#[56]⟩, rfl, fun W => by kernel_rfl⟩
  · exact ⟨⟨#[57]⟩, rfl, fun W => by kernel_rfl⟩

theorem app_data (a b : ByteArray) : (a ++ b).data.toList = a.data.toList ++ b.data.toList := by
  rw [ByteArray.data_append, Array.toList_append]
theorem str_of {a : ByteArray} {l : List UInt8} (h : a.data.toList = l) : Value.string a = strV l := by
  rw [← h]; rfl

/-- the loop's two ways, for a number and what stands ahead of its digits -/
theorem dig_more {U u : Nat} {D acc : ByteArray} (h9 : 9 < u) (hD : D.data.toList = [UInt8.ofNat (48 + u % 10)]) (h : Lib.decDigits U = Lib.decDigits u ++ acc.data.toList) : Lib.decDigits U = Lib.decDigits (u / 10) ++ (D ++ acc).data.toList := by
  rw [h, dec_big h9, app_data, hD]; simp
theorem dig_last {U u : Nat} {D acc : ByteArray} (h9 : ¬ 9 < u) (hD : D.data.toList = [UInt8.ofNat (48 + u)]) (h : Lib.decDigits U = Lib.decDigits u ++ acc.data.toList) : (D ++ acc).data.toList = Lib.decDigits U := by
  rw [h, dec_small h9, app_data, hD]

end Go.Proofs.Ytmpneifjjnfckaa
