/-
  The contract of math/bits.OnesCount64: the ones among the 64 bits.
-/
import Derived.Test.YtmpneifjjnfckaaChecked
import Derived.Test.YtmpneifjjnfckaaPop
namespace Go.Proofs.Ytmpneifjjnfckaa
open Go.RowKit

theorem u64_wrap_in (n : Nat) (h : n < 18446744073709551616) : IntKind.u64.wrap (n : Int) = (n : Int) := by
  simp only [IntKind.wrap, IntKind.bits, IntKind.signed]
  have : ((n : Int) % 2 ^ 64) = n := by rw [show (2 : Int) ^ 64 = 18446744073709551616 from rfl]; omega
  simpa using this

theorem p1_lt (x : Nat) : p1 8 x < 18446744073709551616 := by
  unfold p1
  have h1 : x / 2 &&& rep 85 8 ≤ rep 85 8 := Nat.and_le_right
  have h2 : x &&& rep 85 8 ≤ rep 85 8 := Nat.and_le_right
  rw [rep85] at *
  omega
theorem p2_lt (x : Nat) : p2 8 x ≤ 7378697629483820646 := by
  unfold p2
  have h1 : x / 4 &&& rep 51 8 ≤ rep 51 8 := Nat.and_le_right
  have h2 : x &&& rep 51 8 ≤ rep 51 8 := Nat.and_le_right
  rw [rep51] at *
  omega

theorem pop_e1 (x : Nat) (hx : x < 18446744073709551616) : IntKind.u64.wrap (bits BinOp.and IntKind.u64 ((x : Int) / 2) 6148914691236517205 + bits BinOp.and IntKind.u64 (x : Int) 6148914691236517205) = (p1 8 x : Nat) := by
  have a := u64_and_nat (x / 2) 6148914691236517205 (by omega) (by decide)
  have b := u64_and_nat x 6148914691236517205 hx (by decide)
  rw [show ((x : Int) / 2) = ((x / 2 : Nat) : Int) by simp]
  have e := u64_wrap_in _ (p1_lt x)
  rw [← e]
  congr 1
  unfold p1
  rw [rep85, Int.natCast_add]
  exact congr (congrArg _ a) b
theorem pop_e2 (x : Nat) (hx : x < 18446744073709551616) : IntKind.u64.wrap (bits BinOp.and IntKind.u64 ((x : Int) / 4) 3689348814741910323 + bits BinOp.and IntKind.u64 (x : Int) 3689348814741910323) = (p2 8 x : Nat) := by
  have a := u64_and_nat (x / 4) 3689348814741910323 (by omega) (by decide)
  have b := u64_and_nat x 3689348814741910323 hx (by decide)
  rw [show ((x : Int) / 4) = ((x / 4 : Nat) : Int) by simp]
  have e := u64_wrap_in _ (Nat.lt_of_le_of_lt (p2_lt x) (by decide))
  rw [← e]
  congr 1
  unfold p2
  rw [rep51, Int.natCast_add]
  exact congr (congrArg _ a) b
theorem pop_e3 (x : Nat) (hx : x ≤ 7378697629483820646) : bits BinOp.and IntKind.u64 (IntKind.u64.wrap ((x : Int) / 16 + (x : Int))) 1085102592571150095 = (p3 8 x : Nat) := by
  have e0 : ((x : Int) / 16 + (x : Int)) = ((x / 16 + x : Nat) : Int) := by simp
  rw [e0, u64_wrap_in _ (by omega)]
  unfold p3
  rw [rep15]
  exact u64_and_nat _ 1085102592571150095 (by omega) (by decide)
theorem pop_e4 (k x y : Nat) (hy : y = x + x / k) (h : y < 18446744073709551616) : IntKind.u64.wrap ((x : Int) + (x : Int) / (k : Int)) = (y : Nat) := by
  have e0 : ((x : Int) + (x : Int) / (k : Int)) = (y : Nat) := by rw [hy]; simp
  rw [e0, u64_wrap_in _ h]
theorem pop_e7 (v : Nat) (h : v < 9223372036854775808) : bits BinOp.and IntKind.i64 (v : Int) 127 = ((v % 128 : Nat) : Int) := by
  have e : (v : Int) = ((v : Nat) : Int) := rfl
  show IntKind.i64.wrap ((BitVec.ofInt 64 (v : Int) &&& BitVec.ofInt 64 127).toNat : Int) = _
  rw [BitVec.toNat_and, BitVec.ofInt_natCast, BitVec.toNat_ofNat, Nat.mod_eq_of_lt (by omega), show (BitVec.ofInt 64 127).toNat = 127 from rfl, nat_mask7, IntWalk.i64_in _ (by omega)]

end Go.Proofs.Ytmpneifjjnfckaa
