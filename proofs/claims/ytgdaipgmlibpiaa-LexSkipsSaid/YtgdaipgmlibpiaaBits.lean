/-
  Plain facts on masks (no program in it): an int's low bits are its remainder.
-/
import Derived.WalkKit
namespace Go.Proofs.Ytgdaipgmlibpiaa

theorem ofInt_toNat64 (n : Int) : ((BitVec.ofInt 64 n).toNat : Int) = n % 18446744073709551616 := by
  rw [BitVec.toNat_ofInt, Int.toNat_of_nonneg (Int.emod_nonneg _ (by decide))]
  rfl

/-- an int by a mask of k ones is its remainder -/
theorem and_mask (n : Int) (k : Nat) (hk : k ≤ 62) (m : Int) (hm : m = 2 ^ k - 1) : bits .and .i64 n m = n % 2 ^ k := by
  have hp : (2 : Nat) ^ k ≤ 2 ^ 62 := Nat.pow_le_pow_right (by decide) hk
  have hpos : 0 < (2 : Nat) ^ k := Nat.two_pow_pos k
  have e2 : m = ((2 ^ k - 1 : Nat) : Int) := by
    rw [hm, Int.natCast_sub hpos]; simp
  have hy : (BitVec.ofInt 64 m).toNat = 2 ^ k - 1 := by
    rw [e2, BitVec.ofInt_natCast, BitVec.toNat_ofNat]; exact Nat.mod_eq_of_lt (by omega)
  show IntKind.i64.wrap ((BitVec.ofInt 64 n &&& BitVec.ofInt 64 m).toNat : Int) = _
  rw [BitVec.toNat_and, hy, Nat.and_two_pow_sub_one_eq_mod, Int.natCast_emod, ofInt_toNat64]
  have hd : ((2 ^ k : Nat) : Int) ∣ 18446744073709551616 := by
    have : (2 : Nat) ^ k ∣ 2 ^ 64 := Nat.pow_dvd_pow 2 (by omega)
    have e64 : (18446744073709551616 : Int) = ((2 ^ 64 : Nat) : Int) := by decide
    rw [e64]; exact Int.natCast_dvd_natCast.2 this
  rw [Int.emod_emod_of_dvd _ hd]
  have h0 : 0 ≤ n % ((2 ^ k : Nat) : Int) := Int.emod_nonneg _ (by omega)
  have h1 : n % ((2 ^ k : Nat) : Int) < ((2 ^ k : Nat) : Int) := Int.emod_lt_of_pos _ (by omega)
  have e3 : ((2 ^ k : Nat) : Int) = (2 : Int) ^ k := by simp
  rw [IntWalk.i64_in _ (by omega), e3]

theorem and_mask_le (n : Int) (k : Nat) (hk : k ≤ 62) (m : Int) (hm : m = 2 ^ k - 1) : 0 ≤ bits .and .i64 n m ∧ bits .and .i64 n m ≤ m := by
  rw [and_mask n k hk m hm]
  have hpos : (0 : Int) < 2 ^ k := Int.pow_pos (by decide)
  have h0 : 0 ≤ n % (2 : Int) ^ k := Int.emod_nonneg _ (by omega)
  have h1 : n % (2 : Int) ^ k < (2 : Int) ^ k := Int.emod_lt_of_pos _ hpos
  omega
end Go.Proofs.Ytgdaipgmlibpiaa
