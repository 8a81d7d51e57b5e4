/-
  Plain facts on numbers told and read (no program in it): what the digits of a number read as, by the bound 2^62.
-/
import Derived.Test.YtekpopopibhjbaaPlain
import Derived.Lib.ItoaNum
namespace Go.Proofs.Ytekpopopibhjbaa

theorem numGo_snoc (l : List UInt8) (c : UInt8) : ∀ n : Int, numGo (l ++ [c]) n = (numGo l n).bind fun m => numGo [c] m := by
  induction l with
  | nil => intro n; simp [numGo]
  | cons a r ih =>
    intro n
    simp only [List.cons_append, numGo]
    split
    · split
      · rfl
      · rw [ih]; simp only [numGo]
    · rfl

theorem dig_ofNat (d : Nat) (h : d < 10) : digB ((UInt8.ofNat (48 + d)).toNat : Int) = true ∧ ((UInt8.ofNat (48 + d)).toNat : Int) - 48 = d := by
  have e : (UInt8.ofNat (48 + d)).toNat = 48 + d := by
    simp [UInt8.toNat_ofNat']; omega
  rw [e]
  exact ⟨digB_mk (by omega), by omega⟩

theorem numGo_one (d : Nat) (h : d < 10) (m : Int) : numGo [UInt8.ofNat (48 + d)] m = if (maxNum - d) / 10 < m then none else some (m * 10 + d) := by
  obtain ⟨h1, h2⟩ := dig_ofNat d h
  simp only [numGo, h1, h2, if_true]

theorem numGo_dec (u : Nat) : numGo (Lib.decDigits u) 0 = if (u : Int) ≤ maxNum then some (u : Int) else none := by
  induction u using Nat.strongRecOn with
  | _ u ih =>
    unfold maxNum at *
    by_cases h : u < 10
    · rw [Lib.decDigits, dif_pos h, numGo_one u h]
      unfold maxNum
      rw [if_neg (by omega), if_pos (by omega)]
      simp
    · rw [Lib.decDigits, dif_neg h, numGo_snoc, ih (u / 10) (by omega)]
      by_cases hq : ((u / 10 : Nat) : Int) ≤ 4611686018427387904
      · rw [if_pos hq]
        simp only [Option.bind_some]
        rw [numGo_one (u % 10) (by omega)]
        unfold maxNum
        by_cases hu : (u : Int) ≤ 4611686018427387904
        · rw [if_neg (by omega), if_pos hu]; congr 1; omega
        · rw [if_pos (by omega), if_neg hu]
      · rw [if_neg hq, if_neg (by omega)]; rfl

theorem dec_ne (u : Nat) : (Lib.decDigits u).isEmpty = false := by
  by_cases h : u < 10
  · rw [Lib.decDigits, dif_pos h]; rfl
  · rw [Lib.decDigits, dif_neg h]; simp

theorem numB_dec (u : Nat) : numB (Lib.decDigits u) = if (u : Int) ≤ maxNum then some (u : Int) else none := by
  rw [numB, dec_ne, if_neg (by simp), numGo_dec]

/-- what is told of a number from 0 on is read as it was, up to the bound -/
theorem numB_itoa (n : Int) (h : 0 ≤ n) : numB (Lib.itoa n) = if n ≤ maxNum then some n else none := by
  obtain ⟨u, rfl⟩ := Int.eq_ofNat_of_zero_le h
  rw [Lib.itoa, if_neg (by omega), Int.toNat_natCast, numB_dec]
theorem numB_noughts (n : Int) (h : 0 ≤ n) : numB (48 :: 48 :: Lib.itoa n) = if n ≤ maxNum then some n else none := by
  obtain ⟨u, rfl⟩ := Int.eq_ofNat_of_zero_le h
  rw [Lib.itoa, if_neg (by omega), Int.toNat_natCast, ← numGo_dec]
  have e : ∀ l, numGo (48 :: l) 0 = numGo l 0 := by
    intro l
    have h1 : digB ((48 : UInt8).toNat : Int) = true := by decide
    rw [numGo_step h1 (by decide)]
    rfl
  rw [numB]
  simp only [List.isEmpty_cons]
  rw [if_neg (by simp), e, e]
theorem numB_below (n : Int) (h : n < 0) : numB (Lib.itoa n) = none := by
  rw [Lib.itoa, if_pos h, numB]
  simp only [List.isEmpty_cons]
  rw [if_neg (by simp), numGo_bad (by decide)]

theorem dec_len (u : Nat) : ∀ k, u < 10 ^ (k + 1) → (Lib.decDigits u).length ≤ k + 1 := by
  induction u using Nat.strongRecOn with
  | _ u ih =>
    intro k hk
    by_cases h : u < 10
    · rw [Lib.decDigits, dif_pos h]; simp
    · rw [Lib.decDigits, dif_neg h]
      cases k with
      | zero => omega
      | succ k =>
        have := ih (u / 10) (by omega) k (by rw [Nat.pow_succ] at hk; omega)
        simp; omega
theorem itoa_len (n : Int) (h0 : -9223372036854775808 ≤ n) (h1 : n ≤ 9223372036854775807) : (Lib.itoa n).length ≤ 30 := by
  rw [Lib.itoa]
  split
  · have := dec_len n.natAbs 19 (by have : n.natAbs ≤ 9223372036854775808 := by omega
                                    exact Nat.lt_of_le_of_lt this (by decide))
    simp; omega
  · have := dec_len n.toNat 19 (by have : n.toNat ≤ 9223372036854775807 := by omega
                                   exact Nat.lt_of_le_of_lt this (by decide))
    omega
end Go.Proofs.Ytekpopopibhjbaa
