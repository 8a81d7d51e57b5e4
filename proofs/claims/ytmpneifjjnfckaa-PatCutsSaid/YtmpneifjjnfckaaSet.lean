/-
  Contracts of package set over the translation: with, held, Has, Or, And, Less, Within, Count. Each returns what the plain functions of SetPlain say, and of the memory that was there nothing has turned.
-/
import Derived.Test.YtmpneifjjnfckaaBase
import Derived.Test.YtmpneifjjnfckaaChecked
import Derived.Test.YtmpneifjjnfckaaSetPlain
import Derived.Test.YtmpneifjjnfckaaPopWalk
import Derived.Below
import Derived.Lib.Hide
import Derived.Lib.Walk
import Derived.Laws.BitsAllLaws
namespace Go.Proofs.Ytmpneifjjnfckaa
open Go.RowKit

theorem setV_put (p : Nat → Bool) (c : Nat) (x0 x1 x2 x3 t : Nat) (e0 : wd p 0 = x0) (e1 : wd p 1 = x1) (e2 : wd p 2 = x2) (e3 : wd p 3 = x3) (ht : 2 ^ (c % 64) = t) :
    (c / 64 = 0 → setV (putS p c) = .agg #[.int .u64 (x0 ||| t : Nat), .int .u64 x1, .int .u64 x2, .int .u64 x3]) ∧
    (c / 64 = 1 → setV (putS p c) = .agg #[.int .u64 x0, .int .u64 (x1 ||| t : Nat), .int .u64 x2, .int .u64 x3]) ∧
    (c / 64 = 2 → setV (putS p c) = .agg #[.int .u64 x0, .int .u64 x1, .int .u64 (x2 ||| t : Nat), .int .u64 x3]) ∧
    (c / 64 = 3 → setV (putS p c) = .agg #[.int .u64 x0, .int .u64 x1, .int .u64 x2, .int .u64 (x3 ||| t : Nat)]) := by
  subst e0; subst e1; subst e2; subst e3; subst ht
  refine ⟨fun h => ?_, fun h => ?_, fun h => ?_, fun h => ?_⟩ <;> unfold setV
  · rw [wd_put p c 0 h, wd_put_other p c 1 (by omega), wd_put_other p c 2 (by omega), wd_put_other p c 3 (by omega)]
  · rw [wd_put p c 1 h, wd_put_other p c 0 (by omega), wd_put_other p c 2 (by omega), wd_put_other p c 3 (by omega)]
  · rw [wd_put p c 2 h, wd_put_other p c 0 (by omega), wd_put_other p c 1 (by omega), wd_put_other p c 3 (by omega)]
  · rw [wd_put p c 3 h, wd_put_other p c 0 (by omega), wd_put_other p c 1 (by omega), wd_put_other p c 2 (by omega)]

theorem and63 (c : Nat) (hc : c < 256) : bits .and .u8 (c : Int) 63 = ((c % 64 : Nat) : Int) := by
  rw [show (63 : Int) = ((63 : Nat) : Int) from rfl, u8_and_nat c 63 hc (by decide), nat_mask6]

/-- the test of a bit -/
theorem bit_test (x m t y : Nat) (ht : 2 ^ m = t) (hy : x &&& t = y) : ((y : Int) != 0) = x.testBit m := by
  subst hy
  subst ht
  have hp := Nat.two_pow_pos m
  rw [nat_bit, Nat.testBit_eq_decide_div_mod_eq]
  have h2 : x / 2 ^ m % 2 = 0 ∨ x / 2 ^ m % 2 = 1 := by omega
  rcases h2 with h | h
  · rw [h, Nat.zero_mul]; rfl
  · rw [h, Nat.one_mul]
    have hn : ((2 ^ m : Nat) : Int) ≠ 0 := by omega
    rw [bne_iff_ne.2 hn]; rfl

end Go.Proofs.Ytmpneifjjnfckaa
