/-
  Contracts of package set over the translation: with, held, Has, Or, And, Less, Within, Count. Each returns what the plain functions of SetPlain say, and of the memory that was there nothing has turned.
-/
import Derived.Test.YtjdhidiocchkeaaChecked
import Derived.Test.YtjdhidiocchkeaaSetPlain
import Derived.Test.YtjdhidiocchkeaaPopWalk
import Derived.Below
import Derived.Lib.Hide
import Derived.Lib.Walk
import Derived.Laws.BitsAllLaws
namespace Go.Proofs.Ytjdhidiocchkeaa
open Go.RowKit

/-- returned v, and of the memory that was there nothing has turned -/
def Gives (w : World) (v : Value) (e : Ending) (w' : World) : Prop := e = .returned v ∧ Below w.heap.size w w'

theorem bel_alloc {w w' : World} (h : Below w.heap.size w w') (o : Obj) : Below w.heap.size w (w'.alloc o) := h.alloc h.size o
theorem bel_drew {w w' : World} (h : Below w.heap.size w w') : Below w.heap.size w w'.drew := h.drew
theorem bel_set {w w' : World} (h : Below w.heap.size w w') (p : Addr) (hp : w.heap.size ≤ p.block) (u : Value) : Below w.heap.size w (w'.setCell p u) := h.setCell hp u
theorem bel_step {w w1 w2 : World} (h : Below w.heap.size w w1) (k : Below w1.heap.size w1 w2) : Below w.heap.size w w2 := h.trans (k.mono h.size)

theorem setV_put (p : Nat → Bool) (c : Nat) (x0 x1 x2 x3 t : Nat) (e0 : wd p 0 = x0) (e1 : wd p 1 = x1) (e2 : wd p 2 = x2) (e3 : wd p 3 = x3) (ht : 2 ^ (c % 64) = t) :
    (c / 64 = 0 → setV (putS p c) = .agg #[.int .u64 (x0 ||| t : Nat), .int .u64 x1, .int .u64 x2, .int .u64 x3]) ∧
    (c / 64 = 1 → setV (putS p c) = .agg #[.int .u64 x0, .int .u64 (x1 ||| t : Nat), .int .u64 x2, .int .u64 x3]) ∧
    (c / 64 = 2 → setV (putS p c) = .agg #[.int .u64 x0, .int .u64 x1, .int .u64 (x2 ||| t : Nat), .int .u64 x3]) ∧
    (c / 64 = 3 → setV (putS p c) = .agg #[.int .u64 x0, .int .u64 x1, .int .u64 x2, .int .u64 (x3 ||| t : Nat)]) := by
  subst e0; subst e1; subst e2; subst e3; subst ht
  refine ⟨fun h => ?_, fun h => ?_, fun h => ?_, fun h => ?_⟩ <;> unfold setV
  · rw [wd_put p c 0 h, wd_put_other p c 1 (by omega), wd_put_other p c 2 (by omega), wd_put_other p c 3 (by omega)]
  · rw [wd_put p c 1 h, wd_put_other p c 0 (by omega), wd_put_other p c 2 (by omega), wd_put_other p c 3 (by omega)]
  · rw [wd_put p c 2 h, wd_put_other p c 0 (by omega), wd_put_other p c 1 (by omega), wd_put_other p c 3 (by omega)]
  · rw [wd_put p c 3 h, wd_put_other p c 0 (by omega), wd_put_other p c 1 (by omega), wd_put_other p c 2 (by omega)]

theorem and63 (c : Nat) (hc : c < 256) : bits .and .u8 (c : Int) 63 = ((c % 64 : Nat) : Int) := by
  rw [show (63 : Int) = ((63 : Nat) : Int) from rfl, u8_and_nat c 63 hc (by decide), nat_mask6]

set_option maxHeartbeats 1000000 in
set_option maxRecDepth 100000 in
theorem with_is (p : Nat → Bool) (c : Nat) (hc : c < 256) (w : World) :
    Calls Try.prog 68 #[setV p, .int .u8 c] w (Gives w (setV (putS p c))) := by
  obtain ⟨m, hm⟩ : ∃ m, c % 64 = m := ⟨_, rfl⟩
  obtain ⟨t, ht⟩ : ∃ t, 2 ^ m = t := ⟨_, rfl⟩
  obtain ⟨x0, e0⟩ : ∃ x, wd p 0 = x := ⟨_, rfl⟩
  obtain ⟨x1, e1⟩ : ∃ x, wd p 1 = x := ⟨_, rfl⟩
  obtain ⟨x2, e2⟩ : ∃ x, wd p 2 = x := ⟨_, rfl⟩
  obtain ⟨x3, e3⟩ : ∃ x, wd p 3 = x := ⟨_, rfl⟩
  have H := setV_put p c x0 x1 x2 x3 t e0 e1 e2 e3 (by rw [hm]; exact ht)
  have l0 := e0 ▸ wd_lt p 0
  have l1 := e1 ▸ wd_lt p 1
  have l2 := e2 ▸ wd_lt p 2
  have l3 := e3 ▸ wd_lt p 3
  have hm2 : m < 64 := by omega
  have lt : t < 18446744073709551616 := ht ▸ (Nat.pow_lt_pow_right (by decide) hm2 : 2 ^ m < 2 ^ 64)
  have ha := and63 c hc
  rw [hm] at ha
  have hs : IntKind.u64.wrap ((2 : Int) ^ m) = (t : Int) := by
    have := u64_wrap_in t lt
    rw [← ht] at this ⊢
    simpa using this
  have eV : setV p = .agg #[.int .u64 x0, .int .u64 x1, .int .u64 x2, .int .u64 x3] := by unfold setV; rw [e0, e1, e2, e3]
  rw [eV]
  have o0 := u64_or_nat x0 t l0 lt
  have o1 := u64_or_nat x1 t l1 lt
  have o2 := u64_or_nat x2 t l2 lt
  have o3 := u64_or_nat x3 t l3 lt
  have HH := Lib.hid H
  have h4 : c / 64 = 0 ∨ c / 64 = 1 ∨ c / 64 = 2 ∨ c / 64 = 3 := by omega
  clear H e0 e1 e2 e3 l0 l1 l2 l3 lt hm ht eV
  rcases h4 with h | h | h | h
  · go_enter Try.func68, Try.ntmps68
    go_wp2
    refine bodyPost_ret (v := setV (putS p c)) ?_ rfl ⟨rfl, bel_alloc (bel_alloc (Below.refl _ _) _) _⟩
    rw [HH.out.1 h]
    simp [results, Try.results68, go_sem]
  · go_enter Try.func68, Try.ntmps68
    go_wp2
    refine bodyPost_ret (v := setV (putS p c)) ?_ rfl ⟨rfl, bel_alloc (bel_alloc (Below.refl _ _) _) _⟩
    rw [HH.out.2.1 h]
    simp [results, Try.results68, go_sem]
  · go_enter Try.func68, Try.ntmps68
    go_wp2
    refine bodyPost_ret (v := setV (putS p c)) ?_ rfl ⟨rfl, bel_alloc (bel_alloc (Below.refl _ _) _) _⟩
    rw [HH.out.2.2.1 h]
    simp [results, Try.results68, go_sem]
  · go_enter Try.func68, Try.ntmps68
    go_wp2
    refine bodyPost_ret (v := setV (putS p c)) ?_ rfl ⟨rfl, bel_alloc (bel_alloc (Below.refl _ _) _) _⟩
    rw [HH.out.2.2.2 h]
    simp [results, Try.results68, go_sem]

/-- the test of a bit -/
theorem bit_test (x m t y : Nat) (ht : 2 ^ m = t) (hy : x &&& t = y) : ((y : Int) != 0) = x.testBit m := by
  subst hy
  subst ht
  have hp := Nat.two_pow_pos m
  rw [nat_bit, Nat.testBit_eq_decide_div_mod_eq]
  have h2 : x / 2 ^ m % 2 = 0 ∨ x / 2 ^ m % 2 = 1 := by omega
  rcases h2 with h | h
  · rw [h, Nat.zero_mul]; rfl
  · rw [h, Nat.one_mul]
    have hn : ((2 ^ m : Nat) : Int) ≠ 0 := by omega
    rw [bne_iff_ne.2 hn]; rfl

set_option maxHeartbeats 4000000 in
set_option maxRecDepth 100000 in
theorem Or_is (p q : Nat → Bool) (w : World) :
    Calls Try.prog 54 #[setV p, setV q] w (Gives w (setV (orS p q))) := by
  have o0 := u64_or_nat (wd p 0) (wd q 0) (wd_lt p 0) (wd_lt q 0)
  have o1 := u64_or_nat (wd p 1) (wd q 1) (wd_lt p 1) (wd_lt q 1)
  have o2 := u64_or_nat (wd p 2) (wd q 2) (wd_lt p 2) (wd_lt q 2)
  have o3 := u64_or_nat (wd p 3) (wd q 3) (wd_lt p 3) (wd_lt q 3)
  rw [← wd_or] at o0 o1 o2 o3
  unfold setV
  generalize wd p 0 = x0 at *
  generalize wd p 1 = x1 at *
  generalize wd p 2 = x2 at *
  generalize wd p 3 = x3 at *
  generalize wd q 0 = y0 at *
  generalize wd q 1 = y1 at *
  generalize wd q 2 = y2 at *
  generalize wd q 3 = y3 at *
  generalize wd (orS p q) 0 = z0 at *
  generalize wd (orS p q) 1 = z1 at *
  generalize wd (orS p q) 2 = z2 at *
  generalize wd (orS p q) 3 = z3 at *
  go_enter Try.func54, Try.ntmps54
  go_wp2
  refine wp_loop_rounds 5 ?_
  rw [rounds_succ]
  go_wp2
  go_region
  go_wp2
  rw [rounds_succ]
  go_wp2
  go_region
  go_wp2
  rw [rounds_succ]
  go_wp2
  go_region
  go_wp2
  rw [rounds_succ]
  go_wp2
  go_region
  go_wp2
  rw [rounds_succ]
  go_wp2
  refine bodyPost_ret (v := .agg #[.int .u64 z0, .int .u64 z1, .int .u64 z2, .int .u64 z3]) ?_ rfl ⟨rfl, ?_⟩
  · simp [results, Try.results54, go_sem]
  · exact bel_drew (bel_drew (bel_drew (bel_drew (bel_alloc (bel_alloc (bel_alloc (Below.refl _ _) _) _) _))))

set_option maxHeartbeats 4000000 in
set_option maxRecDepth 100000 in
theorem And_is (p q : Nat → Bool) (w : World) :
    Calls Try.prog 69 #[setV p, setV q] w (Gives w (setV (andS p q))) := by
  have o0 := u64_and_nat (wd p 0) (wd q 0) (wd_lt p 0) (wd_lt q 0)
  have o1 := u64_and_nat (wd p 1) (wd q 1) (wd_lt p 1) (wd_lt q 1)
  have o2 := u64_and_nat (wd p 2) (wd q 2) (wd_lt p 2) (wd_lt q 2)
  have o3 := u64_and_nat (wd p 3) (wd q 3) (wd_lt p 3) (wd_lt q 3)
  rw [← wd_and] at o0 o1 o2 o3
  unfold setV
  generalize wd p 0 = x0 at *
  generalize wd p 1 = x1 at *
  generalize wd p 2 = x2 at *
  generalize wd p 3 = x3 at *
  generalize wd q 0 = y0 at *
  generalize wd q 1 = y1 at *
  generalize wd q 2 = y2 at *
  generalize wd q 3 = y3 at *
  generalize wd (andS p q) 0 = z0 at *
  generalize wd (andS p q) 1 = z1 at *
  generalize wd (andS p q) 2 = z2 at *
  generalize wd (andS p q) 3 = z3 at *
  go_enter Try.func69, Try.ntmps69
  go_wp2
  refine wp_loop_rounds 5 ?_
  rw [rounds_succ]
  go_wp2
  go_region
  go_wp2
  rw [rounds_succ]
  go_wp2
  go_region
  go_wp2
  rw [rounds_succ]
  go_wp2
  go_region
  go_wp2
  rw [rounds_succ]
  go_wp2
  go_region
  go_wp2
  rw [rounds_succ]
  go_wp2
  refine bodyPost_ret (v := .agg #[.int .u64 z0, .int .u64 z1, .int .u64 z2, .int .u64 z3]) ?_ rfl ⟨rfl, ?_⟩
  · simp [results, Try.results69, go_sem]
  · exact bel_drew (bel_drew (bel_drew (bel_drew (bel_alloc (bel_alloc (bel_alloc (Below.refl _ _) _) _) _))))

set_option maxHeartbeats 4000000 in
set_option maxRecDepth 100000 in
theorem Less_is (p q : Nat → Bool) (w : World) :
    Calls Try.prog 67 #[setV p, setV q] w (Gives w (setV (lessS p q))) := by
  have o0 := u64_andNot_nat (wd p 0) (wd q 0) (wd_lt p 0) (wd_lt q 0)
  have o1 := u64_andNot_nat (wd p 1) (wd q 1) (wd_lt p 1) (wd_lt q 1)
  have o2 := u64_andNot_nat (wd p 2) (wd q 2) (wd_lt p 2) (wd_lt q 2)
  have o3 := u64_andNot_nat (wd p 3) (wd q 3) (wd_lt p 3) (wd_lt q 3)
  rw [← wd_less] at o0 o1 o2 o3
  unfold setV
  generalize wd p 0 = x0 at *
  generalize wd p 1 = x1 at *
  generalize wd p 2 = x2 at *
  generalize wd p 3 = x3 at *
  generalize wd q 0 = y0 at *
  generalize wd q 1 = y1 at *
  generalize wd q 2 = y2 at *
  generalize wd q 3 = y3 at *
  generalize wd (lessS p q) 0 = z0 at *
  generalize wd (lessS p q) 1 = z1 at *
  generalize wd (lessS p q) 2 = z2 at *
  generalize wd (lessS p q) 3 = z3 at *
  go_enter Try.func67, Try.ntmps67
  go_wp2
  refine wp_loop_rounds 5 ?_
  rw [rounds_succ]
  go_wp2
  go_region
  go_wp2
  rw [rounds_succ]
  go_wp2
  go_region
  go_wp2
  rw [rounds_succ]
  go_wp2
  go_region
  go_wp2
  rw [rounds_succ]
  go_wp2
  go_region
  go_wp2
  rw [rounds_succ]
  go_wp2
  refine bodyPost_ret (v := .agg #[.int .u64 z0, .int .u64 z1, .int .u64 z2, .int .u64 z3]) ?_ rfl ⟨rfl, ?_⟩
  · simp [results, Try.results67, go_sem]
  · exact bel_drew (bel_drew (bel_drew (bel_drew (bel_alloc (bel_alloc (bel_alloc (Below.refl _ _) _) _) _))))

end Go.Proofs.Ytjdhidiocchkeaa
