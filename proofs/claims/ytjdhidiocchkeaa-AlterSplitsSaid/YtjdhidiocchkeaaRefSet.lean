/-
  Contracts of the document's answer on sets (conchref1: Has, With, Or, And, Less, Range, SetOf, Bytes), over the translation: each returns what the plain functions of SetPlain say.
-/
import Derived.Test.YtjdhidiocchkeaaSetAt
import Derived.Test.YtjdhidiocchkeaaSetOf
import Derived.Test.YtjdhidiocchkeaaSetBytesOf
import Derived.Test.YtjdhidiocchkeaaBits
import Derived.StillTailTactics
namespace Go.Proofs.Ytjdhidiocchkeaa
open Go.RowKit

theorem i63 (c : Nat) : bits .and .i64 (c : Int) 63 = ((c % 64 : Nat) : Int) := by
  rw [and_mask (c : Int) 6 (by decide) 63 rfl]; simp
theorem i3 (c q : Nat) (hc : c < 256) (h : c / 64 = q) : bits .and .i64 ((c : Int) / 64) 3 = (q : Int) := by
  rw [and_mask _ 2 (by decide) 3 rfl]; omega
theorem bit_shift (x m : Nat) (hx : x < 18446744073709551616) : (bits .and .u64 ((x : Int) / 2 ^ m) 1 == 1) = x.testBit m := by
  have e : ((x : Int) / 2 ^ m) = ((x / 2 ^ m : Nat) : Int) := by simp
  have h1 := u64_and_nat (x / 2 ^ m) 1 (Nat.lt_of_le_of_lt (Nat.div_le_self _ _) hx) (by decide)
  rw [e]
  rw [show ((1 : Nat) : Int) = 1 from rfl] at h1
  rw [h1, nat_mask1, Nat.testBit_eq_decide_div_mod_eq, Bool.eq_iff_iff, beq_iff_eq, decide_eq_true_eq]
  omega

set_option maxHeartbeats 1000000 in
set_option maxRecDepth 100000 in
theorem refWith_is (p : Nat → Bool) (c : Nat) (hc : c < 256) (w : World) :
    Calls Try.prog 48 #[setV p, .int .i64 c] w (Gives w (setV (putS p c))) := by
  obtain ⟨m, hm⟩ : ∃ m, c % 64 = m := ⟨_, rfl⟩
  obtain ⟨t, ht⟩ : ∃ t, 2 ^ m = t := ⟨_, rfl⟩
  obtain ⟨x0, e0⟩ : ∃ x, wd p 0 = x := ⟨_, rfl⟩
  obtain ⟨x1, e1⟩ : ∃ x, wd p 1 = x := ⟨_, rfl⟩
  obtain ⟨x2, e2⟩ : ∃ x, wd p 2 = x := ⟨_, rfl⟩
  obtain ⟨x3, e3⟩ : ∃ x, wd p 3 = x := ⟨_, rfl⟩
  have H := setV_put p c x0 x1 x2 x3 t e0 e1 e2 e3 (by rw [hm]; exact ht)
  have l0 := e0 ▸ wd_lt p 0
  have l1 := e1 ▸ wd_lt p 1
  have l2 := e2 ▸ wd_lt p 2
  have l3 := e3 ▸ wd_lt p 3
  have hm2 : m < 64 := by omega
  have lt : t < 18446744073709551616 := ht ▸ (Nat.pow_lt_pow_right (by decide) hm2 : 2 ^ m < 2 ^ 64)
  have ha := i63 c
  rw [hm] at ha
  have hs : IntKind.u64.wrap ((2 : Int) ^ m) = (t : Int) := by
    have := u64_wrap_in t lt
    rw [← ht] at this ⊢
    simpa using this
  have eV : setV p = .agg #[.int .u64 x0, .int .u64 x1, .int .u64 x2, .int .u64 x3] := by unfold setV; rw [e0, e1, e2, e3]
  rw [eV]
  have o0 := u64_or_nat x0 t l0 lt
  have o1 := u64_or_nat x1 t l1 lt
  have o2 := u64_or_nat x2 t l2 lt
  have o3 := u64_or_nat x3 t l3 lt
  have HH := Lib.hid H
  have h4 : c / 64 = 0 ∨ c / 64 = 1 ∨ c / 64 = 2 ∨ c / 64 = 3 := by omega
  clear H e0 e1 e2 e3 l0 l1 l2 l3 lt hm ht eV
  rcases h4 with h | h | h | h
  · have hq : bits .and .i64 ((c : Int) / 64) 3 = 0 := i3 c 0 hc h
    have HQ := Lib.hid (HH.out.1 h)
    go_enter Try.func48, Try.ntmps48
    go_wp2
    go_region
    go_wp2
    refine bodyPost_ret (v := setV (putS p c)) ?_ rfl ⟨rfl, bel_drew (bel_alloc (bel_alloc (Below.refl _ _) _) _)⟩
    rw [HQ.out]
    simp [results, Try.results48, go_sem]
  · have hq : bits .and .i64 ((c : Int) / 64) 3 = 1 := i3 c 1 hc h
    have HQ := Lib.hid (HH.out.2.1 h)
    go_enter Try.func48, Try.ntmps48
    go_wp2
    go_region
    go_wp2
    refine bodyPost_ret (v := setV (putS p c)) ?_ rfl ⟨rfl, bel_drew (bel_alloc (bel_alloc (Below.refl _ _) _) _)⟩
    rw [HQ.out]
    simp [results, Try.results48, go_sem]
  · have hq : bits .and .i64 ((c : Int) / 64) 3 = 2 := i3 c 2 hc h
    have HQ := Lib.hid (HH.out.2.2.1 h)
    go_enter Try.func48, Try.ntmps48
    go_wp2
    go_region
    go_wp2
    refine bodyPost_ret (v := setV (putS p c)) ?_ rfl ⟨rfl, bel_drew (bel_alloc (bel_alloc (Below.refl _ _) _) _)⟩
    rw [HQ.out]
    simp [results, Try.results48, go_sem]
  · have hq : bits .and .i64 ((c : Int) / 64) 3 = 3 := i3 c 3 hc h
    have HQ := Lib.hid (HH.out.2.2.2 h)
    go_enter Try.func48, Try.ntmps48
    go_wp2
    go_region
    go_wp2
    refine bodyPost_ret (v := setV (putS p c)) ?_ rfl ⟨rfl, bel_drew (bel_alloc (bel_alloc (Below.refl _ _) _) _)⟩
    rw [HQ.out]
    simp [results, Try.results48, go_sem]

set_option maxHeartbeats 4000000 in
set_option maxRecDepth 100000 in
theorem refOr_is (p q : Nat → Bool) (w : World) :
    Calls Try.prog 56 #[setV p, setV q] w (Gives w (setV (orS p q))) := by
  have o0 := u64_or_nat (wd p 0) (wd q 0) (wd_lt p 0) (wd_lt q 0)
  have o1 := u64_or_nat (wd p 1) (wd q 1) (wd_lt p 1) (wd_lt q 1)
  have o2 := u64_or_nat (wd p 2) (wd q 2) (wd_lt p 2) (wd_lt q 2)
  have o3 := u64_or_nat (wd p 3) (wd q 3) (wd_lt p 3) (wd_lt q 3)
  rw [← wd_or] at o0 o1 o2 o3
  unfold setV
  generalize wd p 0 = x0 at *
  generalize wd p 1 = x1 at *
  generalize wd p 2 = x2 at *
  generalize wd p 3 = x3 at *
  generalize wd q 0 = y0 at *
  generalize wd q 1 = y1 at *
  generalize wd q 2 = y2 at *
  generalize wd q 3 = y3 at *
  generalize wd (orS p q) 0 = z0 at *
  generalize wd (orS p q) 1 = z1 at *
  generalize wd (orS p q) 2 = z2 at *
  generalize wd (orS p q) 3 = z3 at *
  go_enter Try.func56, Try.ntmps56
  go_wp2
  refine wp_loop_rounds 5 ?_
  rw [rounds_succ]
  go_wp2
  go_region
  go_wp2
  rw [rounds_succ]
  go_wp2
  go_region
  go_wp2
  rw [rounds_succ]
  go_wp2
  go_region
  go_wp2
  rw [rounds_succ]
  go_wp2
  go_region
  go_wp2
  rw [rounds_succ]
  go_wp2
  refine bodyPost_ret (v := .agg #[.int .u64 z0, .int .u64 z1, .int .u64 z2, .int .u64 z3]) ?_ rfl ⟨rfl, ?_⟩
  · simp [results, Try.results56, go_sem]
  · exact bel_drew (bel_drew (bel_drew (bel_drew (bel_alloc (bel_alloc (bel_alloc (Below.refl _ _) _) _) _))))

set_option maxHeartbeats 4000000 in
set_option maxRecDepth 100000 in
theorem refAnd_is (p q : Nat → Bool) (w : World) :
    Calls Try.prog 63 #[setV p, setV q] w (Gives w (setV (andS p q))) := by
  have o0 := u64_and_nat (wd p 0) (wd q 0) (wd_lt p 0) (wd_lt q 0)
  have o1 := u64_and_nat (wd p 1) (wd q 1) (wd_lt p 1) (wd_lt q 1)
  have o2 := u64_and_nat (wd p 2) (wd q 2) (wd_lt p 2) (wd_lt q 2)
  have o3 := u64_and_nat (wd p 3) (wd q 3) (wd_lt p 3) (wd_lt q 3)
  rw [← wd_and] at o0 o1 o2 o3
  unfold setV
  generalize wd p 0 = x0 at *
  generalize wd p 1 = x1 at *
  generalize wd p 2 = x2 at *
  generalize wd p 3 = x3 at *
  generalize wd q 0 = y0 at *
  generalize wd q 1 = y1 at *
  generalize wd q 2 = y2 at *
  generalize wd q 3 = y3 at *
  generalize wd (andS p q) 0 = z0 at *
  generalize wd (andS p q) 1 = z1 at *
  generalize wd (andS p q) 2 = z2 at *
  generalize wd (andS p q) 3 = z3 at *
  go_enter Try.func63, Try.ntmps63
  go_wp2
  refine wp_loop_rounds 5 ?_
  rw [rounds_succ]
  go_wp2
  go_region
  go_wp2
  rw [rounds_succ]
  go_wp2
  go_region
  go_wp2
  rw [rounds_succ]
  go_wp2
  go_region
  go_wp2
  rw [rounds_succ]
  go_wp2
  go_region
  go_wp2
  rw [rounds_succ]
  go_wp2
  refine bodyPost_ret (v := .agg #[.int .u64 z0, .int .u64 z1, .int .u64 z2, .int .u64 z3]) ?_ rfl ⟨rfl, ?_⟩
  · simp [results, Try.results63, go_sem]
  · exact bel_drew (bel_drew (bel_drew (bel_drew (bel_alloc (bel_alloc (bel_alloc (Below.refl _ _) _) _) _))))

set_option maxHeartbeats 4000000 in
set_option maxRecDepth 100000 in
theorem refLess_is (p q : Nat → Bool) (w : World) :
    Calls Try.prog 47 #[setV p, setV q] w (Gives w (setV (lessS p q))) := by
  have o0 := u64_andNot_nat (wd p 0) (wd q 0) (wd_lt p 0) (wd_lt q 0)
  have o1 := u64_andNot_nat (wd p 1) (wd q 1) (wd_lt p 1) (wd_lt q 1)
  have o2 := u64_andNot_nat (wd p 2) (wd q 2) (wd_lt p 2) (wd_lt q 2)
  have o3 := u64_andNot_nat (wd p 3) (wd q 3) (wd_lt p 3) (wd_lt q 3)
  rw [← wd_less] at o0 o1 o2 o3
  unfold setV
  generalize wd p 0 = x0 at *
  generalize wd p 1 = x1 at *
  generalize wd p 2 = x2 at *
  generalize wd p 3 = x3 at *
  generalize wd q 0 = y0 at *
  generalize wd q 1 = y1 at *
  generalize wd q 2 = y2 at *
  generalize wd q 3 = y3 at *
  generalize wd (lessS p q) 0 = z0 at *
  generalize wd (lessS p q) 1 = z1 at *
  generalize wd (lessS p q) 2 = z2 at *
  generalize wd (lessS p q) 3 = z3 at *
  go_enter Try.func47, Try.ntmps47
  go_wp2
  refine wp_loop_rounds 5 ?_
  rw [rounds_succ]
  go_wp2
  go_region
  go_wp2
  rw [rounds_succ]
  go_wp2
  go_region
  go_wp2
  rw [rounds_succ]
  go_wp2
  go_region
  go_wp2
  rw [rounds_succ]
  go_wp2
  go_region
  go_wp2
  rw [rounds_succ]
  go_wp2
  refine bodyPost_ret (v := .agg #[.int .u64 z0, .int .u64 z1, .int .u64 z2, .int .u64 z3]) ?_ rfl ⟨rfl, ?_⟩
  · simp [results, Try.results47, go_sem]
  · exact bel_drew (bel_drew (bel_drew (bel_drew (bel_alloc (bel_alloc (bel_alloc (Below.refl _ _) _) _) _))))

end Go.Proofs.Ytjdhidiocchkeaa
