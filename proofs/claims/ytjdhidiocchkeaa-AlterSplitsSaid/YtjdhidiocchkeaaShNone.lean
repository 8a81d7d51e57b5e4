/-
  The walk of conchlaw4.ShapeNone.
-/
import Derived.Test.YtjdhidiocchkeaaShAwake
namespace Go.Proofs.Ytjdhidiocchkeaa
open Go.RowKit

theorem ShAt.laters0 {w : World} {b : Nat} (h : ShAt w b zeroSh) : (∀ y : Later w, y.at_.cell? ⟨b, 0, none⟩ = some (.bool false)) ∧ (∀ y : Later w, y.at_.cell? ⟨b, 1, none⟩ = some (.bool false)) ∧ (∀ y : Later w, y.at_.cell? ⟨b, 2, none⟩ = some (.int .u64 0)) ∧ (∀ y : Later w, y.at_.cell? ⟨b, 3, none⟩ = some (.int .u64 0)) ∧ (∀ y : Later w, y.at_.cell? ⟨b, 4, none⟩ = some (.int .u64 0)) ∧ (∀ y : Later w, y.at_.cell? ⟨b, 5, none⟩ = some (.int .u64 0)) ∧ (∀ y : Later w, y.at_.cell? ⟨b, 6, none⟩ = some (.bool false)) ∧ (∀ y : Later w, y.at_.cell? ⟨b, 7, none⟩ = some (.string ⟨#[]⟩)) := by
  have h1 := h.laters
  simp only [zeroSh, wd_no] at h1
  exact h1

theorem ok_len {x : Sh} (h : OkP x) : x.l.size ≤ 1048576 := by
  rcases Bool.eq_false_or_eq_true x.k with hk | hk
  · have := (h.lit hk).1.1; omega
  · rw [h.no hk]; decide

theorem may_zero (is : Bool) (v : ByteArray) : mayB zeroSh is v = false := by
  cases is with
  | false => rfl
  | true =>
    refine bfalse fun h => ?_
    rcases may_could zero_ok h with h1 | ⟨c, _, h1⟩
    · cases h1
    · cases h1
theorem leq_zero {x : Sh} (h : OkP x) : leqP zeroSh x = true := (leqP_iff zero_ok h).2 ⟨fun h => (by cases h), fun h => (by cases h), fun _ _ h => (by cases h), fun _ h => by
  rcases h with h1 | ⟨c, _, h1⟩
  · cases h1
  · cases h1⟩
theorem join_zero_l (x : Sh) : joinP zeroSh x = x := by unfold joinP; rw [none_zero]; rfl
theorem join_zero_r {x : Sh} (h : OkP x) : sameSh (joinP x zeroSh) x = true :=
  join_absorb zero_ok h ⟨fun h => (by cases h), fun h => (by cases h), fun _ _ h => (by cases h), fun _ h => by
    rcases h with h1 | ⟨c, _, h1⟩
    · cases h1
    · cases h1⟩
theorem any_lj {x : Sh} (h : OkP x) : Lj x anySh := ⟨fun _ => rfl, fun _ => rfl, fun c _ h1 => by
  show decide (c ≠ 0) = true
  refine decide_eq_true fun hc => ?_
  subst hc
  exact no_both h1 h.zero, fun h => (by cases h)⟩
theorem leq_any {x : Sh} (h : OkP x) : leqP x anySh = true := (leqP_iff h any_ok).2 (any_lj h).le
theorem join_any {x : Sh} (h : OkP x) : sameSh (joinP x anySh) anySh = true := same_trans (join_comm any_ok h) (join_absorb h any_ok (any_lj h))
theorem may_any (is : Bool) (v : ByteArray) (h : ofS v.data.toList 0 = false) : mayB anySh is v = true := by
  cases is with
  | false => rfl
  | true => exact (may_iff any_ok v).2 ⟨fun h => (by cases h), fun _ => rfl, fun c _ h1 => decide_eq_true fun hc => by subst hc; exact no_both h1 h⟩

/-- None, field by field -/
def noneF : Bool → Bool → Bool → Bool → Bool
  | true, _, _, _ => false
  | false, true, _, _ => false
  | false, false, true, _ => false
  | false, false, false, z => z
theorem noneB_F (x : Sh) : noneB x = noneF x.u x.k x.e (sameS x.h noS) := by
  unfold noneB couldB noneF
  cases x.u <;> cases x.k <;> cases x.e <;> cases sameS x.h noS <;> rfl

end Go.Proofs.Ytjdhidiocchkeaa
