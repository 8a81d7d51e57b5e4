/-
  The walk of conchlaw4.ShapeLits. (By wip/tools/gen_shlits.py.)
-/
import Derived.Test.YtjdhidiocchkeaaShNone
namespace Go.Proofs.Ytjdhidiocchkeaa
open Go.RowKit

theorem loose_ok {x : Sh} (h : OkP x) : OkP (looseSh x) := ⟨h.zero, fun h => (by cases h), fun _ => rfl⟩
theorem leq_loose {x : Sh} (h : OkP x) : leqP x (looseSh x) = true := (leqP_iff h (loose_ok h)).2 ⟨id, id, fun _ _ => id, fun h => (by cases h)⟩
theorem lit_u (s : ByteArray) : (litSh s).u = false := by
  rcases Bool.eq_false_or_eq_true (keptB s) with h | h
  · rw [litSh_k s h]
  · rw [litSh_n s h]; rfl
theorem lit_k (s : ByteArray) : (litSh s).k = keptB s := by
  rcases Bool.eq_false_or_eq_true (keptB s) with h | h
  · rw [litSh_k s h, h]
  · rw [litSh_n s h, h]; rfl
theorem lit_e (s : ByteArray) : (litSh s).e = empB s := by
  rcases Bool.eq_false_or_eq_true (keptB s) with h | h
  · rw [litSh_k s h]
  · rw [litSh_n s h]; rfl
theorem lit_h (s : ByteArray) (c : Nat) : (litSh s).h c = nz (ofS s.data.toList) c := by
  rcases Bool.eq_false_or_eq_true (keptB s) with h | h
  · rw [litSh_k s h]
    show ofS s.data.toList c = _
    unfold nz
    by_cases hc : c = 0
    · subst hc; rw [((kept_iff s).1 h).2]; rfl
    · simp [hc]
  · rw [litSh_n s h]; rfl
theorem may_loose (s : ByteArray) (hz : ofS s.data.toList 0 = false) : mayB (looseSh (litSh s)) true s = true :=
  (may_iff (loose_ok (litSh_ok s)) s).2 ⟨fun h => (by cases h), fun h => (lit_e s).trans h, fun c _ h => by
    show (litSh s).h c = true
    rw [lit_h]
    unfold nz
    rw [h]
    by_cases hc : c = 0
    · subst hc; exact no_both h hz
    · simp [hc]⟩
theorem may_lit (s : ByteArray) (hz : ofS s.data.toList 0 = false) : mayB (litSh s) true s = true := by
  obtain ⟨_, p2, p3⟩ := (may_iff (loose_ok (litSh_ok s)) s).1 (may_loose s hz)
  refine (may_iff (litSh_ok s) s).2 ⟨fun h => ?_, p2, p3⟩
  rw [litSh_k s (by rw [← lit_k]; exact h)]
theorem of_loose (s : ByteArray) : sameSh (ofSh (ofS s.data.toList) (empB s)) (looseSh (litSh s)) = true :=
  (sameSh_iff _ _).2 ⟨(lit_u s).symm, (lit_e s).symm, fun c _ => (lit_h s c).symm, rfl, rfl⟩
theorem may_f (s : ByteArray) (v : ByteArray) : mayB (litSh s) false v = false := lit_u s
theorem may_t (s t : ByteArray) (h : keptB s = true) : mayB (litSh s) true t = (s.toList == t.toList) := by
  rw [litSh_k s h]; rfl

end Go.Proofs.Ytjdhidiocchkeaa
