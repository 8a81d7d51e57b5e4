/-
  Plain facts on what is cut off (no program in it).
-/
import Derived.Test.YtmpneifjjnfckaaPatPlain
namespace Go.Proofs.Ytmpneifjjnfckaa

def cutF {α : Type} (f : Nat → Option α) (d : α) : Nat → Nat → α
  | 0, _ => d
  | n + 1, i => match f i with
    | some x => x
    | none => cutF f d n (i + 1)
def cutN (s : List UInt8) (long : Bool) (i : Nat) : Nat := if long then s.length - i else i
def cutAt (m : List UInt8 → Bool) (s : List UInt8) (front long : Bool) (i : Nat) : Option (List UInt8) :=
  if front then (if m (s.take (cutN s long i)) then some (s.drop (cutN s long i)) else none)
  else (if m (s.drop (s.length - cutN s long i)) then some (s.take (s.length - cutN s long i)) else none)
/-- s without its shortest (longest) beginning (end) that is matched -/
def cutB (m : List UInt8 → Bool) (s : List UInt8) (front long : Bool) : List UInt8 := cutF (cutAt m s front long) s (s.length + 1) 0

theorem cutF_some {α : Type} {f : Nat → Option α} {d x : α} {n i : Nat} (h : f i = some x) : cutF f d (n + 1) i = x := by rw [cutF, h]
theorem cutF_none {α : Type} {f : Nat → Option α} {d : α} {n i : Nat} (h : f i = none) : cutF f d (n + 1) i = cutF f d n (i + 1) := by rw [cutF, h]
theorem cutF_ways {α : Type} (f : Nat → Option α) (d : α) : ∀ n i, (∃ k x, i ≤ k ∧ k < i + n ∧ (∀ j, i ≤ j → j < k → f j = none) ∧ f k = some x ∧ cutF f d n i = x) ∨ ((∀ j, i ≤ j → j < i + n → f j = none) ∧ cutF f d n i = d)
  | 0, i => .inr ⟨fun j h1 h2 => by omega, rfl⟩
  | n + 1, i => by
    cases h : f i with
    | some x => exact .inl ⟨i, x, Nat.le_refl _, by omega, fun j h1 h2 => by omega, h, cutF_some h⟩
    | none =>
      rw [cutF_none h]
      rcases cutF_ways f d n (i + 1) with ⟨k, x, h1, h2, h3, h4, h5⟩ | ⟨h1, h2⟩
      · refine .inl ⟨k, x, by omega, by omega, fun j g1 g2 => ?_, h4, h5⟩
        by_cases hj : j = i
        · rw [hj]; exact h
        · exact h3 j (by omega) g2
      · refine .inr ⟨fun j g1 g2 => ?_, h2⟩
        by_cases hj : j = i
        · rw [hj]; exact h
        · exact h1 j (by omega) (by omega)
end Go.Proofs.Ytmpneifjjnfckaa
