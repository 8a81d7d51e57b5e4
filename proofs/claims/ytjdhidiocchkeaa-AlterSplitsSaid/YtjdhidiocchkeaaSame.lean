/-
  The contract of the statements' SameTexts: whether two rows of texts are the same; of what was there nothing turns.
-/
import Derived.Test.YtjdhidiocchkeaaLines
namespace Go.Proofs.Ytjdhidiocchkeaa
open Go.RowKit

/-- a slice that reads as these texts -/
def StrRow (w : World) (v : Value) (xs : List (List UInt8)) : Prop :=
  ∃ (ao : Option Addr) (cap : Nat), v = .slice ao xs.length cap ∧ xs.length ≤ maxLen ∧ (0 < xs.length → ∃ g, ao = some ⟨g, 0, none⟩ ∧ ∀ (j : Nat) (x : List UInt8), xs[j]? = some x → w.cell? ⟨g, j, none⟩ = some (strV x))

theorem StrRow.of_owns {w : World} {base : Nat} {v : Value} {xs : List (List UInt8)} (h : w.ownsRow base 9 1 v xs.length (xs.map strV)) : StrRow w v xs := by
  obtain ⟨_, h1 | ⟨g, cap, cur, h1, h2, h3, h4, h5, h6, h7⟩⟩ := h
  · obtain ⟨h1, h2⟩ := h1
    refine ⟨none, 0, by rw [h2]; exact h1, by omega, fun h => by omega⟩
  · refine ⟨_, cap, h1, by omega, fun _ => ⟨g, rfl, ?_⟩⟩
    intro j x hj
    have hl : j < xs.length := (List.getElem?_eq_some_iff.1 hj).1
    have ho : w.ownsRow base 9 1 (.slice (some ⟨g, 0, none⟩) xs.length cap) xs.length (xs.map strV) := ⟨by simp, .inr ⟨g, cap, cur, rfl, h2, h3, h4, h5, h6, h7⟩⟩
    rw [ho.cellAt j (by omega), List.getElem?_map, hj]; rfl

/-- what a look leaves: the answer, and draws -/
def Told (w : World) (b : Bool) (e : Ending) (w' : World) : Prop := e = .returned (.bool b) ∧ ∃ n, w' = w.drewN n

theorem same_upto {xs ys : List (List UInt8)} {n k : Nat} (hx : xs.length = n) (hy : ys.length = n) (hk : n ≤ k) (h : ∀ j : Nat, j < k → xs[j]? = ys[j]?) : xs = ys := by
  apply List.ext_getElem?
  intro j
  by_cases hj : j < k
  · exact h j hj
  · rw [List.getElem?_eq_none (by omega), List.getElem?_eq_none (by omega)]

end Go.Proofs.Ytjdhidiocchkeaa
