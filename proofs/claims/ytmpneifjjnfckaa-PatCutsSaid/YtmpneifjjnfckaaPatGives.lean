/-
  A pattern that a call hands back; contracts of conchlaw6's Tame and letters.
-/
import Derived.Test.YtmpneifjjnfckaaRefCut
import Derived.Test.YtmpneifjjnfckaaRefDigits
namespace Go.Proofs.Ytmpneifjjnfckaa
open Go.RowKit

/-- a slice that reads as these bools, and does not lie in block c -/
def LiveOff (w : World) (L : Value) (v : List Bool) (c : Nat) : Prop :=
  ∃ (ao : Option Addr) (cap : Nat), L = .slice ao v.length cap ∧ v.length ≤ maxLen ∧ ∀ (j : Nat) (x : Bool), v[j]? = some x → ∃ b o, ao = some ⟨b, o, none⟩ ∧ b ≠ c ∧ w.cell? ⟨b, o + j, none⟩ = some (.bool x)
theorem LiveOff.at_ {w : World} {L : Value} {v : List Bool} {c : Nat} (h : LiveOff w L v c) : LiveAt w L v := by
  obtain ⟨ao, cap, h1, h2, h3⟩ := h
  exact ⟨ao, cap, h1, h2, fun j x hj => by obtain ⟨b, o, g1, _, g2⟩ := h3 j x hj; exact ⟨b, o, g1, g2⟩⟩
theorem LiveOff.after {w w' : World} {L : Value} {v : List Bool} {c : Nat} (h : LiveOff w L v c) (hb : Below w.heap.size w w') : LiveOff w' L v c := by
  obtain ⟨ao, cap, h1, h2, h3⟩ := h
  exact ⟨ao, cap, h1, h2, fun j x hj => by obtain ⟨b, o, g1, g2, g3⟩ := h3 j x hj; exact ⟨b, o, g1, g2, cell_after g3 hb⟩⟩
theorem cell_far {w : World} {a d : Addr} {x u : Value} (h : w.cell? a = some x) (hne : a.block ≠ d.block) : (w.setCell d u).cell? a = some x := by
  unfold World.cell? at *
  rw [Below.heap_setCell w d u a.block hne]
  exact h
theorem LiveOff.set {w : World} {L : Value} {v : List Bool} {c : Nat} (h : LiveOff w L v c) (i : Nat) (u : Value) : LiveOff (w.setCell ⟨c, i, none⟩ u) L v c := by
  obtain ⟨ao, cap, h1, h2, h3⟩ := h
  exact ⟨ao, cap, h1, h2, fun j x hj => by obtain ⟨b, o, g1, g2, g3⟩ := h3 j x hj; exact ⟨b, o, g1, g2, cell_far g3 g2⟩⟩
theorem lt_of_cell6 {w : World} {a : Addr} {v : Value} (h : w.cell? a = some v) : a.block < w.heap.size := by
  rcases Nat.lt_or_ge a.block w.heap.size with hlt | hge
  · exact hlt
  · have : w.heap[a.block]? = none := Array.getElem?_eq_none hge
    simp [World.cell?, this] at h
theorem LiveAt.off {w : World} {L : Value} {v : List Bool} (h : LiveAt w L v) (c : Nat) (hc : w.heap.size ≤ c) : LiveOff w L v c := by
  obtain ⟨ao, cap, h1, h2, h3⟩ := h
  refine ⟨ao, cap, h1, h2, fun j x hj => ?_⟩
  obtain ⟨b, o, g1, g2⟩ := h3 j x hj
  exact ⟨b, o, g1, by have : b < w.heap.size := lt_of_cell6 (a := ⟨b, o + j, none⟩) g2; omega, g2⟩

/-- returned a pattern of this text, whose live bytes are so, in memory of its own; of the memory that was there nothing has turned -/
def GivesPat (w : World) (t : ByteArray) (V : List Bool → Prop) (e : Ending) (w' : World) : Prop := ∃ L v, e = .returned (patV t L) ∧ LiveAt w' L v ∧ V v ∧ Below w.heap.size w w' ∧ ∀ c, c < w.heap.size → LiveOff w' L v c
def RawV (t : ByteArray) (v : List Bool) : Prop := v = List.replicate t.size true
def DeadV (v : List Bool) : Prop := ∀ i, livB v i = false

theorem live_rep (n i : Nat) : livB (List.replicate n true) i = decide (i < n) := by
  unfold livB
  rw [List.getD_eq_getElem?_getD, List.getElem?_replicate]
  by_cases h : i < n <;> simp [h]
theorem LiveAt.len {w : World} {L : Value} {v : List Bool} (h : LiveAt w L v) : v.length ≤ maxLen := by
  obtain ⟨_, _, _, h, _⟩ := h
  exact h
end Go.Proofs.Ytmpneifjjnfckaa
