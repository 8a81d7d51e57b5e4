/-
  A slice of shapes among the arguments: opened to plain records.
-/
import Derived.Test.YtboiplanipgidaaShOpen
import Derived.Test.YtboiplanipgidaaShLaws
import Derived.Deep.Slices
namespace Go.Proofs.Ytboiplanipgidaa
open Go.ChangeShapes Go.WideShapes Go.ChangeAt Go.RowKit

/-- the elements of a slice, as plain shapes -/
def ShRow (w : World) (a0 : Option Addr) (len : Nat) (f : Nat → Sh) : Prop :=
  ∀ i, i < len → ∃ a, a0 = some a ∧ ∀ j, j < 8 → w.cell? ((a.add (i * 8)).add j) = (shC (f i))[j]?

theorem add_block (a : Addr) (n : Nat) : (a.add n).block = a.block := by
  unfold Addr.add
  split <;> rfl
theorem add_zero (a : Addr) : a.add 0 = a := by unfold Addr.add; rw [if_pos rfl]
theorem add_succ (b o : Nat) (s : Option Nat) (n : Nat) : (⟨b, o, s⟩ : Addr).add (n + 1) = ⟨b, o + (n + 1), none⟩ := by unfold Addr.add; rw [if_neg (by omega)]

theorem lt_of_cell {w : World} {a : Addr} {v : Value} (h : w.cell? a = some v) : a.block < w.heap.size := by
  rcases Nat.lt_or_ge a.block w.heap.size with hlt | hge
  · exact hlt
  · have : w.heap[a.block]? = none := Array.getElem?_eq_none hge
    simp [World.cell?, this] at h

/-- element i, where it lies -/
theorem ShRow.get {w : World} {a0 : Option Addr} {len : Nat} {f : Nat → Sh} (h : ShRow w a0 len f) {i : Nat} (hi : i < len) :
    ∃ (a : Addr) (b o : Nat) (s : Option Nat), a0 = some a ∧ a.add (i * 8) = ⟨b, o, s⟩ ∧ b < w.heap.size ∧ w.cell? ⟨b, o, s⟩ = some (.bool (f i).u) ∧ w.cell? ⟨b, o + 1, none⟩ = some (.bool (f i).e) ∧
      w.cell? ⟨b, o + 2, none⟩ = some (.int .u64 (wd (f i).h 0 : Nat)) ∧ w.cell? ⟨b, o + 3, none⟩ = some (.int .u64 (wd (f i).h 1 : Nat)) ∧ w.cell? ⟨b, o + 4, none⟩ = some (.int .u64 (wd (f i).h 2 : Nat)) ∧ w.cell? ⟨b, o + 5, none⟩ = some (.int .u64 (wd (f i).h 3 : Nat)) ∧
      w.cell? ⟨b, o + 6, none⟩ = some (.bool (f i).k) ∧ w.cell? ⟨b, o + 7, none⟩ = some (.string (f i).l) := by
  obtain ⟨a, ha, hc⟩ := h i hi
  obtain ⟨b, o, s, hs⟩ : ∃ b o s, a.add (i * 8) = ⟨b, o, s⟩ := ⟨_, _, _, rfl⟩
  rw [hs] at hc
  have h0 := hc 0 (by decide)
  have h1 := hc 1 (by decide)
  have h2 := hc 2 (by decide)
  have h3 := hc 3 (by decide)
  have h4 := hc 4 (by decide)
  have h5 := hc 5 (by decide)
  have h6 := hc 6 (by decide)
  have h7 := hc 7 (by decide)
  rw [add_zero] at h0
  rw [add_succ] at h1 h2 h3 h4 h5 h6 h7
  exact ⟨a, b, o, s, ha, hs, lt_of_cell (a := ⟨b, o, s⟩) h0, h0, h1, h2, h3, h4, h5, h6, h7⟩

theorem open_shapes {H : Type} {enc : TypeId × Value → H} {w : World} {a0 : Option Addr} {len cap : Nat} {d : DataW H} {p : List MemPlace}
    (h : DataW.Trod enc Try.prog w 0 (fun _ => true) true 40 (.slice a0 len cap) d p) : ∃ f, ShRow w a0 len f := by
  obtain ⟨fuel, hf⟩ := h
  rcases Go.Deep.open_slice Try.underlying40 hf with ⟨hcs, _⟩ | ⟨a, len', cap', m, n, D, Pl, hcs, _, hl, _, hm, _, hx⟩
  · simp [Value.cells] at hcs
    obtain ⟨_, rfl, _⟩ := hcs
    exact ⟨fun _ => zeroSh, fun i hi => absurd hi (Nat.not_lt_zero i)⟩
  · simp [Value.cells] at hcs
    obtain ⟨rfl, rfl, rfl⟩ := hcs
    simp only [if_true] at hm
    have hone : ∀ i, ∃ s : Sh, i < len → ∀ j, j < 8 → w.cell? ((a.add (i * 8)).add j) = (shC s)[j]? := fun i => by
      by_cases hi : i < len
      · obtain ⟨cs, hc, ht⟩ := hx i (by omega)
        rw [cells_shape] at hc
        obtain ⟨_, hlen, hat⟩ := World.cells?_some hc
        obtain ⟨s, rfl, _, _⟩ := trod_shape hlen ht
        exact ⟨s, fun _ j hj => hat j hj⟩
      · exact ⟨zeroSh, fun h => absurd h hi⟩
    refine ⟨fun i => Classical.choose (hone i), fun i hi => ⟨a, rfl, ?_⟩⟩
    exact Classical.choose_spec (hone i) hi
end Go.Proofs.Ytboiplanipgidaa
