/-
  A slice of ints among the arguments.
-/
import Derived.Test.YtgdaipgmlibpiaaBase
import Derived.ProofKit
import Derived.OpenShut
import Derived.ChangeSlices
namespace Go.Proofs.Ytgdaipgmlibpiaa
open Go.ChangeShapes Go.WideShapes Go.ChangeAt Go.RowKit

/-- the elements of a slice of ints -/
def IntRow (w : World) (a0 : Option Addr) (len : Nat) (f : Nat → Int) : Prop :=
  ∀ i, i < len → ∃ a, a0 = some a ∧ w.cell? (a.add i) = some (.int .i64 (f i))
theorem addI_block (a : Addr) (n : Nat) : (a.add n).block = a.block := by
  unfold Addr.add
  split <;> rfl
/-- element i, where it lies -/
theorem IntRow.get {w : World} {a0 : Option Addr} {len : Nat} {f : Nat → Int} (h : IntRow w a0 len f) {i : Nat} (hi : i < len) : ∃ a, a0 = some a ∧ a.block < w.heap.size ∧ w.cell? (a.add i) = some (.int .i64 (f i)) := by
  obtain ⟨a, h1, h2⟩ := h i hi
  refine ⟨a, h1, ?_, h2⟩
  have := World.block_lt_of_cell? w _ h2
  rwa [addI_block] at this
theorem IntRow.after {w w' : World} {a0 : Option Addr} {len : Nat} {f : Nat → Int} (h : IntRow w a0 len f) (hb : Below w.heap.size w w') : IntRow w' a0 len f := fun i hi => by
  obtain ⟨a, h1, h2⟩ := h i hi
  exact ⟨a, h1, (World.cell?_of_block (hb.block _ (World.block_lt_of_cell? _ _ h2))).trans h2⟩
theorem open_introw {H : Type} {enc : TypeId × Value → H} {w : World} {a0 : Option Addr} {len cap : Nat} {d : DataW H} {p : List MemPlace}
    (h : DataW.Trod enc Try.prog w 0 (fun _ => true) true 35 (.slice a0 len cap) d p) : ∃ f, IntRow w a0 len f := by
  obtain ⟨fuel, hf⟩ := h
  have hc : Try.prog.cellsOf 3 = 1 := by kernel_rfl
  rcases Go.ChangeShapes.open_ints Try.underlying35 Try.underlying3 hc hf with ⟨hcs, _⟩ | ⟨a, len', cap', zs, hcs, _, hle, _, hzs, _, hcell, _⟩
  · simp [Value.cells] at hcs
    obtain ⟨_, rfl, _⟩ := hcs
    exact ⟨fun _ => 0, fun i hi => absurd hi (Nat.not_lt_zero i)⟩
  · simp [Value.cells] at hcs
    obtain ⟨rfl, rfl, rfl⟩ := hcs
    simp only [if_true] at hzs
    exact ⟨fun i => zs.getD i 0, fun i hi => ⟨a, rfl, hcell i (by omega)⟩⟩
end Go.Proofs.Ytgdaipgmlibpiaa
