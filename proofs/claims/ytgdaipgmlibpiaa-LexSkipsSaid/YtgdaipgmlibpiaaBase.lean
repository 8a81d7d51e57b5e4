/-
  What a call leaves (Gives), and memory below a mark that nothing turns; a block that holds a row of cells (BlkAt).
-/
import Derived.Test.YtgdaipgmlibpiaaChecked
import Derived.WalkKit
import Derived.Below
import Derived.Lib.Hide
import Derived.Lib.Walk
namespace Go.Proofs.Ytgdaipgmlibpiaa
open Go.RowKit

/-- returned v, and of the memory that was there nothing has turned -/
def Gives (w : World) (v : Value) (e : Ending) (w' : World) : Prop := e = .returned v ∧ Below w.heap.size w w'

theorem bel_alloc {w w' : World} (h : Below w.heap.size w w') (o : Obj) : Below w.heap.size w (w'.alloc o) := h.alloc h.size o
theorem bel_drew {w w' : World} (h : Below w.heap.size w w') : Below w.heap.size w w'.drew := h.drew
theorem bel_set {w w' : World} (h : Below w.heap.size w w') (p : Addr) (hp : w.heap.size ≤ p.block) (u : Value) : Below w.heap.size w (w'.setCell p u) := h.setCell hp u
theorem bel_step {w w1 w2 : World} (h : Below w.heap.size w w1) (k : Below w1.heap.size w1 w2) : Below w.heap.size w w2 := h.trans (k.mono h.size)

/-- block b holds the cells cs -/
def BlkAt (w : World) (b : Nat) (cs : Array Value) (t : TypeId) : Prop := w.heap[b]? = some (.cells cs t (0, 0))

section
variable {w w' : World} {b : Nat} {cs : Array Value} {t : TypeId}
theorem BlkAt.lt (h : BlkAt w b cs t) : b < w.heap.size := by
  rcases Nat.lt_or_ge b w.heap.size with hlt | hge
  · exact hlt
  · unfold BlkAt at h; rw [Array.getElem?_eq_none hge] at h; cases h
theorem BlkAt.cell (h : BlkAt w b cs t) (i : Nat) {v : Value} (hv : cs[i]? = some v) : w.cell? ⟨b, i, none⟩ = some v := by
  unfold BlkAt at h
  simp [World.cell?, h, hv]
theorem BlkAt.frozen (h : BlkAt w b cs t) (i : Nat) : w.frozen? ⟨b, i, none⟩ = false := by
  unfold BlkAt at h
  simp [World.frozen?, h]
theorem BlkAt.alloc (h : BlkAt w b cs t) (o : Obj) : BlkAt (w.alloc o) b cs t := (Below.heap_alloc w o b h.lt).trans h
theorem BlkAt.drew (h : BlkAt w b cs t) : BlkAt w.drew b cs t := h
theorem BlkAt.below {B : Nat} (h : BlkAt w b cs t) (hb : Below B w w') (hB : b < B) : BlkAt w' b cs t := (hb.block b hB).trans h
theorem BlkAt.after (h : BlkAt w b cs t) (hb : Below w.heap.size w w') : BlkAt w' b cs t := h.below hb h.lt
theorem BlkAt.far (h : BlkAt w b cs t) {a : Addr} (ha : b ≠ a.block) (u : Value) : BlkAt (w.setCell a u) b cs t := (Below.heap_setCell w a u b ha).trans h
theorem BlkAt.set (h : BlkAt w b cs t) (i : Nat) (v : Value) : BlkAt (w.setCell ⟨b, i, none⟩ v) b (cs.setIfInBounds i v) t := by
  unfold BlkAt at *
  simp [World.setCell, Array.getElem?_modify, h]
theorem BlkAt.new (w : World) (cs : Array Value) (t : TypeId) : BlkAt (w.alloc (.cells cs t)) w.heap.size cs t := heap_alloc_new w _
theorem BlkAt.new_at (w : World) (cs : Array Value) (t : TypeId) (n : Nat) (h : w.heap.size = n) : BlkAt (w.alloc (.cells cs t)) n cs t := h ▸ BlkAt.new w cs t
end
end Go.Proofs.Ytgdaipgmlibpiaa
