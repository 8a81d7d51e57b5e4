/-
  Sets in memory: a block that holds a set; how two sets are held against each other; the contracts of set.Within, set.Range, set.All.
-/
import Derived.Test.YtmpneifjjnfckaaSet
import Derived.ChangeKeysEq
namespace Go.Proofs.Ytmpneifjjnfckaa
open Go.RowKit

theorem cells_u64 : Try.prog.cellsOf 55 = 1 := by kernel_rfl

set_option maxHeartbeats 1000000 in
theorem run_eq_words (x0 x1 x2 x3 y0 y1 y2 y3 : Int) (w : World) :
    (Op.equalIn 10000 57 (.agg #[.int .u64 x0, .int .u64 x1, .int .u64 x2, .int .u64 x3]) (.agg #[.int .u64 y0, .int .u64 y1, .int .u64 y2, .int .u64 y3])).run Try.prog w = .ok ((x0 == y0) && ((x1 == y1) && ((x2 == y2) && (x3 == y3)))) w := by
  obtain ⟨i, hi⟩ := info_of_underlying Try.underlying55
  rw [run_equalIn_array w 9999 _ _ Try.underlying57 hi, cells_u64, show List.range 4 = [0, 1, 2, 3] from rfl]
  have hp : ∀ (a b c d : Int) (w : World), (part 55 #[.int .u64 a, .int .u64 b, .int .u64 c, .int .u64 d] 0).run Try.prog w = .ok (.int .u64 a) w ∧ (part 55 #[.int .u64 a, .int .u64 b, .int .u64 c, .int .u64 d] 1).run Try.prog w = .ok (.int .u64 b) w ∧ (part 55 #[.int .u64 a, .int .u64 b, .int .u64 c, .int .u64 d] 2).run Try.prog w = .ok (.int .u64 c) w ∧ (part 55 #[.int .u64 a, .int .u64 b, .int .u64 c, .int .u64 d] 3).run Try.prog w = .ok (.int .u64 d) w := by
    intro a b c d w
    exact ⟨by kernel_rfl, by kernel_rfl, by kernel_rfl, by kernel_rfl⟩
  have q0 := fun a b c d w => (hp a b c d w).1
  have q1 := fun a b c d w => (hp a b c d w).2.1
  have q2 := fun a b c d w => (hp a b c d w).2.2.1
  have q3 := fun a b c d w => (hp a b c d w).2.2.2
  cases h0 : x0 == y0 <;> cases h1 : x1 == y1 <;> cases h2 : x2 == y2 <;> cases h3 : x3 == y3 <;>
    simp only [Op.eqItems, Nat.mul_one, Sem.run_bind, q0, q1, q2, q3, Result.andThen_ok, run_equalIn_int _ 9998 _ _ _ _ _ Try.underlying55, h0, h1, h2, h3, Bool.not_true, Bool.not_false, Bool.false_eq_true, if_true, if_false, Sem.run_pure, Bool.and_true, Bool.and_false]

theorem run_eq_set (p q : Nat → Bool) (w : World) : (Op.equalIn 10000 57 (setV p) (setV q)).run Try.prog w = .ok (sameS p q) w := by
  unfold setV
  rw [run_eq_words]
  congr 1
  unfold sameS
  have e : ∀ a b : Nat, ((a : Int) == (b : Int)) = decide (a = b) := fun a b => by
    rw [Bool.eq_iff_iff, beq_iff_eq, decide_eq_true_eq]; exact Int.ofNat_inj
  rw [e, e, e, e]

theorem setV_no : setV noS = .agg #[.int .u64 0, .int .u64 0, .int .u64 0, .int .u64 0] := by unfold setV; rw [wd_no, wd_no, wd_no, wd_no]; rfl

/-- block b holds the set p -/
def SetAt (w : World) (b : Nat) (p : Nat → Bool) : Prop := w.heap[b]? = some (.cells #[.int .u64 (wd p 0 : Nat), .int .u64 (wd p 1 : Nat), .int .u64 (wd p 2 : Nat), .int .u64 (wd p 3 : Nat)] 57 (0, 0))

section
variable {w w' : World} {b : Nat} {p q : Nat → Bool}
theorem SetAt.lt (h : SetAt w b p) : b < w.heap.size := by
  rcases Nat.lt_or_ge b w.heap.size with hlt | hge
  · exact hlt
  · unfold SetAt at h; rw [Array.getElem?_eq_none hge] at h; cases h
theorem SetAt.cells (h : SetAt w b p) : w.cell? ⟨b, 0, none⟩ = some (.int .u64 (wd p 0 : Nat)) ∧ w.cell? ⟨b, 1, none⟩ = some (.int .u64 (wd p 1 : Nat)) ∧ w.cell? ⟨b, 2, none⟩ = some (.int .u64 (wd p 2 : Nat)) ∧ w.cell? ⟨b, 3, none⟩ = some (.int .u64 (wd p 3 : Nat)) :=
  ⟨cell_of_row w b 0 _ _ _ h, cell_of_row w b 1 _ _ _ h, cell_of_row w b 2 _ _ _ h, cell_of_row w b 3 _ _ _ h⟩
theorem SetAt.frozen (h : SetAt w b p) (i : Nat) : w.frozen? ⟨b, i, none⟩ = false := by
  unfold SetAt at h
  simp [World.frozen?, h]
theorem SetAt.alloc (h : SetAt w b p) (o : Obj) : SetAt (w.alloc o) b p := (Below.heap_alloc w o b h.lt).trans h
theorem SetAt.drew (h : SetAt w b p) : SetAt w.drew b p := h
theorem SetAt.below {B : Nat} (h : SetAt w b p) (hb : Below B w w') (hB : b < B) : SetAt w' b p := (hb.block b hB).trans h
theorem SetAt.after (h : SetAt w b p) (hb : Below w.heap.size w w') : SetAt w' b p := h.below hb h.lt
theorem SetAt.far (h : SetAt w b p) {a : Addr} (ha : b ≠ a.block) (u : Value) : SetAt (w.setCell a u) b p := (Below.heap_setCell w a u b ha).trans h
theorem SetAt.put (h : SetAt w b p) (q : Nat → Bool) : SetAt ((((w.setCell ⟨b, 0, none⟩ (.int .u64 (wd q 0 : Nat))).setCell ⟨b, 1, none⟩ (.int .u64 (wd q 1 : Nat))).setCell ⟨b, 2, none⟩ (.int .u64 (wd q 2 : Nat))).setCell ⟨b, 3, none⟩ (.int .u64 (wd q 3 : Nat))) b q := by
  unfold SetAt at *
  simp [World.setCell, Array.getElem?_modify, h]
theorem SetAt.new (w : World) (p : Nat → Bool) : SetAt (w.alloc (.cells #[.int .u64 (wd p 0 : Nat), .int .u64 (wd p 1 : Nat), .int .u64 (wd p 2 : Nat), .int .u64 (wd p 3 : Nat)] 57)) w.heap.size p := heap_alloc_new w _
theorem SetAt.zero (w : World) : SetAt (w.alloc (.cells #[.int .u64 0, .int .u64 0, .int .u64 0, .int .u64 0] 57)) w.heap.size noS := by
  have h := SetAt.new w noS
  rw [wd_no, wd_no, wd_no, wd_no] at h
  exact h
end

end Go.Proofs.Ytmpneifjjnfckaa
