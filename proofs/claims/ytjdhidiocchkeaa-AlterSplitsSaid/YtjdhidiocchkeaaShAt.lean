/-
  Shapes in memory: a block that holds a shape; how two shapes are held against each other.
-/
import Derived.Test.YtjdhidiocchkeaaSetAt
import Derived.Test.YtjdhidiocchkeaaShPlain
namespace Go.Proofs.Ytjdhidiocchkeaa
open Go.RowKit

set_option maxHeartbeats 1000000 in
theorem run_eq_words_at (d : Nat) (x0 x1 x2 x3 y0 y1 y2 y3 : Int) (w : World) :
    (Op.equalIn (d + 2) 24 (.agg #[.int .u64 x0, .int .u64 x1, .int .u64 x2, .int .u64 x3]) (.agg #[.int .u64 y0, .int .u64 y1, .int .u64 y2, .int .u64 y3])).run Try.prog w = .ok ((x0 == y0) && ((x1 == y1) && ((x2 == y2) && (x3 == y3)))) w := by
  obtain ⟨i, hi⟩ := info_of_underlying Try.underlying22
  rw [run_equalIn_array w (d + 1) _ _ Try.underlying24 hi, cells_u64, show List.range 4 = [0, 1, 2, 3] from rfl]
  have hp : ∀ (a b c d : Int) (w : World), (part 22 #[.int .u64 a, .int .u64 b, .int .u64 c, .int .u64 d] 0).run Try.prog w = .ok (.int .u64 a) w ∧ (part 22 #[.int .u64 a, .int .u64 b, .int .u64 c, .int .u64 d] 1).run Try.prog w = .ok (.int .u64 b) w ∧ (part 22 #[.int .u64 a, .int .u64 b, .int .u64 c, .int .u64 d] 2).run Try.prog w = .ok (.int .u64 c) w ∧ (part 22 #[.int .u64 a, .int .u64 b, .int .u64 c, .int .u64 d] 3).run Try.prog w = .ok (.int .u64 d) w := by
    intro a b c d w
    exact ⟨by kernel_rfl, by kernel_rfl, by kernel_rfl, by kernel_rfl⟩
  have q0 := fun a b c d w => (hp a b c d w).1
  have q1 := fun a b c d w => (hp a b c d w).2.1
  have q2 := fun a b c d w => (hp a b c d w).2.2.1
  have q3 := fun a b c d w => (hp a b c d w).2.2.2
  cases h0 : x0 == y0 <;> cases h1 : x1 == y1 <;> cases h2 : x2 == y2 <;> cases h3 : x3 == y3 <;>
    simp only [Op.eqItems, Nat.mul_one, Sem.run_bind, q0, q1, q2, q3, Result.andThen_ok, run_equalIn_int _ d _ _ _ _ _ Try.underlying22, h0, h1, h2, h3, Bool.not_true, Bool.not_false, Bool.false_eq_true, if_true, if_false, Sem.run_pure, Bool.and_true, Bool.and_false]

theorem run_eq_set_at (d : Nat) (p q : Nat → Bool) (w : World) : (Op.equalIn (d + 2) 24 (setV p) (setV q)).run Try.prog w = .ok (sameS p q) w := by
  unfold setV
  rw [run_eq_words_at]
  congr 1
  unfold sameS
  have e : ∀ a b : Nat, ((a : Int) == (b : Int)) = decide (a = b) := fun a b => by
    rw [Bool.eq_iff_iff, beq_iff_eq, decide_eq_true_eq]; exact Int.ofNat_inj
  rw [e, e, e, e]

set_option maxHeartbeats 1000000 in
theorem run_eq_shape (a b : Sh) (w : World) : (Op.equalIn 10000 26 (shV a) (shV b)).run Try.prog w = .ok (sameSh a b) w := by
  have pU : ∀ (x : Sh) (w : World), (part 4 #[.bool x.u, .bool x.e, .int .u64 (wd x.h 0 : Nat), .int .u64 (wd x.h 1 : Nat), .int .u64 (wd x.h 2 : Nat), .int .u64 (wd x.h 3 : Nat), .bool x.k, .string x.l] 0).run Try.prog w = .ok (.bool x.u) w := fun _ _ => by kernel_rfl
  have pE : ∀ (x : Sh) (w : World), (part 4 #[.bool x.u, .bool x.e, .int .u64 (wd x.h 0 : Nat), .int .u64 (wd x.h 1 : Nat), .int .u64 (wd x.h 2 : Nat), .int .u64 (wd x.h 3 : Nat), .bool x.k, .string x.l] 1).run Try.prog w = .ok (.bool x.e) w := fun _ _ => by kernel_rfl
  have pH : ∀ (x : Sh) (w : World), (part 24 #[.bool x.u, .bool x.e, .int .u64 (wd x.h 0 : Nat), .int .u64 (wd x.h 1 : Nat), .int .u64 (wd x.h 2 : Nat), .int .u64 (wd x.h 3 : Nat), .bool x.k, .string x.l] 2).run Try.prog w = .ok (setV x.h) w := fun _ _ => by kernel_rfl
  have pK : ∀ (x : Sh) (w : World), (part 4 #[.bool x.u, .bool x.e, .int .u64 (wd x.h 0 : Nat), .int .u64 (wd x.h 1 : Nat), .int .u64 (wd x.h 2 : Nat), .int .u64 (wd x.h 3 : Nat), .bool x.k, .string x.l] 6).run Try.prog w = .ok (.bool x.k) w := fun _ _ => by kernel_rfl
  have pL : ∀ (x : Sh) (w : World), (part 9 #[.bool x.u, .bool x.e, .int .u64 (wd x.h 0 : Nat), .int .u64 (wd x.h 1 : Nat), .int .u64 (wd x.h 2 : Nat), .int .u64 (wd x.h 3 : Nat), .bool x.k, .string x.l] 7).run Try.prog w = .ok (.string x.l) w := fun _ _ => by kernel_rfl
  have hf : (Try.prog.fieldsOf 26).toList.map (fun f => (f.name, f.type, f.offset)) = [("U", 4, 0), ("E", 4, 1), ("Has", 24, 2), ("K", 4, 6), ("Lit", 9, 7)] := by kernel_rfl
  unfold shV sameSh eqB
  rw [run_equalIn_struct w 9999 _ _ _ Try.underlying26 (by kernel_rfl)]
  generalize (Try.prog.fieldsOf 26).toList = fs at hf
  have hl : fs.length = 5 := by simpa using congrArg List.length hf
  match fs, hl with
  | [f0, f1, f2, f3, f4], _ =>
    simp only [List.map_cons, List.map_nil, List.cons.injEq, Prod.mk.injEq] at hf
    obtain ⟨⟨n0, t0, o0⟩, ⟨n1, t1, o1⟩, ⟨n2, t2, o2⟩, ⟨n3, t3, o3⟩, ⟨n4, t4, o4⟩, _⟩ := hf
    have m0 : f0.name ≠ "_" := by rw [n0]; decide
    have m1 : f1.name ≠ "_" := by rw [n1]; decide
    have m2 : f2.name ≠ "_" := by rw [n2]; decide
    have m3 : f3.name ≠ "_" := by rw [n3]; decide
    have m4 : f4.name ≠ "_" := by rw [n4]; decide
    simp only [Op.eqFields, if_pos m0, if_pos m1, if_pos m2, if_pos m3, if_pos m4, t0, t1, t2, t3, t4, o0, o1, o2, o3, o4, Sem.run_bind, pU, Result.andThen_ok, run_equalIn_bool' _ 9998 _ _ _ Try.underlying4]
    cases h0 : a.u == b.u <;> cases h1 : a.e == b.e <;> cases h2 : sameS a.h b.h <;> cases h3 : a.k == b.k <;> cases h4 : a.l.toList == b.l.toList <;>
      simp only [Result.andThen_ok, Sem.run_bind, pE, pH, pK, pL, run_equalIn_bool' _ 9998 _ _ _ Try.underlying4, run_equalIn_string _ 9998 _ _ _ Try.underlying9, run_eq_set_at 9997, h1, h2, h3, h4, Bool.not_true, Bool.not_false, Bool.false_eq_true, if_true, if_false, Sem.run_pure, Bool.and_true, Bool.and_false]

theorem shV_zero : shV zeroSh = .agg #[.bool false, .bool false, .int .u64 0, .int .u64 0, .int .u64 0, .int .u64 0, .bool false, .string ⟨#[]⟩] := by
  unfold shV zeroSh
  simp only [wd_no]
  rfl

/-- block b holds the shape x -/
def ShAt (w : World) (b : Nat) (x : Sh) : Prop := w.heap[b]? = some (.cells #[.bool x.u, .bool x.e, .int .u64 (wd x.h 0 : Nat), .int .u64 (wd x.h 1 : Nat), .int .u64 (wd x.h 2 : Nat), .int .u64 (wd x.h 3 : Nat), .bool x.k, .string x.l] 26 (0, 0))

section
variable {w w' : World} {b : Nat} {x y : Sh}
theorem ShAt.lt (h : ShAt w b x) : b < w.heap.size := by
  rcases Nat.lt_or_ge b w.heap.size with hlt | hge
  · exact hlt
  · unfold ShAt at h; rw [Array.getElem?_eq_none hge] at h; cases h
theorem ShAt.cells (h : ShAt w b x) : w.cell? ⟨b, 0, none⟩ = some (.bool x.u) ∧ w.cell? ⟨b, 1, none⟩ = some (.bool x.e) ∧ w.cell? ⟨b, 2, none⟩ = some (.int .u64 (wd x.h 0 : Nat)) ∧ w.cell? ⟨b, 3, none⟩ = some (.int .u64 (wd x.h 1 : Nat)) ∧ w.cell? ⟨b, 4, none⟩ = some (.int .u64 (wd x.h 2 : Nat)) ∧ w.cell? ⟨b, 5, none⟩ = some (.int .u64 (wd x.h 3 : Nat)) ∧ w.cell? ⟨b, 6, none⟩ = some (.bool x.k) ∧ w.cell? ⟨b, 7, none⟩ = some (.string x.l) :=
  ⟨cell_of_row w b 0 _ _ _ h, cell_of_row w b 1 _ _ _ h, cell_of_row w b 2 _ _ _ h, cell_of_row w b 3 _ _ _ h, cell_of_row w b 4 _ _ _ h, cell_of_row w b 5 _ _ _ h, cell_of_row w b 6 _ _ _ h, cell_of_row w b 7 _ _ _ h⟩
theorem ShAt.frozen (h : ShAt w b x) (i : Nat) : w.frozen? ⟨b, i, none⟩ = false := by
  unfold ShAt at h
  simp [World.frozen?, h]
theorem ShAt.frozens (h : ShAt w b x) : w.frozen? ⟨b, 0, none⟩ = false ∧ w.frozen? ⟨b, 1, none⟩ = false ∧ w.frozen? ⟨b, 2, none⟩ = false ∧ w.frozen? ⟨b, 3, none⟩ = false ∧ w.frozen? ⟨b, 4, none⟩ = false ∧ w.frozen? ⟨b, 5, none⟩ = false ∧ w.frozen? ⟨b, 6, none⟩ = false ∧ w.frozen? ⟨b, 7, none⟩ = false :=
  ⟨h.frozen 0, h.frozen 1, h.frozen 2, h.frozen 3, h.frozen 4, h.frozen 5, h.frozen 6, h.frozen 7⟩
theorem ShAt.alloc (h : ShAt w b x) (o : Obj) : ShAt (w.alloc o) b x := (Below.heap_alloc w o b h.lt).trans h
theorem ShAt.drew (h : ShAt w b x) : ShAt w.drew b x := h
theorem ShAt.below {B : Nat} (h : ShAt w b x) (hb : Below B w w') (hB : b < B) : ShAt w' b x := (hb.block b hB).trans h
theorem ShAt.after (h : ShAt w b x) (hb : Below w.heap.size w w') : ShAt w' b x := h.below hb h.lt
theorem ShAt.far (h : ShAt w b x) {a : Addr} (ha : b ≠ a.block) (u : Value) : ShAt (w.setCell a u) b x := (Below.heap_setCell w a u b ha).trans h
/-- the world with a shape written over block b -/
def putSh (w : World) (b : Nat) (y : Sh) : World := (((((((w.setCell ⟨b, 0, none⟩ (.bool y.u)).setCell ⟨b, 1, none⟩ (.bool y.e)).setCell ⟨b, 2, none⟩ (.int .u64 (wd y.h 0 : Nat))).setCell ⟨b, 3, none⟩ (.int .u64 (wd y.h 1 : Nat))).setCell ⟨b, 4, none⟩ (.int .u64 (wd y.h 2 : Nat))).setCell ⟨b, 5, none⟩ (.int .u64 (wd y.h 3 : Nat))).setCell ⟨b, 6, none⟩ (.bool y.k)).setCell ⟨b, 7, none⟩ (.string y.l)
theorem ShAt.put (h : ShAt w b x) (y : Sh) : ShAt (putSh w b y) b y := by
  unfold ShAt putSh at *
  simp [World.setCell, Array.getElem?_modify, h]
theorem ShAt.putFar (h : ShAt w b x) {c : Nat} (hc : b ≠ c) (y : Sh) : ShAt (putSh w c y) b x := by
  unfold putSh
  exact (((((((h.far (by exact hc) _).far (by exact hc) _).far (by exact hc) _).far (by exact hc) _).far (by exact hc) _).far (by exact hc) _).far (by exact hc) _).far (by exact hc) _
theorem bel_putSh {w w' : World} (h : Below w.heap.size w w') {b : Nat} (hb : w.heap.size ≤ b) (y : Sh) : Below w.heap.size w (putSh w' b y) := by
  unfold putSh
  exact bel_set (bel_set (bel_set (bel_set (bel_set (bel_set (bel_set (bel_set h _ hb _) _ hb _) _ hb _) _ hb _) _ hb _) _ hb _) _ hb _) _ hb _
theorem ShAt.setU (h : ShAt w b x) (v : Bool) : ShAt (w.setCell ⟨b, 0, none⟩ (.bool v)) b { x with u := v } := by
  unfold ShAt at *
  simp [World.setCell, Array.getElem?_modify, h]
theorem ShAt.setK (h : ShAt w b x) (v : Bool) : ShAt (w.setCell ⟨b, 6, none⟩ (.bool v)) b { x with k := v } := by
  unfold ShAt at *
  simp [World.setCell, Array.getElem?_modify, h]
theorem ShAt.setL (h : ShAt w b x) (v : ByteArray) : ShAt (w.setCell ⟨b, 7, none⟩ (.string v)) b { x with l := v } := by
  unfold ShAt at *
  simp [World.setCell, Array.getElem?_modify, h]
theorem ShAt.setH (h : ShAt w b x) (q : Nat → Bool) : ShAt ((((w.setCell ⟨b, 2, none⟩ (.int .u64 (wd q 0 : Nat))).setCell ⟨b, 3, none⟩ (.int .u64 (wd q 1 : Nat))).setCell ⟨b, 4, none⟩ (.int .u64 (wd q 2 : Nat))).setCell ⟨b, 5, none⟩ (.int .u64 (wd q 3 : Nat))) b { x with h := q } := by
  unfold ShAt at *
  simp [World.setCell, Array.getElem?_modify, h]
theorem ShAt.new (w : World) (x : Sh) : ShAt (w.alloc (.cells #[.bool x.u, .bool x.e, .int .u64 (wd x.h 0 : Nat), .int .u64 (wd x.h 1 : Nat), .int .u64 (wd x.h 2 : Nat), .int .u64 (wd x.h 3 : Nat), .bool x.k, .string x.l] 26)) w.heap.size x := heap_alloc_new w _
theorem ShAt.zero (w : World) : ShAt (w.alloc (.cells #[.bool false, .bool false, .int .u64 0, .int .u64 0, .int .u64 0, .int .u64 0, .bool false, .string ⟨#[]⟩] 26)) w.heap.size zeroSh := by
  have h := ShAt.new w zeroSh
  simp only [zeroSh, wd_no] at h
  exact h
end
end Go.Proofs.Ytjdhidiocchkeaa
