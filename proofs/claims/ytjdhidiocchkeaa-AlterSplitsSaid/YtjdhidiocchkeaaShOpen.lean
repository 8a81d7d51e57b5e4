/-
  A shape among the arguments: opened to the plain record, and shut again.
-/
import Derived.Test.YtjdhidiocchkeaaShPlain
import Derived.Test.YtjdhidiocchkeaaSetOpen
import Derived.Deep.Fields
import Derived.Deep.Slices
namespace Go.Proofs.Ytjdhidiocchkeaa
open Go.ChangeShapes Go.WideShapes Go.ChangeAt Go.RowKit

theorem cells_shape : Try.prog.cellsOf 26 = 8 := by kernel_rfl
theorem cells_bool : Try.prog.cellsOf 4 = 1 := by kernel_rfl
theorem cells_string : Try.prog.cellsOf 9 = 1 := by kernel_rfl

/-- a shape as data -/
def shD (H : Type) (x : Sh) : DataW H := .agg [.lit (.bool x.u), .lit (.bool x.e), setD H x.h, .lit (.bool x.k), .lit (.string x.l.data.toList)]
/-- a shape's cells -/
def shC (x : Sh) : List Value := [.bool x.u, .bool x.e, .int .u64 (wd x.h 0 : Nat), .int .u64 (wd x.h 1 : Nat), .int .u64 (wd x.h 2 : Nat), .int .u64 (wd x.h 3 : Nat), .bool x.k, .string x.l]

theorem list8 {α : Type} (l : List α) (h : l.length = 8) : ∃ a b c d e f g i, l = [a, b, c, d, e, f, g, i] := by
  match l, h with
  | [a, b, c, d, e, f, g, i], _ => exact ⟨a, b, c, d, e, f, g, i, rfl⟩

section
variable {H : Type} {enc : TypeId × Value → H} {w : World} {base : Nat} {sp : Nat → Bool} {held : Bool}

theorem trod_set {fuel : Nat} {c0 c1 c2 c3 : Value} {x : DataW H × List MemPlace} (hf : DataW.trod enc Try.prog w base sp held fuel 24 [c0, c1, c2, c3] = some x) :
    ∃ q, [c0, c1, c2, c3] = [.int .u64 (wd q 0 : Nat), .int .u64 (wd q 1 : Nat), .int .u64 (wd q 2 : Nat), .int .u64 (wd q 3 : Nat)] ∧ x = (setD H q, []) := by
  obtain ⟨y0, y1, y2, y3, m, hx, hy0, hy1, hy2, hy3⟩ := trod_array4 Try.underlying24 cells_word hf
  obtain ⟨x0, e0, rfl, w0⟩ := DataW.trod_int Try.underlying22 hy0
  obtain ⟨x1, e1, rfl, w1⟩ := DataW.trod_int Try.underlying22 hy1
  obtain ⟨x2, e2, rfl, w2⟩ := DataW.trod_int Try.underlying22 hy2
  obtain ⟨x3, e3, rfl, w3⟩ := DataW.trod_int Try.underlying22 hy3
  simp at e0 e1 e2 e3
  subst e0 e1 e2 e3
  obtain ⟨n0, rfl, l0⟩ := nat_of_u64 x0 w0
  obtain ⟨n1, rfl, l1⟩ := nat_of_u64 x1 w1
  obtain ⟨n2, rfl, l2⟩ := nat_of_u64 x2 w2
  obtain ⟨n3, rfl, l3⟩ := nat_of_u64 x3 w3
  obtain ⟨k0, k1, k2, k3⟩ := ofWords_wd n0 n1 n2 n3 l0 l1 l2 l3
  exact ⟨ofWords n0 n1 n2 n3, by rw [k0, k1, k2, k3], by rw [hx]; unfold setD; rw [k0, k1, k2, k3]; rfl⟩

theorem trod_shape {fuel : Nat} {cs : List Value} {x : DataW H × List MemPlace} (hl : cs.length = 8) (hf : DataW.trod enc Try.prog w base sp held fuel 26 cs = some x) :
    ∃ s : Sh, cs = shC s ∧ x = (shD H s, []) ∧ s.l.size ≤ maxLen := by
  obtain ⟨c0, c1, c2, c3, c4, c5, c6, c7, rfl⟩ := list8 cs hl
  obtain ⟨xs, n, _, hx, _, hlen, hg⟩ := DataW.trod_struct Try.underlying26 hf
  match xs, hlen with
  | [y0, y1, y2, y3, y4], _ =>
    have g0 : DataW.trod enc Try.prog w base sp held n 4 ((List.drop 0 [c0, c1, c2, c3, c4, c5, c6, c7]).take (Try.prog.cellsOf 4)) = some y0 := hg 0 _ rfl
    rw [cells_bool] at g0
    replace g0 : DataW.trod enc Try.prog w base sp held n 4 [c0] = some y0 := g0
    have g1 : DataW.trod enc Try.prog w base sp held n 4 ((List.drop 1 [c0, c1, c2, c3, c4, c5, c6, c7]).take (Try.prog.cellsOf 4)) = some y1 := hg 1 _ rfl
    rw [cells_bool] at g1
    replace g1 : DataW.trod enc Try.prog w base sp held n 4 [c1] = some y1 := g1
    have g2 : DataW.trod enc Try.prog w base sp held n 24 ((List.drop 2 [c0, c1, c2, c3, c4, c5, c6, c7]).take (Try.prog.cellsOf 24)) = some y2 := hg 2 _ rfl
    rw [cells_set] at g2
    replace g2 : DataW.trod enc Try.prog w base sp held n 24 [c2, c3, c4, c5] = some y2 := g2
    have g3 : DataW.trod enc Try.prog w base sp held n 4 ((List.drop 6 [c0, c1, c2, c3, c4, c5, c6, c7]).take (Try.prog.cellsOf 4)) = some y3 := hg 3 _ rfl
    rw [cells_bool] at g3
    replace g3 : DataW.trod enc Try.prog w base sp held n 4 [c6] = some y3 := g3
    have g4 : DataW.trod enc Try.prog w base sp held n 9 ((List.drop 7 [c0, c1, c2, c3, c4, c5, c6, c7]).take (Try.prog.cellsOf 9)) = some y4 := hg 4 _ rfl
    rw [cells_string] at g4
    replace g4 : DataW.trod enc Try.prog w base sp held n 9 [c7] = some y4 := g4
    obtain ⟨u, e0, rfl⟩ := DataW.trod_bool Try.underlying4 g0
    obtain ⟨e, e1, rfl⟩ := DataW.trod_bool Try.underlying4 g1
    obtain ⟨h, e2, rfl⟩ := trod_set g2
    obtain ⟨k, e3, rfl⟩ := DataW.trod_bool Try.underlying4 g3
    obtain ⟨l, e4, rfl, hs⟩ := DataW.trod_string Try.underlying9 g4
    simp only [List.cons.injEq, and_true] at e0 e1 e2 e3 e4
    obtain ⟨r2, r3, r4, r5⟩ := e2
    subst e0 e1 r2 r3 r4 r5 e3 e4
    exact ⟨⟨u, e, h, k, l⟩, rfl, by rw [hx]; rfl, hs⟩

theorem open_shape {r : Reach} {b0 : Nat} {v : Value} {d : DataW H} {p : List MemPlace} (hv : Value.okWide Try.prog w r b0 26 v) (h : DataW.Trod enc Try.prog w base sp held 26 v d p) :
    ∃ x, v = shV x ∧ d = shD H x ∧ p = [] ∧ x.l.size ≤ maxLen := by
  obtain ⟨cs, rfl, hsz⟩ := okWide_struct Try.underlying26 hv
  obtain ⟨fuel, hf⟩ := h
  obtain ⟨l⟩ := cs
  obtain ⟨s, hs, hx, hm⟩ := trod_shape (cs := l) (by rw [cells_shape] at hsz; exact hsz) hf
  simp only [Prod.mk.injEq] at hx
  refine ⟨s, ?_, hx.1, hx.2, hm⟩
  rw [hs]
  rfl

theorem shut_cells (x : Sh) (hs : x.l.size ≤ maxLen) : DataW.trod enc Try.prog w base sp held 3 26 (shC x) = some (shD H x, []) := by
  have w0 := wf_wd x.h 0
  have w1 := wf_wd x.h 1
  have w2 := wf_wd x.h 2
  have w3 := wf_wd x.h 3
  unfold shC shD setD
  simp [DataW.trod, Value.cells, Try.underlying26, Try.underlying24, Try.underlying22, Try.underlying4, Try.underlying9, cells_shape, cells_set, cells_word, cells_bool, cells_string, w0, w1, w2, w3, hs, show List.range 4 = [0, 1, 2, 3] from rfl]

theorem shut_shape (x : Sh) (hs : x.l.size ≤ maxLen) : DataW.Trod enc Try.prog w base sp held 26 (shV x) (shD H x) [] :=
  ⟨3, shut_cells x hs⟩
end
end Go.Proofs.Ytjdhidiocchkeaa
