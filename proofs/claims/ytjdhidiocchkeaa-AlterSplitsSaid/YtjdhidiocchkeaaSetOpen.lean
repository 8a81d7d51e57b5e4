/-
  A set among the arguments: opened to the plain function of the byte, and shut again.
-/
import Derived.Test.YtjdhidiocchkeaaSet
import Derived.Laws.IdiomArrays
import Derived.OpenShut
import Derived.ProofKit
namespace Go.Proofs.Ytjdhidiocchkeaa
open Go.ChangeShapes Go.WideShapes Go.ChangeAt Go.RowKit

theorem cells_set : Try.prog.cellsOf 24 = 4 := by kernel_rfl
theorem cells_word : Try.prog.cellsOf 22 = 1 := by kernel_rfl

/-- a set as data -/
def setD (H : Type) (q : Nat → Bool) : DataW H := .agg [.lit (.int .u64 (wd q 0 : Nat)), .lit (.int .u64 (wd q 1 : Nat)), .lit (.int .u64 (wd q 2 : Nat)), .lit (.int .u64 (wd q 3 : Nat))]

theorem list4 {α : Type} (l : List α) (h : (⟨l⟩ : Array α).size = 4) : ∃ a b c d, l = [a, b, c, d] := by
  match l, h with
  | [a, b, c, d], _ => exact ⟨a, b, c, d, rfl⟩

theorem nat_of_u64 (x : Int) (h : (Lit.int .u64 x).wf = true) : ∃ n : Nat, x = (n : Int) ∧ n < 18446744073709551616 := by
  have := bounds_u64 h
  exact ⟨x.toNat, by omega, by omega⟩

theorem open_set {H : Type} {enc : TypeId × Value → H} {w : World} {base b0 : Nat} {sp : Nat → Bool} {held : Bool} {r : Reach} {v : Value} {d : DataW H} {p : List MemPlace}
    (hv : Value.okWide Try.prog w r b0 24 v) (h : DataW.Trod enc Try.prog w base sp held 24 v d p) : ∃ q, v = setV q ∧ d = setD H q ∧ p = [] := by
  obtain ⟨cs, rfl, hsz, _⟩ : ∃ cs, v = .agg cs ∧ cs.size = Try.prog.cellsOf 24 ∧ Row.okWide Try.prog w r b0 24 cs := by
    simpa [Value.okWide, Try.underlying24] using hv
  rw [cells_set] at hsz
  obtain ⟨l⟩ := cs
  obtain ⟨c0, c1, c2, c3, rfl⟩ := list4 l hsz
  obtain ⟨fuel, hf⟩ := h
  obtain ⟨y0, y1, y2, y3, m, hx, hy0, hy1, hy2, hy3⟩ := trod_array4 Try.underlying24 cells_word hf
  obtain ⟨x0, e0, rfl, w0⟩ := DataW.trod_int Try.underlying22 hy0
  obtain ⟨x1, e1, rfl, w1⟩ := DataW.trod_int Try.underlying22 hy1
  obtain ⟨x2, e2, rfl, w2⟩ := DataW.trod_int Try.underlying22 hy2
  obtain ⟨x3, e3, rfl, w3⟩ := DataW.trod_int Try.underlying22 hy3
  simp at e0 e1 e2 e3
  subst e0 e1 e2 e3
  simp only [Prod.mk.injEq] at hx
  obtain ⟨rfl, rfl⟩ := hx
  obtain ⟨n0, rfl, l0⟩ := nat_of_u64 x0 w0
  obtain ⟨n1, rfl, l1⟩ := nat_of_u64 x1 w1
  obtain ⟨n2, rfl, l2⟩ := nat_of_u64 x2 w2
  obtain ⟨n3, rfl, l3⟩ := nat_of_u64 x3 w3
  obtain ⟨k0, k1, k2, k3⟩ := ofWords_wd n0 n1 n2 n3 l0 l1 l2 l3
  exact ⟨ofWords n0 n1 n2 n3, setV_words n0 n1 n2 n3 l0 l1 l2 l3, by unfold setD; rw [k0, k1, k2, k3], rfl⟩

theorem wf_wd (q : Nat → Bool) (i : Nat) : (Lit.int .u64 ((wd q i : Nat) : Int)).wf = true := WalkArith.wf_u64 (by have := wd_lt q i; omega)

theorem shut_set {H : Type} {enc : TypeId × Value → H} {w : World} {base : Nat} {sp : Nat → Bool} {held : Bool} (q : Nat → Bool) :
    DataW.Trod enc Try.prog w base sp held 24 (setV q) (setD H q) [] := by
  have w0 := wf_wd q 0
  have w1 := wf_wd q 1
  have w2 := wf_wd q 2
  have w3 := wf_wd q 3
  unfold setV setD
  exact ⟨2, by simp [DataW.trod, Value.cells, Try.underlying24, Try.underlying22, cells_set, cells_word, w0, w1, w2, w3, show List.range 4 = [0, 1, 2, 3] from rfl]⟩
end Go.Proofs.Ytjdhidiocchkeaa
