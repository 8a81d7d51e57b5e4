/-
  Plain: what the statements of layer 8 ask of how sums are read, by reckoning.
-/
import Derived.Test.YtekpopopibhjbaaArParse
import Derived.Test.YtekpopopibhjbaaArDeep
import Derived.Test.YtekpopopibhjbaaArValues
import Derived.Test.YtekpopopibhjbaaArWide
namespace Go.Proofs.Ytekpopopibhjbaa
open Go.RowKit

set_option maxRecDepth 100000 in
theorem awakeP_is : AwakeP parseP := ⟨by kernel_rfl, by kernel_rfl⟩
set_option maxRecDepth 100000 in
theorem valuesP_is : ValuesP parseP := ⟨by kernel_rfl, by kernel_rfl⟩
set_option maxRecDepth 100000 in
theorem wideP_is : WideP parseP := ⟨by kernel_rfl, by kernel_rfl, by kernel_rfl, by kernel_rfl, by kernel_rfl, by kernel_rfl⟩
/-- steps, the same -/
def sameO (a b : AOp) : Bool := a.kind == b.kind && a.n == b.n && a.name == b.name
def sameL : List AOp → List AOp → Bool
  | [], [] => true
  | a :: r, b :: t => sameO a b && sameL r t
  | _, _ => false
theorem sameL_eq : ∀ {a b : List AOp}, sameL a b = true → a = b
  | [], [], _ => rfl
  | [], _ :: _, h => by cases h
  | _ :: _, [], h => by cases h
  | ⟨k, n, x⟩ :: r, ⟨k', n', x'⟩ :: t, h => by
    simp only [sameL, sameO, Bool.and_eq_true, beq_iff_eq] at h
    obtain ⟨⟨⟨rfl, rfl⟩, rfl⟩, h2⟩ := h
    rw [sameL_eq h2]
def sameP (a b : PRes) : Bool := sameL a.ops b.ops && a.place == b.place && a.err == b.err
theorem sameP_eq {a b : PRes} (h : sameP a b = true) : a = b := by
  obtain ⟨o, p, e⟩ := a
  obtain ⟨o', p', e'⟩ := b
  simp only [sameP, Bool.and_eq_true, beq_iff_eq] at h
  obtain ⟨⟨h1, rfl⟩, rfl⟩ := h
  rw [sameL_eq h1]
theorem all_range {p : Nat → Bool} {k : Nat} (h : (List.range k).all p = true) {n : Nat} (hn : n < k) : p n = true := (List.all_eq_true.1 h) n (List.mem_range.2 hn)
theorem par_all : ((List.range 21).all fun n => sameP (parseP (List.replicate n 40 ++ [53] ++ List.replicate n 41)) (okR [numO 5])) = true := by kernel_rfl
theorem neg_all : ((List.range 21).all fun n => sameP (parseP (List.replicate n 45 ++ [53])) (okR (numO 5 :: List.replicate n (opO 3)))) = true := by kernel_rfl
theorem parBad_all : ((List.range 40).all fun n => decide (n ≤ 20) || sameP (parseP (List.replicate n 40 ++ [53] ++ List.replicate n 41)) ⟨[], 20, 5⟩) = true := by kernel_rfl
theorem negBad_all : ((List.range 40).all fun n => decide (n ≤ 20) || sameP (parseP (List.replicate n 45 ++ [53])) ⟨[], 20, 5⟩) = true := by kernel_rfl
theorem unshut_all : ((List.range 21).all fun n => decide (n < 1) || sameP (parseP (List.replicate n 40 ++ [53] ++ List.replicate (n - 1) 41)) ⟨[], 2 * (n : Int), 6⟩) = true := by kernel_rfl
theorem or_right {a b : Bool} (h : (a || b) = true) (ha : a = false) : b = true := by rw [ha] at h; simpa using h
theorem deepP_is : DeepP parseP where
  par n hn := sameP_eq (all_range par_all (by omega))
  neg n hn := sameP_eq (all_range neg_all (by omega))
  parBad n h1 h2 := sameP_eq (or_right (all_range parBad_all h2) (decide_eq_false (by omega)))
  negBad n h1 h2 := sameP_eq (or_right (all_range negBad_all h2) (decide_eq_false (by omega)))
  unshut n h1 h2 := sameP_eq (or_right (all_range unshut_all (by omega)) (decide_eq_false (by omega)))
end Go.Proofs.Ytekpopopibhjbaa
