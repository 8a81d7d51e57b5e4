/-
  Plain facts on sums (no program in it): steps, what they do, a value's number.
-/
import Derived.Test.YtekpopopibhjbaaPlain
import Derived.RowKit
import Derived.IntWalk
namespace Go.Proofs.Ytekpopopibhjbaa
open Go.RowKit

/-- a step of a sum -/
structure AOp where
  kind : Nat
  n : Int
  name : List UInt8
def numO (n : Int) : AOp := ⟨1, n, []⟩
def nameO (x : List UInt8) : AOp := ⟨2, 0, x⟩
def opO (k : Nat) : AOp := ⟨k, 0, []⟩

/-- a value's number: 0 of nothing; a number, with a minus ahead or not -/
def valN : List UInt8 → Option Int
  | [] => some 0
  | c :: t => if c = 45 then (numB t).map (fun n => -n) else numB (c :: t)
def truthI (b : Bool) : Int := if b then 1 else 0
/-- one number by a sign ahead of it -/
def oneP (k : Nat) (a : Int) : Int := if k = 3 then wrap64 (-a) else if k = 4 then a else truthI (decide (a = 0))
/-- two numbers by a sign between; an error -/
def twoP (k : Nat) (a b : Int) : Int × Int :=
  if k = 6 then (wrap64 (a * b), 0)
  else if k = 7 then (if b = 0 then (0, 12) else (wrap64 (a.tdiv b), 0))
  else if k = 8 then (if b = 0 then (0, 12) else (a.tmod b, 0))
  else if k = 9 then (wrap64 (a + b), 0)
  else if k = 10 then (wrap64 (a - b), 0)
  else if k = 11 then (truthI (decide (a < b)), 0)
  else if k = 12 then (truthI (decide (a ≤ b)), 0)
  else if k = 13 then (truthI (decide (b < a)), 0)
  else if k = 14 then (truthI (decide (b ≤ a)), 0)
  else if k = 15 then (truthI (decide (a = b)), 0)
  else if k = 16 then (truthI (!decide (a = b)), 0)
  else if k = 17 then (truthI (!decide (a = 0) && !decide (b = 0)), 0)
  else (truthI (!decide (a = 0) || !decide (b = 0)), 0)
/-- one step: the numbers that are left, the last first; an error -/
def stepP (val : List UInt8 → List UInt8) (st : List Int) (o : AOp) : List Int × Int :=
  if o.kind = 1 then (o.n :: st, 0)
  else if o.kind = 2 then (match valN (val o.name) with | some x => (x :: st, 0) | none => ([], 13))
  else if 3 ≤ o.kind ∧ o.kind ≤ 5 then (match st with | a :: r => (oneP o.kind a :: r, 0) | [] => ([], 6))
  else if 6 ≤ o.kind ∧ o.kind ≤ 18 then (match st with | b :: a :: r => (if (twoP o.kind a b).2 = 0 then ((twoP o.kind a b).1 :: r, 0) else ([], (twoP o.kind a b).2)) | _ => ([], 6))
  else ([], 6)
def runP (val : List UInt8 → List UInt8) : List AOp → List Int → List Int × Int
  | [], st => (st, 0)
  | o :: l, st => if (stepP val st o).2 = 0 then runP val l (stepP val st o).1 else ([], (stepP val st o).2)
/-- a sum's number, or its error -/
def evalP (val : List UInt8 → List UInt8) (ops : List AOp) : Int × Int :=
  if (runP val ops []).2 = 0 then (match (runP val ops []).1 with | [x] => (x, 0) | _ => (0, 6)) else (0, (runP val ops []).2)

section
variable {val : List UInt8 → List UInt8}
theorem run_num {n : Int} {l : List AOp} {st : List Int} : runP val (numO n :: l) st = runP val l (n :: st) := by
  simp [runP, stepP, numO]
theorem run_name {x : List UInt8} {v : Int} {l : List AOp} {st : List Int} (h : valN (val x) = some v) : runP val (nameO x :: l) st = runP val l (v :: st) := by
  simp [runP, stepP, nameO, h]
theorem run_bad {x : List UInt8} {l : List AOp} {st : List Int} (h : valN (val x) = none) : runP val (nameO x :: l) st = ([], 13) := by
  simp [runP, stepP, nameO, h]
theorem run_one {k : Nat} (hk : 3 ≤ k ∧ k ≤ 5) {a : Int} {l : List AOp} {st : List Int} : runP val (opO k :: l) (a :: st) = runP val l (oneP k a :: st) := by
  have h1 : ¬ k = 1 := by omega
  have h2 : ¬ k = 2 := by omega
  simp [runP, stepP, opO, h1, h2, hk]
theorem run_two {k : Nat} (hk : 6 ≤ k ∧ k ≤ 18) {a b x : Int} {l : List AOp} {st : List Int} (h : twoP k a b = (x, 0)) : runP val (opO k :: l) (b :: a :: st) = runP val l (x :: st) := by
  have h1 : ¬ k = 1 := by omega
  have h2 : ¬ k = 2 := by omega
  have h3 : ¬ (3 ≤ k ∧ k ≤ 5) := by omega
  simp only [runP, stepP, opO, h1, h2, h3, if_false, hk, and_self, if_true, h]
theorem run_div {a : Int} {l : List AOp} {st : List Int} : runP val (opO 7 :: l) (0 :: a :: st) = ([], 12) := by
  simp [runP, stepP, opO, twoP]
theorem eval_of {ops : List AOp} {x : Int} (h : runP val ops [] = ([x], 0)) : evalP val ops = (x, 0) := by
  simp [evalP, h]
theorem eval_err {ops : List AOp} {e : Int} (he : e ≠ 0) (h : runP val ops [] = ([], e)) : evalP val ops = (0, e) := by
  simp [evalP, h, he]

theorem w64 {n : Int} (h : -9223372036854775808 ≤ n ∧ n ≤ 9223372036854775807) : wrap64 n = n := IntWalk.wrap64_in n h
/-- signs ahead of 5 -/
theorem run_negs : ∀ (n : Nat) (x : Int), (x = 5 ∨ x = -5) → runP val (List.replicate n (opO 3)) [x] = ([if n % 2 = 0 then x else -x], 0)
  | 0, x, _ => rfl
  | n + 1, x, hx => by
    rw [List.replicate_succ, run_one (by omega)]
    have h3 : oneP 3 x = -x := by
      show wrap64 (-x) = _
      exact w64 (by omega)
    rw [h3, run_negs n (-x) (by omega)]
    have : (if n % 2 = 0 then -x else - -x) = (if (n + 1) % 2 = 0 then x else -x) := by
      split <;> split <;> omega
    rw [this]
end
end Go.Proofs.Ytekpopopibhjbaa
