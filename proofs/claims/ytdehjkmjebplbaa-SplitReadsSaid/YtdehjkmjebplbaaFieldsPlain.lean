/-
  Plain facts on fields (no program in it): the pieces of a text between bytes that part it.
-/
import Derived.Test.YtdehjkmjebplbaaPlain
import Derived.Test.YtdehjkmjebplbaaSetPlain
namespace Go.Proofs.Ytdehjkmjebplbaa

def fgo (p : Nat → Bool) : List UInt8 → List UInt8 → List (List UInt8)
  | [], cur => if cur.isEmpty then [] else [cur]
  | c :: l, cur => if p c.toNat then (if cur.isEmpty then fgo p l [] else cur :: fgo p l []) else fgo p l (cur ++ [c])
def fieldsOf (s t : List UInt8) : List (List UInt8) := fgo (ofS t) s []
def wholeB (s t : List UInt8) : Bool := decide (fieldsOf s t = [s])

theorem fgo_other {p : Nat → Bool} {c : UInt8} {l cur : List UInt8} (h : p c.toNat = false) : fgo p (c :: l) cur = fgo p l (cur ++ [c]) := by simp [fgo, h]
theorem fgo_part {p : Nat → Bool} {c : UInt8} {l cur : List UInt8} (h : p c.toNat = true) (hc : cur.isEmpty = false) : fgo p (c :: l) cur = cur :: fgo p l [] := by simp [fgo, h, hc]
theorem fgo_skip {p : Nat → Bool} {c : UInt8} {l cur : List UInt8} (h : p c.toNat = true) (hc : cur.isEmpty = true) : fgo p (c :: l) cur = fgo p l [] := by simp [fgo, h, hc]
/-- nothing parts it -/
theorem fgo_none {p : Nat → Bool} : ∀ (l cur : List UInt8), (∀ b ∈ l, p b.toNat = false) → fgo p l cur = if (cur ++ l).isEmpty then [] else [cur ++ l]
  | [], cur, _ => by simp [fgo]
  | c :: l, cur, h => by
    rw [fgo_other (h c (List.mem_cons_self ..)), fgo_none l (cur ++ [c]) (fun b hb => h b (List.mem_cons_of_mem _ hb))]
    simp
theorem whole_of {s t : List UInt8} (hs : s.isEmpty = false) (h : ∀ b ∈ s, ofS t b.toNat = false) : wholeB s t = true := by
  unfold wholeB fieldsOf
  rw [fgo_none s [] h]
  simp only [List.nil_append, hs]
  exact decide_eq_true rfl
end Go.Proofs.Ytdehjkmjebplbaa
