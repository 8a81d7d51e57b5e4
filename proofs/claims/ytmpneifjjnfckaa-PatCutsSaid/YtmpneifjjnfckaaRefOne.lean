/-
  Contracts of the document's answers for layer 1 (conchref1: letter, NameLen, Name, Number, Lines, Digits): they return what the same plain functions say; of what was there nothing turns.
-/
import Derived.Test.YtmpneifjjnfckaaText
import Derived.Test.YtmpneifjjnfckaaLines
import Derived.Test.YtmpneifjjnfckaaNums
namespace Go.Proofs.Ytmpneifjjnfckaa
open Go.RowKit

/-- letter's answer -/
def letB (c : Int) (first : Bool) : Bool := if first then namB c && !digB c else namB c

theorem nam_dig {c : Int} (h : digB c = true) : namB c = true := by simp [namB, h]

theorem nlen_first_no {l r : List UInt8} {n : Nat} {c : UInt8} (h : l.drop n = c :: r) (hl : letB (c.toNat : Int) true = false) : nlen l (n : Int) = 0 := by
  cases hd : digB (c.toNat : Int)
  · rw [nlen_run h hd]
    have : namB (c.toNat : Int) = false := by simpa [letB, hd] using hl
    exact nrun_no h this
  · exact nlen_dig h hd
theorem nlen_first_yes {l r : List UInt8} {n : Nat} {c : UInt8} (h : l.drop n = c :: r) (hl : letB (c.toNat : Int) true = true) : nlen l (n : Int) = 1 + nrun r := by
  simp only [letB, if_true, Bool.and_eq_true, Bool.not_eq_true'] at hl
  rw [nlen_run h hl.2, nrun_yes h hl.1]

end Go.Proofs.Ytmpneifjjnfckaa
