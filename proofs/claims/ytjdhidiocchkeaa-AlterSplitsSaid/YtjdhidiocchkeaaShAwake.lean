/-
  The contract of conchlaw4.awake.
-/
import Derived.Test.YtjdhidiocchkeaaTame
import Derived.Test.YtjdhidiocchkeaaShLaws
namespace Go.Proofs.Ytjdhidiocchkeaa
open Go.RowKit

theorem emp_cons (b : UInt8) (l : List UInt8) : empB ⟨(b :: l).toArray⟩ = false := bfalse fun h => by
  have := (empB_list _).1 h
  simp at this
theorem emp_nil : empB ⟨#[]⟩ = true := (empB_iff _).2 rfl

theorem lit_a : litSh ⟨#[97]⟩ = ⟨false, false, ofS [97], true, ⟨#[97]⟩⟩ := by
  rw [litSh_k _ (by decide), emp_cons 97 []]
theorem lit_b : litSh ⟨#[98]⟩ = ⟨false, false, ofS [98], true, ⟨#[98]⟩⟩ := by
  rw [litSh_k _ (by decide), emp_cons 98 []]
theorem join_ab : joinP ⟨false, false, ofS [97], true, ⟨#[97]⟩⟩ ⟨false, false, ofS [98], true, ⟨#[98]⟩⟩ = ⟨false, false, orS (ofS [97]) (ofS [98]), false, ⟨#[]⟩⟩ := by
  have h : eqB ⟨#[97]⟩ ⟨#[98]⟩ = false := bfalse fun h => by
    have := congrArg (fun s => s.data.toList) ((eqB_iff _ _).1 h)
    simp at this
  simp only [joinP, joinSetP, noneB, couldB, h]
  rfl
theorem or_ab (c : Nat) : orS (ofS [97]) (ofS [98]) c = ofS [97, 98] c := by
  unfold orS ofS
  simp
theorem may_ab : mayB ⟨false, false, orS (ofS [97]) (ofS [98]), false, ⟨#[]⟩⟩ true ⟨#[97, 98]⟩ = true := by
  simp only [mayB, emp_cons 97 [98]]
  exact (subS_iff _ _).2 fun c _ h => by rw [or_ab]; exact h
theorem may_a : mayB ⟨false, false, orS (ofS [97]) (ofS [98]), false, ⟨#[]⟩⟩ true ⟨#[97]⟩ = true := by
  simp only [mayB, emp_cons 97 []]
  exact (subS_iff _ _).2 fun c _ h => by
    unfold orS
    rw [h]; rfl
theorem may_no : mayB ⟨false, false, orS (ofS [97]) (ofS [98]), false, ⟨#[]⟩⟩ true ⟨#[]⟩ = false := by
  simp only [mayB, emp_nil]
  rfl
theorem none_ab : noneB ⟨false, false, orS (ofS [97]) (ofS [98]), false, ⟨#[]⟩⟩ = false := by
  have h : sameS (orS (ofS [97]) (ofS [98])) noS = false := bfalse fun h => by
    have := (noS_iff _).1 h 97 (by decide)
    revert this
    decide
  simp only [noneB, couldB, h]
  rfl
theorem none_zero : noneB zeroSh = true := by
  have h : sameS noS noS = true := sameS_of fun _ _ => rfl
  simp only [noneB, couldB, zeroSh, h]
  rfl
theorem leq_ab : leqP ⟨false, false, ofS [97], true, ⟨#[97]⟩⟩ ⟨false, false, orS (ofS [97]) (ofS [98]), false, ⟨#[]⟩⟩ = true := by
  unfold leqP
  exact may_a

end Go.Proofs.Ytjdhidiocchkeaa
