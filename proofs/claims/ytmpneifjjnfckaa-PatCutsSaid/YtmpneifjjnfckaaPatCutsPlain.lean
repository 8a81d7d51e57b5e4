/-
  Plain facts on what is cut off, as conchlaw6.PatCuts asks for them (no program in it).
-/
import Derived.Test.YtmpneifjjnfckaaPatLawsTwo
namespace Go.Proofs.Ytmpneifjjnfckaa

def anyT (m : List UInt8 → Bool) (s : List UInt8) (k : Nat) : Bool := (List.range k).any fun i => m (s.take i)
def anyD (m : List UInt8 → Bool) (s : List UInt8) (k : Nat) : Bool := (List.range k).any fun i => m (s.drop i)
theorem anyT_succ (m : List UInt8 → Bool) (s : List UInt8) (k : Nat) : anyT m s (k + 1) = (anyT m s k || m (s.take k)) := by unfold anyT; rw [List.range_succ, List.any_append]; simp
theorem anyD_succ (m : List UInt8 → Bool) (s : List UInt8) (k : Nat) : anyD m s (k + 1) = (anyD m s k || m (s.drop k)) := by unfold anyD; rw [List.range_succ, List.any_append]; simp
structure Fr (m : List UInt8 → Bool) (S A B : List UInt8) : Prop where
  la : A.length ≤ S.length
  lb : B.length ≤ A.length
  isA : A = S.drop (S.length - A.length)
  isB : B = S.drop (S.length - B.length)
  all : ∀ i, i ≤ S.length → m (S.take i) = true → S.length - i ≤ A.length ∧ B.length ≤ S.length - i
  ma : m (S.take (S.length - A.length)) = anyT m S (S.length + 1)
  mb : anyT m S (S.length + 1) = true → m (S.take (S.length - B.length)) = true
  no : anyT m S (S.length + 1) = false → A = S ∧ B = S
structure En (m : List UInt8 → Bool) (S C D : List UInt8) : Prop where
  lc : C.length ≤ S.length
  ld : D.length ≤ C.length
  isC : C = S.take C.length
  isD : D = S.take D.length
  all : ∀ i, i ≤ S.length → m (S.drop i) = true → i ≤ C.length ∧ D.length ≤ i
  mc : m (S.drop C.length) = anyD m S (S.length + 1)
  md : anyD m S (S.length + 1) = true → m (S.drop D.length) = true
  no : anyD m S (S.length + 1) = false → C = S ∧ D = S
theorem fr_of (m : List UInt8 → Bool) (S : List UInt8) : Fr m S (cutB m S true false) (cutB m S true true) := by
  rcases front_ways m S with ⟨p, q, h⟩ | ⟨h1, h2, h3⟩
  · have hs : anyT m S (S.length + 1) = true := List.any_eq_true.2 ⟨p, List.mem_range.2 (by have := h.pq; have := h.len; omega), h.mp⟩
    have ea := congrArg List.length h.isA
    have eb := congrArg List.length h.isB
    rw [List.length_drop] at ea eb
    have h1 := h.pq
    have h2 := h.len
    refine ⟨by omega, by omega, ?_, ?_, fun i hi hm => ?_, ?_, fun _ => ?_, fun hn => bno hs hn⟩
    · rw [ea, show S.length - (S.length - p) = p by omega]; exact h.isA
    · rw [eb, show S.length - (S.length - q) = q by omega]; exact h.isB
    · have := h.all i hi hm; omega
    · rw [hs, ea, show S.length - (S.length - p) = p by omega]; exact h.mp
    · rw [eb, show S.length - (S.length - q) = q by omega]; exact h.mq
  · have hs : anyT m S (S.length + 1) = false := by
      rw [Bool.eq_false_iff]
      intro h
      obtain ⟨i, hi, hm⟩ := List.any_eq_true.1 h
      exact bno hm (h1 i (by have := List.mem_range.1 hi; omega))
    rw [h2, h3]
    refine ⟨Nat.le_refl _, Nat.le_refl _, by simp, by simp, fun i hi hm => bno hm (h1 i hi), ?_, fun h => bno h hs, fun _ => ⟨rfl, rfl⟩⟩
    rw [hs, Nat.sub_self]
    exact h1 0 (Nat.zero_le _)
theorem en_of (m : List UInt8 → Bool) (S : List UInt8) : En m S (cutB m S false false) (cutB m S false true) := by
  rcases end_ways m S with ⟨p, q, h⟩ | ⟨h1, h2, h3⟩
  · have hs : anyD m S (S.length + 1) = true := List.any_eq_true.2 ⟨p, List.mem_range.2 (by have := h.len; omega), h.mp⟩
    have ec := congrArg List.length h.isC
    have ed := congrArg List.length h.isD
    rw [List.length_take] at ec ed
    have h1 := h.qp
    have h2 := h.len
    rw [Nat.min_eq_left (by omega)] at ec ed
    refine ⟨by omega, by omega, ?_, ?_, fun i hi hm => ?_, ?_, fun _ => ?_, fun hn => bno hs hn⟩
    · rw [ec]; exact h.isC
    · rw [ed]; exact h.isD
    · have := h.all i hi hm; omega
    · rw [hs, ec]; exact h.mp
    · rw [ed]; exact h.mq
  · have hs : anyD m S (S.length + 1) = false := by
      rw [Bool.eq_false_iff]
      intro h
      obtain ⟨i, hi, hm⟩ := List.any_eq_true.1 h
      exact bno hm (h1 i (by have := List.mem_range.1 hi; omega))
    rw [h2, h3]
    refine ⟨Nat.le_refl _, Nat.le_refl _, by simp, by simp, fun i hi hm => bno hm (h1 i hi), ?_, fun h => bno h hs, fun _ => ⟨rfl, rfl⟩⟩
    rw [hs]
    exact h1 _ (Nat.le_refl _)
end Go.Proofs.Ytmpneifjjnfckaa
