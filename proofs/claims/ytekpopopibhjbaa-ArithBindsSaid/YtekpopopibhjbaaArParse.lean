/-
  Plain: how package arith reads a sum (positions, signs, numbers and names, what is in parentheses); how far it gets.
-/
import Derived.Test.YtekpopopibhjbaaArSigns
import Derived.Test.YtekpopopibhjbaaArFace
namespace Go.Proofs.Ytekpopopibhjbaa
open Go.RowKit

/-- behind blanks -/
def skipB (l : List UInt8) (i : Nat) : Nat := i + ((l.drop i).takeWhile blankB).length
/-- the sign that begins at i, the longest -/
def signAt (l : List UInt8) (i : Nat) : List UInt8 :=
  if isSignB ((l.drop i).take 2) then (l.drop i).take 2 else if isSignB ((l.drop i).take 1) then (l.drop i).take 1 else []
/-- how many digits -/
def digs (l : List UInt8) (i : Nat) : Nat := ((l.drop i).takeWhile fun c => digB c.toNat).length
/-- where it stands, the steps, an error -/
abbrev RRes := Nat × List AOp × Nat
/-- a number or a name -/
def plainP (l : List UInt8) (i : Nat) (ops : List AOp) : RRes :=
  if 0 < nlen l i then (i + (nlen l i).toNat, ops ++ [nameO ((l.drop i).take (nlen l i).toNat)], 0)
  else match numB ((l.drop i).take (digs l i)) with
    | none => (i, ops, 6)
    | some v => (i + digs l i, ops ++ [numO v], 0)
/-- mode 0: a sum; 1: an operand; 2: a sum and the parenthesis behind it; else: what comes behind an operand of a sum -/
def rdP (l : List UInt8) : Nat → Nat → Nat → Nat → Nat → List AOp → RRes
  | 0, _, _, _, i, ops => (i, ops, 99)
  | f + 1, 0, least, deep, i, ops =>
    match rdP l f 1 0 deep i ops with
    | (i1, o1, 0) => rdP l f 3 least deep i1 o1
    | r => r
  | f + 1, 1, _, deep, i, ops =>
    if ahdP (signAt l (skipB l i)) = 0 ∧ signAt l (skipB l i) ≠ [40] then plainP l (skipB l i) ops
    else if deep = 20 then (skipB l i, ops, 5)
    else if signAt l (skipB l i) = [40] then rdP l f 2 0 (deep + 1) (skipB l i + (signAt l (skipB l i)).length) ops
    else match rdP l f 1 0 (deep + 1) (skipB l i + (signAt l (skipB l i)).length) ops with
      | (i1, o1, 0) => (i1, o1 ++ [opO (ahdP (signAt l (skipB l i)))], 0)
      | r => r
  | f + 1, 2, _, deep, i, ops =>
    match rdP l f 0 1 deep i ops with
    | (i1, o1, 0) => if signAt l (skipB l i1) = [41] then (skipB l i1 + 1, o1, 0) else (skipB l i1, o1, 6)
    | r => r
  | f + 1, _ + 3, least, deep, i, ops =>
    if (btwP (signAt l (skipB l i))).2 < least then (skipB l i, ops, 0)
    else match rdP l f 0 ((btwP (signAt l (skipB l i))).2 + 1) deep (skipB l i + (signAt l (skipB l i)).length) ops with
      | (i1, o1, 0) => rdP l f 3 least deep i1 (o1 ++ [opO (btwP (signAt l (skipB l i))).1])
      | r => r
/-- Parse -/
def parseP (l : List UInt8) : PRes :=
  match rdP l (4 * l.length + 4) 0 1 0 0 [] with
  | (i, ops, 0) => if i < l.length then ⟨[], (i : Int), 6⟩ else okR ops
  | (i, _, e) => ⟨[], (i : Int), (e : Int)⟩

theorem tkw_le (p : UInt8 → Bool) (l : List UInt8) : (l.takeWhile p).length ≤ l.length := (List.takeWhile_sublist p).length_le
theorem skip_le {l : List UInt8} {i : Nat} (h : i ≤ l.length) : i ≤ skipB l i ∧ skipB l i ≤ l.length := by
  unfold skipB
  have := tkw_le blankB (l.drop i)
  simp only [List.length_drop] at this
  omega
theorem skip_yes {l r : List UInt8} {i : Nat} {c : UInt8} (h : l.drop i = c :: r) (hc : blankB c = true) : skipB l i = skipB l (i + 1) := by
  have h2 : l.drop (i + 1) = r := by rw [← List.drop_drop, h]; rfl
  unfold skipB
  rw [h, h2, List.takeWhile_cons, if_pos hc, List.length_cons]
  omega
theorem skip_no {l r : List UInt8} {i : Nat} {c : UInt8} (h : l.drop i = c :: r) (hc : blankB c = false) : skipB l i = i := by
  unfold skipB
  rw [h, List.takeWhile_cons, hc]
  simp
theorem skip_end {l : List UInt8} {i : Nat} (h : l.length ≤ i) : skipB l i = i := by
  unfold skipB
  rw [List.drop_of_length_le h]
  rfl
theorem skip_skip {l : List UInt8} {i : Nat} : skipB l (skipB l i) = skipB l i := by
  unfold skipB
  have h : (l.drop (i + ((l.drop i).takeWhile blankB).length)).takeWhile blankB = [] := by
    rw [← List.drop_drop]
    generalize l.drop i = t
    induction t with
    | nil => rfl
    | cons c t ih =>
      by_cases hc : blankB c = true
      · rw [List.takeWhile_cons, if_pos hc, List.length_cons, List.drop_succ_cons]; exact ih
      · simp [hc]
  rw [h]
  rfl
theorem isSign_nil : isSignB [] = false := by decide
theorem sign_len {l : List UInt8} {i : Nat} (h : i ≤ l.length) : (signAt l i).length ≤ 2 ∧ i + (signAt l i).length ≤ l.length := by
  unfold signAt
  split
  · simp; omega
  · split
    · simp; omega
    · simp; omega
theorem ahd_nil : ahdP [] = 0 := by decide
theorem btw_nil : btwP [] = (0, 0) := by decide
theorem ahd_pos {l : List UInt8} (h : ahdP l ≠ 0) : 1 ≤ l.length := by
  cases l with
  | nil => exact absurd ahd_nil h
  | cons _ _ => simp
theorem btw_pos {l : List UInt8} (h : (btwP l).2 ≠ 0) : 1 ≤ l.length := by
  cases l with
  | nil => exact absurd (by rw [btw_nil]) h
  | cons _ _ => simp
theorem digs_le {l : List UInt8} {i : Nat} (h : i ≤ l.length) : i + digs l i ≤ l.length := by
  unfold digs
  have := tkw_le (fun c : UInt8 => digB c.toNat) (l.drop i)
  simp only [List.length_drop] at this
  omega
theorem nlen_le {l : List UInt8} {i : Nat} (h : i ≤ l.length) : 0 ≤ nlen l i ∧ i + (nlen l i).toNat ≤ l.length := by
  have h0 : ¬ ((i : Int) < 0) := by omega
  unfold nlen
  rw [if_neg h0]
  split
  · exact ⟨by omega, by simp; omega⟩
  · split
    · exact ⟨by omega, by simp; omega⟩
    · have := tkw_le (fun c : UInt8 => namB c.toNat) (l.drop i)
      simp only [List.length_drop] at this
      simp only [nrun, Int.toNat_natCast]
      omega
theorem numB_nil : numB [] = none := rfl
theorem plain_ok {l : List UInt8} {i : Nat} {ops : List AOp} (h : i ≤ l.length) : i ≤ (plainP l i ops).1 ∧ (plainP l i ops).1 ≤ l.length ∧ (plainP l i ops).2.1.length + i ≤ ops.length + (plainP l i ops).1 := by
  have hn := nlen_le h
  have hd := digs_le h
  unfold plainP
  split
  · simp only [List.length_append, List.length_singleton]
    omega
  · cases hv : numB ((l.drop i).take (digs l i)) with
    | none => simp only; omega
    | some v =>
      have : digs l i ≠ 0 := by
        intro h0
        rw [h0, List.take_zero, numB_nil] at hv
        cases hv
      simp only [List.length_append, List.length_singleton]
      omega
/-- how far it gets, and that each step has a byte of its own -/
theorem rd_ok (l : List UInt8) : ∀ (f mode least deep i : Nat) (ops : List AOp), 1 ≤ least ∨ mode = 1 ∨ mode = 2 → i ≤ l.length →
    i ≤ (rdP l f mode least deep i ops).1 ∧ (rdP l f mode least deep i ops).1 ≤ l.length ∧ (rdP l f mode least deep i ops).2.1.length + i ≤ ops.length + (rdP l f mode least deep i ops).1
  | 0, mode, least, deep, i, ops, _, hi => by unfold rdP; simp only; omega
  | f + 1, 0, least, deep, i, ops, hl, hi => by
    have h1 := rd_ok l f 1 0 deep i ops (.inr (.inl rfl)) hi
    unfold rdP
    generalize rdP l f 1 0 deep i ops = r at *
    obtain ⟨i1, o1, e⟩ := r
    simp only at h1
    cases e with
    | zero =>
      have h2 := rd_ok l f 3 least deep i1 o1 (.inl (by omega)) h1.2.1
      simp only
      omega
    | succ e => exact h1
  | f + 1, 1, least, deep, i, ops, hl, hi => by
    have hs := skip_le hi
    have hg := sign_len (l := l) hs.2
    unfold rdP
    split
    · have := plain_ok (ops := ops) hs.2
      omega
    · rename_i hq
      split
      · simp only; omega
      · split
        · rename_i h40
          have h1 := rd_ok l f 2 0 (deep + 1) (skipB l i + (signAt l (skipB l i)).length) ops (.inr (.inr rfl)) hg.2
          omega
        · rename_i h40
          have ha : ahdP (signAt l (skipB l i)) ≠ 0 := fun h => hq ⟨h, h40⟩
          have hp := ahd_pos ha
          have h1 := rd_ok l f 1 0 (deep + 1) (skipB l i + (signAt l (skipB l i)).length) ops (.inr (.inl rfl)) hg.2
          generalize rdP l f 1 0 (deep + 1) (skipB l i + (signAt l (skipB l i)).length) ops = r at *
          obtain ⟨i1, o1, e⟩ := r
          simp only at h1
          cases e with
          | zero => simp only [List.length_append, List.length_singleton]; omega
          | succ e => simp only; omega
  | f + 1, 2, least, deep, i, ops, hl, hi => by
    have h1 := rd_ok l f 0 1 deep i ops (.inl (Nat.le_refl _)) hi
    unfold rdP
    generalize rdP l f 0 1 deep i ops = r at *
    obtain ⟨i1, o1, e⟩ := r
    simp only at h1
    cases e with
    | zero =>
      have hs := skip_le h1.2.1
      have hg := sign_len (l := l) hs.2
      simp only
      split
      · rename_i h41
        rw [h41] at hg
        simp only [List.length_singleton] at hg
        simp only
        omega
      · simp only; omega
    | succ e => exact h1
  | f + 1, m + 3, least, deep, i, ops, hl, hi => by
    have hs := skip_le hi
    have hg := sign_len (l := l) hs.2
    have hle : 1 ≤ least := by omega
    unfold rdP
    split
    · simp only; omega
    · rename_i hq
      have hp := btw_pos (l := signAt l (skipB l i)) (by omega)
      have h1 := rd_ok l f 0 ((btwP (signAt l (skipB l i))).2 + 1) deep (skipB l i + (signAt l (skipB l i)).length) ops (.inl (by omega)) hg.2
      generalize rdP l f 0 ((btwP (signAt l (skipB l i))).2 + 1) deep (skipB l i + (signAt l (skipB l i)).length) ops = r at *
      obtain ⟨i1, o1, e⟩ := r
      simp only at h1
      cases e with
      | zero =>
        have h2 := rd_ok l f 3 least deep i1 (o1 ++ [opO (btwP (signAt l (skipB l i))).1]) (.inl hle) h1.2.1
        simp only [List.length_append, List.length_singleton] at h2
        simp only
        omega
      | succ e => simp only; omega
end Go.Proofs.Ytekpopopibhjbaa
