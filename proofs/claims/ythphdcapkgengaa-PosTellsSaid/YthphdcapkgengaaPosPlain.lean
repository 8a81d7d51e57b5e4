/-
  Plain functions on places of a text (no program in it): the line and the column of a place, their order, and the place of a line and a column.
-/
import Derived.WalkKit
import Derived.Lib.Bytealg
namespace Go.Proofs.Ythphdcapkgengaa

/-- the line of the end of l -/
def ln (l : List UInt8) : Nat := 1 + l.count 10
/-- the column of the end of l -/
def cn (l : List UInt8) : Nat := 1 + (l.reverse.takeWhile fun c => c != 10).length

theorem ln_feed (l : List UInt8) : ln (l ++ [10]) = ln l + 1 := by simp [ln]; omega
theorem ln_other (l : List UInt8) {c : UInt8} (h : c ≠ 10) : ln (l ++ [c]) = ln l := by
  simp [ln, h]
theorem cn_feed (l : List UInt8) : cn (l ++ [10]) = 1 := by simp [cn]
theorem cn_other (l : List UInt8) {c : UInt8} (h : c ≠ 10) : cn (l ++ [c]) = cn l + 1 := by
  simp [cn, h]; omega
theorem cn_pos (l : List UInt8) : 1 ≤ cn l := by unfold cn; omega
theorem ln_pos (l : List UInt8) : 1 ≤ ln l := by unfold ln; omega
theorem ln_le (l : List UInt8) : ln l ≤ l.length + 1 := by
  have := List.count_le_length (a := (10 : UInt8)) (l := l)
  unfold ln; omega
theorem cn_le (l : List UInt8) : cn l ≤ l.length + 1 := by
  have := (List.takeWhile_sublist (l := l.reverse) (fun c => c != 10)).length_le
  simp at this
  unfold cn; omega

/-- the line of the place k -/
def lnAt (l : List UInt8) (k : Nat) : Nat := ln (l.take k)
/-- the column of the place k -/
def cnAt (l : List UInt8) (k : Nat) : Nat := cn (l.take k)

theorem lnAt_zero (l : List UInt8) : lnAt l 0 = 1 := by simp [lnAt, ln]
theorem cnAt_zero (l : List UInt8) : cnAt l 0 = 1 := by simp [cnAt, cn]
theorem lnAt_end (l : List UInt8) {k : Nat} (h : l.length ≤ k) : lnAt l k = ln l := by rw [lnAt, List.take_of_length_le h]
theorem cnAt_end (l : List UInt8) {k : Nat} (h : l.length ≤ k) : cnAt l k = cn l := by rw [cnAt, List.take_of_length_le h]
theorem cnAt_pos (l : List UInt8) (k : Nat) : 1 ≤ cnAt l k := cn_pos _
theorem lnAt_pos (l : List UInt8) (k : Nat) : 1 ≤ lnAt l k := ln_pos _
theorem lnAt_le (l : List UInt8) (k : Nat) : lnAt l k ≤ k + 1 := by
  have := ln_le (l.take k)
  simp at this; unfold lnAt; omega
theorem cnAt_le (l : List UInt8) (k : Nat) : cnAt l k ≤ k + 1 := by
  have := cn_le (l.take k)
  simp at this; unfold cnAt; omega

theorem take_more {l r : List UInt8} {k : Nat} {c : UInt8} (h : l.drop k = c :: r) : l.take (k + 1) = l.take k ++ [c] := by
  rw [List.take_add, h]; rfl

theorem step_feed {l r : List UInt8} {k : Nat} (h : l.drop k = 10 :: r) : lnAt l (k + 1) = lnAt l k + 1 ∧ cnAt l (k + 1) = 1 := by
  unfold lnAt cnAt; rw [take_more h]; exact ⟨ln_feed _, cn_feed _⟩
theorem step_other {l r : List UInt8} {k : Nat} {c : UInt8} (h : l.drop k = c :: r) (hc : c ≠ 10) : lnAt l (k + 1) = lnAt l k ∧ cnAt l (k + 1) = cnAt l k + 1 := by
  unfold lnAt cnAt; rw [take_more h]; exact ⟨ln_other _ hc, cn_other _ hc⟩

theorem drop_some {l : List UInt8} {k : Nat} (h : k < l.length) : ∃ c r, l.drop k = c :: r :=
  ⟨_, _, List.drop_eq_getElem_cons h⟩

theorem step_any {l : List UInt8} {k : Nat} (h : k < l.length) :
    (lnAt l (k + 1) = lnAt l k + 1 ∧ cnAt l (k + 1) = 1) ∨ (lnAt l (k + 1) = lnAt l k ∧ cnAt l (k + 1) = cnAt l k + 1) := by
  obtain ⟨c, r, hd⟩ := drop_some h
  by_cases hc : c = 10
  · subst hc; exact .inl (step_feed hd)
  · exact .inr (step_other hd hc)

/-- line and column rise with the place -/
theorem rises {l : List UInt8} {j : Nat} : ∀ {k : Nat}, j < k → k ≤ l.length → lnAt l j < lnAt l k ∨ (lnAt l j = lnAt l k ∧ cnAt l j < cnAt l k)
  | 0, h, _ => by omega
  | k + 1, h, hk => by
    have hs := step_any (l := l) (k := k) (by omega)
    by_cases hj : j = k
    · subst hj; omega
    · have := rises (l := l) (j := j) (k := k) (by omega) (by omega)
      omega

theorem mono {l : List UInt8} {j k : Nat} (h : j ≤ k) (hk : k ≤ l.length) : lnAt l j ≤ lnAt l k := by
  by_cases e : j = k
  · subst e; exact Nat.le_refl _
  · have := rises (l := l) (j := j) (k := k) (by omega) hk
    omega

theorem one_place {l : List UInt8} {j k : Nat} (hj : j ≤ l.length) (hk : k ≤ l.length) (h : lnAt l j = lnAt l k) (g : cnAt l j = cnAt l k) : j = k := by
  by_cases h1 : j < k
  · have := rises h1 hk; omega
  · by_cases h2 : k < j
    · have := rises h2 hj; omega
    · omega

/-- how long the line at the beginning is -/
def llen (l : List UInt8) : Nat := (l.takeWhile fun c => c != 10).length

theorem llen_le (l : List UInt8) : llen l ≤ l.length := (List.takeWhile_sublist _).length_le

theorem index_eq : ∀ (l : List UInt8), Lib.indexByte l 10 = if llen l < l.length then (llen l : Int) else -1
  | [] => by simp [Lib.indexByte, llen]
  | c :: r => by
    unfold Lib.indexByte
    rw [index_eq r]
    have hr := llen_le r
    by_cases hc : c = 10
    · subst hc; simp [llen]
    · have : llen (c :: r) = llen r + 1 := by simp [llen, hc]
      rw [this]
      have hb : (c == 10) = false := by simpa using hc
      rw [hb]
      by_cases hl : llen r < r.length
      · simp [hl]
      · simp [hl]

theorem llen_feed : ∀ {l : List UInt8}, llen l < l.length → ∃ r, l.drop (llen l) = 10 :: r
  | [], h => by simp [llen] at h
  | c :: r, h => by
    by_cases hc : c = 10
    · subst hc; exact ⟨r, by simp [llen]⟩
    · have e : llen (c :: r) = llen r + 1 := by simp [llen, hc]
      rw [e] at h ⊢
      exact llen_feed (l := r) (by simpa using h)

theorem llen_other : ∀ {l : List UInt8} {j : Nat}, j < llen l → ∃ c r, l.drop j = c :: r ∧ c ≠ 10
  | [], j, h => by simp [llen] at h
  | c :: r, j, h => by
    by_cases hc : c = 10
    · subst hc; simp [llen] at h
    · have e : llen (c :: r) = llen r + 1 := by simp [llen, hc]
      cases j with
      | zero => exact ⟨c, r, rfl, hc⟩
      | succ j => exact llen_other (l := r) (j := j) (by omega)

/-- along a line the columns count -/
theorem along {l : List UInt8} {b : Nat} : ∀ {j : Nat}, j ≤ llen (l.drop b) → lnAt l (b + j) = lnAt l b ∧ cnAt l (b + j) = cnAt l b + j
  | 0, _ => ⟨rfl, rfl⟩
  | j + 1, h => by
    have ih := along (l := l) (b := b) (j := j) (by omega)
    obtain ⟨c, r, hd, hc⟩ := llen_other (l := l.drop b) (j := j) (by omega)
    rw [List.drop_drop] at hd
    have := step_other hd hc
    rw [show b + (j + 1) = b + j + 1 from rfl]
    omega

/-- the next line's beginning -/
theorem next_line {l : List UInt8} {b : Nat} (h : llen (l.drop b) < (l.drop b).length) : lnAt l (b + llen (l.drop b) + 1) = lnAt l b + 1 ∧ cnAt l (b + llen (l.drop b) + 1) = 1 := by
  obtain ⟨r, hd⟩ := llen_feed h
  rw [List.drop_drop] at hd
  have h1 := step_feed hd
  have h2 := along (l := l) (b := b) (Nat.le_refl _)
  omega

/-- where a line is that begins at b -/
theorem in_line {l : List UInt8} {b k : Nat} (hb : b ≤ l.length) (hk : k ≤ l.length) (hc : cnAt l b = 1) (h : lnAt l k = lnAt l b) : b ≤ k ∧ k ≤ b + llen (l.drop b) := by
  constructor
  · by_cases hl : k < b
    · have := rises hl hb; have := cnAt_pos l k; omega
    · omega
  · by_cases hl : b + llen (l.drop b) < k
    · have h1 : llen (l.drop b) < (l.drop b).length := by simp; omega
      have h2 := next_line h1
      have h3 := mono (l := l) (j := b + llen (l.drop b) + 1) (k := k) (by omega) hk
      omega
    · omega

/-- the last line -/
theorem last_line {l : List UInt8} {b k : Nat} (hb : b ≤ l.length) (hk : k ≤ l.length) (h : ¬ llen (l.drop b) < (l.drop b).length) : lnAt l k ≤ lnAt l b := by
  have h1 := llen_le (l.drop b)
  have h3 : (l.drop b).length = l.length - b := by simp
  have h2 := along (l := l) (b := b) (Nat.le_refl (llen (l.drop b)))
  have h4 := mono (l := l) (j := k) (k := l.length) hk (Nat.le_refl _)
  have e : b + llen (l.drop b) = l.length := by omega
  rw [e] at h2
  omega

/-- what the place of a line and a column is -/
def AtIs (l : List UInt8) (line col : Int) : Option Nat → Prop
  | some m => m ≤ l.length ∧ (lnAt l m : Int) = line ∧ (cnAt l m : Int) = col
  | none => ∀ m, m ≤ l.length → (lnAt l m : Int) = line → (cnAt l m : Int) = col → False

theorem AtIs.one {l : List UInt8} {line col : Int} : ∀ {o p : Option Nat}, AtIs l line col o → AtIs l line col p → o = p
  | some m, some n, h, g => by
    obtain ⟨h1, h2, h3⟩ := h; obtain ⟨g1, g2, g3⟩ := g
    rw [one_place h1 g1 (by omega) (by omega)]
  | some m, none, h, g => (g m h.1 h.2.1 h.2.2).elim
  | none, some m, g, h => (g m h.1 h.2.1 h.2.2).elim
  | none, none, _, _ => rfl

theorem AtIs.self (l : List UInt8) {k : Nat} (h : k ≤ l.length) : AtIs l (lnAt l k) (cnAt l k) (some k) := ⟨h, rfl, rfl⟩

/-- the column of the end, counted from k on -/
theorem cn_back (l : List UInt8) {k : Nat} {c : UInt8} {r : List UInt8} {d : Nat} (h : l.drop k = c :: r) (hc : c ≠ 10) (e : cn l = d + cnAt l (k + 1)) : cn l = d + 1 + cnAt l k := by
  have := (step_other h hc).2
  omega
end Go.Proofs.Ythphdcapkgengaa
