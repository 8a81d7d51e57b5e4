/-
  Plain facts on lines (no program in it): lines joined are the text.
-/
import Derived.Test.YtfmmdhmoogjnhaaDoorPlain
namespace Go.Proofs.YtfmmdhmoogjnhaaDoor

theorem lgo_cons : ∀ (rest cur x : List UInt8) (more : List (List UInt8)), lgo rest cur = x :: more →
    (∃ y r, x = cur ++ y ∧ rest = y ++ 10 :: r ∧ lgo r [] = more) ∨ (x = cur ++ rest ∧ more = []) := by
  intro rest
  induction rest with
  | nil =>
    intro cur x more h
    simp only [lgo] at h
    split at h
    · cases h
    · simp only [List.cons.injEq] at h
      exact Or.inr ⟨by simp [h.1], h.2.symm⟩
  | cons c r ih =>
    intro cur x more h
    by_cases hc : c.toNat = 10
    · rw [lgo_feed (by omega)] at h
      simp only [List.cons.injEq] at h
      refine Or.inl ⟨[], r, by simp [h.1], ?_, h.2⟩
      have : c = 10 := UInt8.toNat_inj.1 (by simpa using hc)
      simp [this]
    · rw [lgo_other (by omega)] at h
      rcases ih _ _ _ h with ⟨y, r', h1, h2, h3⟩ | ⟨h1, h2⟩
      · exact Or.inl ⟨c :: y, r', by simp [h1], by simp [h2], h3⟩
      · exact Or.inr ⟨by simp [h1], h2⟩

theorem lines_cons {rest x : List UInt8} {more : List (List UInt8)} (h : linesOf rest = x :: more) :
    (∃ r, rest = x ++ 10 :: r ∧ linesOf r = more) ∨ (rest = x ∧ more = []) := by
  rcases lgo_cons rest [] x more h with ⟨y, r, h1, h2, h3⟩ | ⟨h1, h2⟩
  · refine Or.inl ⟨r, ?_, h3⟩
    rw [h2, h1]; simp
  · exact Or.inr ⟨by simp [h1], h2⟩

theorem lgo_nil : ∀ (rest cur : List UInt8), lgo rest cur = [] → rest = [] ∧ cur = [] := by
  intro rest
  induction rest with
  | nil =>
    intro cur h
    simp only [lgo] at h
    cases cur with
    | nil => exact ⟨rfl, rfl⟩
    | cons a b => simp at h
  | cons c r ih =>
    intro cur h
    by_cases hc : c.toNat = 10
    · rw [lgo_feed (by omega)] at h; cases h
    · rw [lgo_other (by omega)] at h
      have := (ih _ h).2
      simp at this
theorem lines_nil {rest : List UInt8} (h : linesOf rest = []) : rest = [] := (lgo_nil rest [] h).1

/-- after k lines the text so far, with what is left, is the text -/
def Joined (l t : List UInt8) (ls : List (List UInt8)) (k : Nat) : Prop := ∃ rest, l = t ++ rest ∧ linesOf rest = ls.drop k

theorem joined_start (l : List UInt8) : Joined l [] (linesOf l) 0 := ⟨l, rfl, by simp⟩
theorem joined_end {l t : List UInt8} {ls : List (List UInt8)} {k : Nat} (h : Joined l t ls k) (hk : ls.length ≤ k) : t = l := by
  obtain ⟨rest, h1, h2⟩ := h
  rw [List.drop_of_length_le hk] at h2
  rw [h1, lines_nil h2]; simp
theorem joined_le {l t : List UInt8} {ls : List (List UInt8)} {k : Nat} (h : Joined l t ls k) : t.length ≤ l.length := by
  obtain ⟨rest, h1, _⟩ := h
  rw [h1]; simp
theorem joined_step {l t x : List UInt8} {ls : List (List UInt8)} {k : Nat} (h : Joined l t ls k) (hx : ls[k]? = some x) :
    (t.length + x.length < l.length ∧ Joined l (t ++ x ++ [10]) ls (k + 1)) ∨ (k + 1 = ls.length ∧ t.length + x.length = l.length ∧ Joined l (t ++ x) ls (k + 1)) := by
  obtain ⟨rest, h1, h2⟩ := h
  obtain ⟨hk, he⟩ := List.getElem?_eq_some_iff.1 hx
  rw [List.drop_eq_getElem_cons hk, he] at h2
  rcases lines_cons h2 with ⟨r, h3, h4⟩ | ⟨h3, h4⟩
  · refine Or.inl ⟨?_, r, ?_, h4⟩
    · rw [h1, h3]; simp
    · rw [h1, h3]; simp
  · have hl : ls.length ≤ k + 1 := by
      by_cases hc : ls.length ≤ k + 1
      · exact hc
      · rw [List.drop_eq_getElem_cons (by omega)] at h4; cases h4
    refine Or.inr ⟨by omega, ?_, [], ?_, ?_⟩
    · rw [h1, h3]; simp
    · rw [h1, h3]; simp
    · rw [h4]; rfl
end Go.Proofs.YtfmmdhmoogjnhaaDoor
