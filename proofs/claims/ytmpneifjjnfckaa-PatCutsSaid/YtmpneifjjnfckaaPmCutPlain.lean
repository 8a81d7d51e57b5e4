/-
  Plain facts (no program in it): what a plan's lengths cut off is what the pattern cuts off.
-/
import Derived.Test.YtmpneifjjnfckaaPmPlain
namespace Go.Proofs.Ytmpneifjjnfckaa

def lenR (long : Bool) (xs : List Nat) : Nat := if long then xs.getLast?.getD 0 else xs.head?.getD 0

section
variable {gs : List Bool} {fs : List (Nat → Bool)} {S : List UInt8}
theorem lens_none (h : ∀ n, n ≤ S.length → lenB gs fs S n = false) (long : Bool) : lenR long (lensL gs fs S) = 0 := by
  have e : lensL gs fs S = [] := by
    have := lensTo_stop gs fs S (n := 0) (S.length + 1) (fun m _ h2 => h m (by omega))
    rw [Nat.zero_add] at this
    exact this
  rw [e]
  cases long <;> rfl
theorem lens_least {n : Nat} (hn : n ≤ S.length) (hp : lenB gs fs S n = true) (h : ∀ j, j < n → lenB gs fs S j = false) : lenR false (lensL gs fs S) = n := by
  have e : lensTo gs fs S n = [] := by
    have := lensTo_stop gs fs S (n := 0) n (fun m _ h2 => h m (by omega))
    rw [Nat.zero_add] at this
    exact this
  have e2 : lensTo gs fs S (n + 1) = [n] := by rw [lensTo_succ, e, hp]; rfl
  obtain ⟨zs, hz⟩ := lensTo_pre gs fs S (S.length - n) (n := n + 1)
  rw [show n + 1 + (S.length - n) = S.length + 1 by omega] at hz
  unfold lenR lensL
  rw [← hz, e2]
  rfl
theorem lens_most {n : Nat} (hn : n ≤ S.length) (hp : lenB gs fs S n = true) (h : ∀ j, n < j → j ≤ S.length → lenB gs fs S j = false) : lenR true (lensL gs fs S) = n := by
  have e := lensTo_stop gs fs S (n := n + 1) (S.length - n) (fun m h1 h2 => h m (by omega) (by omega))
  rw [show n + 1 + (S.length - n) = S.length + 1 by omega] at e
  unfold lenR lensL
  rw [e, lensTo_succ, hp]
  simp
end

/-- the shortest (longest) of the lengths, and what is cut by it -/
theorem cut_by {gs : List Bool} {fs : List (Nat → Bool)} {S R : List UInt8} {f : Nat → Option (List UInt8)} {D : Nat → List UInt8} {long : Bool} (hlen : R.length = S.length) (hf : ∀ i, i ≤ S.length → f i = if lenB gs fs R (cutN S long i) then some (D (cutN S long i)) else none) (hD : D 0 = S) :
    cutF f S (S.length + 1) 0 = D (lenR long (lensL gs fs R)) := by
  rcases cutF_ways f S (S.length + 1) 0 with ⟨k, x, _, h2, h3, h4, h5⟩ | ⟨h1, h2⟩
  · rw [h5]
    rw [hf k (by omega)] at h4
    have hp : lenB gs fs R (cutN S long k) = true := by
      cases hb : lenB gs fs R (cutN S long k) with
      | true => rfl
      | false => rw [hb] at h4; cases h4
    rw [hp] at h4
    injection h4 with h4
    rw [← h4]
    have hno : ∀ j, j < k → lenB gs fs R (cutN S long j) = false := fun j hj => by
      have := h3 j (by omega) hj
      rw [hf j (by omega)] at this
      cases hb : lenB gs fs R (cutN S long j) with
      | false => rfl
      | true => rw [hb] at this; cases this
    congr 1
    cases long with
    | false =>
      unfold cutN at hp hno ⊢
      simp only [Bool.false_eq_true, if_false] at hp hno ⊢
      exact (lens_least (by omega) hp hno).symm
    | true =>
      unfold cutN at hp hno ⊢
      simp only [if_true] at hp hno ⊢
      refine (lens_most (by omega) hp fun j h6 h7 => ?_).symm
      have := hno (S.length - j) (by omega)
      rw [show S.length - (S.length - j) = j by omega] at this
      exact this
  · rw [h2, lens_none (fun n hn => ?_), hD]
    have hi : ∃ i, i ≤ S.length ∧ cutN S long i = n := by
      cases long with
      | false => exact ⟨n, by omega, rfl⟩
      | true => exact ⟨S.length - n, by omega, by unfold cutN; simp only [if_true]; omega⟩
    obtain ⟨i, hi1, hi2⟩ := hi
    have := h1 i (by omega) (by omega)
    rw [hf i hi1, hi2] at this
    cases hb : lenB gs fs R n with
    | false => rfl
    | true => rw [hb] at this; cases this

theorem cut_front {gs : List Bool} {fs : List (Nat → Bool)} {m : List UInt8 → Bool} (hm : ∀ u, m u = mtch (planL gs fs) u) (S : List UInt8) (long : Bool) : cutB m S true long = S.drop (lenR long (lensL gs fs S)) := by
  unfold cutB
  refine cut_by (D := fun n => S.drop n) rfl (fun i _ => ?_) rfl
  unfold cutAt lenB
  simp only [if_true, hm]
theorem cut_back {gs : List Bool} {fs : List (Nat → Bool)} {m : List UInt8 → Bool} (hl : gs.length = fs.length + 1) (hm : ∀ u, m u = mtch (planL gs fs) u) (S : List UInt8) (long : Bool) : cutB m S false long = S.take (S.length - lenR long (lensL gs.reverse fs.reverse S.reverse)) := by
  unfold cutB
  refine cut_by (D := fun n => S.take (S.length - n)) (by simp) (fun i hi => ?_) (by simp)
  have e : lenB gs.reverse fs.reverse S.reverse (cutN S long i) = m (S.drop (S.length - cutN S long i)) := by
    unfold lenB
    rw [hm, ← planL_rev gs fs hl, Bool.eq_iff_iff, ← mtch_rev (planL gs fs), List.take_reverse]
  unfold cutAt
  simp only [Bool.false_eq_true, if_false]
  rw [e]
theorem lenR_le (gs : List Bool) (fs : List (Nat → Bool)) (S : List UInt8) (long : Bool) : lenR long (lensL gs fs S) ≤ S.length := by
  have h : ∀ x ∈ lensL gs fs S, x ≤ S.length := fun x hx => ((mem_lensL gs fs S x).1 hx).1
  unfold lenR
  cases long with
  | true =>
    simp only [if_true]
    cases hg : (lensL gs fs S).getLast? with
    | none => exact Nat.zero_le _
    | some x => exact h x (List.mem_of_getLast? hg)
  | false =>
    simp only [Bool.false_eq_true, if_false]
    cases hg : (lensL gs fs S).head? with
    | none => exact Nat.zero_le _
    | some x => exact h x (List.mem_of_head? hg)
end Go.Proofs.Ytmpneifjjnfckaa
