/-
  Plain laws of layer pat (no program in it): brackets; what is cut off at the front and at the end.
-/
import Derived.Test.YtmpneifjjnfckaaPatLaws
namespace Go.Proofs.Ytmpneifjjnfckaa

def rp (n : Nat) : List Bool := List.replicate n true
theorem aw1 : patB [97, 42] (rp 2) [97, 98] = true := by decide
theorem aw2 : patB [97, 63] (rp 2) [97] = false := by decide
theorem aw3 : patB [91, 97, 45, 99, 93] (rp 5) [98] = true := by decide
theorem aw4 : patB [91, 33, 97, 45, 99, 93] (rp 6) [98] = false := by decide
theorem aw5 : patB [91] (rp 1) [91] = true := by decide
theorem aw6 : actB [91, 97] (rp 2) = false := by decide
theorem aw7 : actB [91, 97, 93] (rp 3) = true := by decide
theorem aw8 : cutB (patB [42, 46] (rp 2)) [97, 46, 98, 46, 99] true false = [98, 46, 99] := by decide
theorem aw9 : cutB (patB [42, 46] (rp 2)) [97, 46, 98, 46, 99] true true = [99] := by decide

/-! brackets -/
theorem rp_live (n i : Nat) : livB (rp n) i = decide (i < n) := by
  unfold livB rp
  rw [List.getD_eq_getElem?_getD, List.getElem?_replicate]
  by_cases h : i < n <;> simp [h]
theorem isB_raw (t : List UInt8) (i c : Nat) : isB t (rp t.length) i c = (decide (i < t.length) && decide (byt t i = c)) := by
  unfold isB
  rw [rp_live]
  by_cases h : i < t.length <;> simp [h]
def inB (lo hi more c : UInt8) : Bool := decide (c.toNat = more.toNat) || (decide (lo.toNat ≤ c.toNat) && decide (c.toNat ≤ hi.toNat))
section
variable {lo hi more : UInt8} (m1 : more.toNat ≠ 33) (m2 : more.toNat ≠ 93) (l1 : lo.toNat ≠ 93) (l2 : lo.toNat ≠ 45) (h1 : hi.toNat ≠ 93)
include m1 l1 h1
theorem br_p : brB [91, more, lo, 45, hi, 93] (rp 6) 0 = some 5 := by
  have e : ∀ i c, isB [91, more, lo, 45, hi, 93] (rp 6) i c = (decide (i < 6) && decide (byt [91, more, lo, 45, hi, 93] i = c)) := fun i c => isB_raw [91, more, lo, 45, hi, 93] i c
  unfold brB
  rw [e, e]
  simp [byt, seekB, e, m1, l1, h1]
omit m1 in
theorem br_q : brB [91, 33, more, lo, 45, hi, 93] (rp 7) 0 = some 6 := by
  have e : ∀ i c, isB [91, 33, more, lo, 45, hi, 93] (rp 7) i c = (decide (i < 7) && decide (byt [91, 33, more, lo, 45, hi, 93] i = c)) := fun i c => isB_raw [91, 33, more, lo, 45, hi, 93] i c
  unfold brB
  rw [e, e]
  simp [byt, seekB, e, l1, h1]
include l2
omit l1 h1 in
theorem am_p (c : UInt8) : amB [91, more, lo, 45, hi, 93] (rp 6) 0 5 c.toNat = inB lo hi more c := by
  have e : ∀ i d, isB [91, more, lo, 45, hi, 93] (rp 6) i d = (decide (i < 6) && decide (byt [91, more, lo, 45, hi, 93] i = d)) := fun i d => isB_raw [91, more, lo, 45, hi, 93] i d
  unfold amB
  rw [e]
  simp [byt, amgo, e, m1, l2, inB]
omit m1 l1 h1 in
theorem am_q (c : UInt8) : amB [91, 33, more, lo, 45, hi, 93] (rp 7) 0 6 c.toNat = !inB lo hi more c := by
  have e : ∀ i d, isB [91, 33, more, lo, 45, hi, 93] (rp 7) i d = (decide (i < 7) && decide (byt [91, 33, more, lo, 45, hi, 93] i = d)) := fun i d => isB_raw [91, 33, more, lo, 45, hi, 93] i d
  unfold amB
  rw [e]
  simp [byt, amgo, e, l2, inB]
theorem toks_p : toks [91, more, lo, 45, hi, 93] (rp 6) = [.one (fun c => inB lo hi more c)] := by
  have e : ∀ i d, isB [91, more, lo, 45, hi, 93] (rp 6) i d = (decide (i < 6) && decide (byt [91, more, lo, 45, hi, 93] i = d)) := fun i d => isB_raw [91, more, lo, 45, hi, 93] i d
  have hb := br_p m1 l1 h1
  have ht : tokAt [91, more, lo, 45, hi, 93] (rp 6) 0 = .one (fun c => inB lo hi more c) := by
    unfold tokAt
    rw [e, e, hb]
    simp only [am_p m1 l2]
    rfl
  have hn : nextAt [91, more, lo, 45, hi, 93] (rp 6) 0 = 6 := by unfold nextAt; rw [hb]
  unfold toks
  show toksF [91, more, lo, 45, hi, 93] (rp 6) 6 0 = _
  rw [toksF, if_pos (by simp), ht, hn, toksF_end (by simp)]
omit m1 in
theorem toks_q : toks [91, 33, more, lo, 45, hi, 93] (rp 7) = [.one (fun c => !inB lo hi more c)] := by
  have e : ∀ i d, isB [91, 33, more, lo, 45, hi, 93] (rp 7) i d = (decide (i < 7) && decide (byt [91, 33, more, lo, 45, hi, 93] i = d)) := fun i d => isB_raw [91, 33, more, lo, 45, hi, 93] i d
  have hb := br_q (more := more) l1 h1
  have ht : tokAt [91, 33, more, lo, 45, hi, 93] (rp 7) 0 = .one (fun c => !inB lo hi more c) := by
    unfold tokAt
    rw [e, e, hb]
    simp only [am_q l2]
    rfl
  have hn : nextAt [91, 33, more, lo, 45, hi, 93] (rp 7) 0 = 7 := by unfold nextAt; rw [hb]
  unfold toks
  show toksF [91, 33, more, lo, 45, hi, 93] (rp 7) 7 0 = _
  rw [toksF, if_pos (by simp), ht, hn, toksF_end (by simp)]
theorem pat_p (c : UInt8) : patB [91, more, lo, 45, hi, 93] (rp 6) [c] = inB lo hi more c := by
  unfold patB
  rw [toks_p m1 l1 l2 h1]
  simp [mtch, oneM]
theorem pat_pp (c : UInt8) : patB [91, more, lo, 45, hi, 93] (rp 6) [c, c] = false := by
  unfold patB
  rw [toks_p m1 l1 l2 h1]
  simp [mtch, oneM]
omit m1 in
theorem pat_q (c : UInt8) : patB [91, 33, more, lo, 45, hi, 93] (rp 7) [c] = !inB lo hi more c := by
  unfold patB
  rw [toks_q l1 l2 h1]
  simp [mtch, oneM]
omit m1 in
theorem pat_qe : patB [91, 33, more, lo, 45, hi, 93] (rp 7) [] = false := by
  unfold patB
  rw [toks_q l1 l2 h1]
  simp [mtch, oneM]
omit l2 in
theorem act_p : actB [91, more, lo, 45, hi, 93] (rp 6) = true := by
  refine List.any_eq_true.2 ⟨0, List.mem_range.2 (by simp), ?_⟩
  unfold actAt
  rw [br_p m1 l1 h1]
  split
  · rfl
  · split <;> rfl
omit m1 l2 in
theorem act_q : actB [91, 33, more, lo, 45, hi, 93] (rp 7) = true := by
  refine List.any_eq_true.2 ⟨0, List.mem_range.2 (by simp), ?_⟩
  unfold actAt
  rw [br_q l1 h1]
  split
  · rfl
  · split <;> rfl
end

/-! what is cut off -/
structure FrontCut (m : List UInt8 → Bool) (s a b : List UInt8) (p q : Nat) : Prop where
  pq : p ≤ q
  len : q ≤ s.length
  mp : m (s.take p) = true
  mq : m (s.take q) = true
  isA : a = s.drop p
  isB : b = s.drop q
  all : ∀ j, j ≤ s.length → m (s.take j) = true → p ≤ j ∧ j ≤ q
structure EndCut (m : List UInt8 → Bool) (s c d : List UInt8) (p q : Nat) : Prop where
  qp : q ≤ p
  len : p ≤ s.length
  mp : m (s.drop p) = true
  mq : m (s.drop q) = true
  isC : c = s.take p
  isD : d = s.take q
  all : ∀ j, j ≤ s.length → m (s.drop j) = true → q ≤ j ∧ j ≤ p
theorem cut_tf (m : List UInt8 → Bool) (s : List UInt8) (j : Nat) : cutAt m s true false j = if m (s.take j) then some (s.drop j) else none := rfl
theorem cut_tt (m : List UInt8 → Bool) (s : List UInt8) (j : Nat) : cutAt m s true true j = if m (s.take (s.length - j)) then some (s.drop (s.length - j)) else none := rfl
theorem cut_ff (m : List UInt8 → Bool) (s : List UInt8) (j : Nat) : cutAt m s false false j = if m (s.drop (s.length - j)) then some (s.take (s.length - j)) else none := rfl
theorem cut_ft (m : List UInt8 → Bool) (s : List UInt8) (j : Nat) : cutAt m s false true j = if m (s.drop (s.length - (s.length - j))) then some (s.take (s.length - (s.length - j))) else none := rfl
theorem ite_some {b : Bool} {x y : List UInt8} (h : (if b then some x else none) = some y) : b = true ∧ y = x := by
  cases b with
  | true => injection h with h; exact ⟨rfl, h.symm⟩
  | false => cases h
theorem ite_none {b : Bool} {x : List UInt8} (h : (if b then some x else none) = none) : b = false := by
  cases b with
  | true => cases h
  | false => rfl
theorem bno {b : Bool} (h1 : b = true) (h2 : b = false) {P : Prop} : P := by rw [h1] at h2; cases h2
theorem front_ways (m : List UInt8 → Bool) (s : List UInt8) : (∃ p q, FrontCut m s (cutB m s true false) (cutB m s true true) p q) ∨ ((∀ j, j ≤ s.length → m (s.take j) = false) ∧ cutB m s true false = s ∧ cutB m s true true = s) := by
  rcases cutF_ways (cutAt m s true false) s (s.length + 1) 0 with ⟨p, x, _, hp, h1, h2, h3⟩ | ⟨h1, h2⟩
  · rw [cut_tf] at h2
    obtain ⟨h4, h5⟩ := ite_some h2
    rcases cutF_ways (cutAt m s true true) s (s.length + 1) 0 with ⟨k, y, _, hk, g1, g2, g3⟩ | ⟨g1, g2⟩
    · rw [cut_tt] at g2
      obtain ⟨g4, g5⟩ := ite_some g2
      have hall : ∀ j, j ≤ s.length → m (s.take j) = true → p ≤ j ∧ j ≤ s.length - k := by
        intro j hj hm
        constructor
        · rcases Nat.lt_or_ge j p with hlt | hge
          · have := h1 j (Nat.zero_le _) hlt
            rw [cut_tf] at this
            exact bno hm (ite_none this)
          · exact hge
        · rcases Nat.lt_or_ge (s.length - k) j with hlt | hge
          · have := g1 (s.length - j) (Nat.zero_le _) (by omega)
            rw [cut_tt, show s.length - (s.length - j) = j by omega] at this
            exact bno hm (ite_none this)
          · exact hge
      exact .inl ⟨p, s.length - k, (hall _ (by omega) g4).1, by omega, h4, g4, h3.trans h5, g3.trans g5, hall⟩
    · have := g1 (s.length - p) (Nat.zero_le _) (by omega)
      rw [cut_tt, show s.length - (s.length - p) = p by omega] at this
      exact bno h4 (ite_none this)
  · refine .inr ⟨fun j hj => ?_, h2, ?_⟩
    · have := h1 j (Nat.zero_le _) (by omega)
      rw [cut_tf] at this
      exact ite_none this
    · rcases cutF_ways (cutAt m s true true) s (s.length + 1) 0 with ⟨k, y, _, hk, g1, g2, g3⟩ | ⟨g1, g2⟩
      · rw [cut_tt] at g2
        obtain ⟨g4, _⟩ := ite_some g2
        have := h1 (s.length - k) (Nat.zero_le _) (by omega)
        rw [cut_tf] at this
        exact bno g4 (ite_none this)
      · exact g2
theorem end_ways (m : List UInt8 → Bool) (s : List UInt8) : (∃ p q, EndCut m s (cutB m s false false) (cutB m s false true) p q) ∨ ((∀ j, j ≤ s.length → m (s.drop j) = false) ∧ cutB m s false false = s ∧ cutB m s false true = s) := by
  rcases cutF_ways (cutAt m s false false) s (s.length + 1) 0 with ⟨p, x, _, hp, h1, h2, h3⟩ | ⟨h1, h2⟩
  · rw [cut_ff] at h2
    obtain ⟨h4, h5⟩ := ite_some h2
    rcases cutF_ways (cutAt m s false true) s (s.length + 1) 0 with ⟨k, y, _, hk, g1, g2, g3⟩ | ⟨g1, g2⟩
    · rw [cut_ft, show s.length - (s.length - k) = k by omega] at g2
      obtain ⟨g4, g5⟩ := ite_some g2
      have hall : ∀ j, j ≤ s.length → m (s.drop j) = true → k ≤ j ∧ j ≤ s.length - p := by
        intro j hj hm
        constructor
        · rcases Nat.lt_or_ge j k with hlt | hge
          · have := g1 j (Nat.zero_le _) hlt
            rw [cut_ft, show s.length - (s.length - j) = j by omega] at this
            exact bno hm (ite_none this)
          · exact hge
        · rcases Nat.lt_or_ge (s.length - p) j with hlt | hge
          · have := h1 (s.length - j) (Nat.zero_le _) (by omega)
            rw [cut_ff, show s.length - (s.length - j) = j by omega] at this
            exact bno hm (ite_none this)
          · exact hge
      exact .inl ⟨s.length - p, k, (hall _ (by omega) h4).1, by omega, h4, g4, h3.trans h5, g3.trans g5, hall⟩
    · have := g1 (s.length - p) (Nat.zero_le _) (by omega)
      rw [cut_ft, show s.length - (s.length - (s.length - p)) = s.length - p by omega] at this
      exact bno h4 (ite_none this)
  · refine .inr ⟨fun j hj => ?_, h2, ?_⟩
    · have := h1 (s.length - j) (Nat.zero_le _) (by omega)
      rw [cut_ff, show s.length - (s.length - j) = j by omega] at this
      exact ite_none this
    · rcases cutF_ways (cutAt m s false true) s (s.length + 1) 0 with ⟨k, y, _, hk, g1, g2, g3⟩ | ⟨g1, g2⟩
      · rw [cut_ft, show s.length - (s.length - k) = k by omega] at g2
        obtain ⟨g4, _⟩ := ite_some g2
        have := h1 (s.length - k) (Nat.zero_le _) (by omega)
        rw [cut_ff, show s.length - (s.length - k) = k by omega] at this
        exact bno g4 (ite_none this)
      · exact g2
end Go.Proofs.Ytmpneifjjnfckaa
