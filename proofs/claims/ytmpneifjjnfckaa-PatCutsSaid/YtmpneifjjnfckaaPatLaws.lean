/-
  Plain laws of layer pat (no program in it): what patterns match whose bytes mean nothing, but for a star, a mark, or a bracket; what is cut off.
-/
import Derived.Test.YtmpneifjjnfckaaCutPlain
namespace Go.Proofs.Ytmpneifjjnfckaa

def byTok (b : UInt8) : Tok := .one (fun c => decide (c.toNat = b.toNat))

theorem mtch_bytes : ∀ (l : List UInt8) (ts : List Tok) (s : List UInt8), mtch (l.map byTok ++ ts) s = true ↔ ∃ r, s = l ++ r ∧ mtch ts r = true
  | [], ts, s => ⟨fun h => ⟨s, rfl, h⟩, fun ⟨r, h, h2⟩ => by rw [show s = r from h]; exact h2⟩
  | b :: l, ts, s => by
    rw [List.map_cons, List.cons_append, byTok, mtch_one]
    constructor
    · rintro ⟨c, r, rfl, hc, h⟩
      obtain ⟨q, rfl, h2⟩ := (mtch_bytes l ts r).1 h
      have : c = b := UInt8.toNat_inj.1 (of_decide_eq_true hc)
      subst this
      exact ⟨q, rfl, h2⟩
    · rintro ⟨r, rfl, h⟩
      exact ⟨b, l ++ r, rfl, decide_eq_true rfl, (mtch_bytes l ts _).2 ⟨r, rfl, h⟩⟩
theorem mtch_only (l s : List UInt8) : mtch (l.map byTok) s = true ↔ s = l := by
  have := mtch_bytes l [] s
  rw [List.append_nil] at this
  rw [this]
  constructor
  · rintro ⟨r, rfl, h⟩
    rw [(mtch_nil r).1 h, List.append_nil]
  · rintro rfl
    exact ⟨[], by simp, rfl⟩

theorem act_false {t : List UInt8} {v : List Bool} {i : Nat} (h : actAt t v i = false) : isB t v i 42 = false ∧ isB t v i 63 = false ∧ brB t v i = none := by
  unfold actAt at h
  cases h1 : isB t v i 42 with
  | true => rw [h1] at h; cases h
  | false =>
    cases h2 : isB t v i 63 with
    | true => rw [h1, h2] at h; cases h
    | false =>
      rw [h1, h2] at h
      cases h3 : brB t v i with
      | some e => rw [h3] at h; cases h
      | none => exact ⟨rfl, rfl, rfl⟩
theorem tok_dead {t : List UInt8} {v : List Bool} {i : Nat} (hi : i < t.length) (h : actAt t v i = false) : tokAt t v i = byTok t[i] ∧ nextAt t v i = i + 1 := by
  obtain ⟨h1, h2, h3⟩ := act_false h
  constructor
  · unfold tokAt byTok byt
    rw [h1, h2, h3, List.getD_eq_getElem?_getD, List.getElem?_eq_getElem hi]
    rfl
  · unfold nextAt
    rw [h3]
theorem dead_at {t : List UInt8} {v : List Bool} {i : Nat} (h : livB v i = false) : actAt t v i = false := by
  have hb : ∀ c, isB t v i c = false := fun c => by
    unfold isB
    rw [h]
    split <;> rfl
  unfold actAt brB
  rw [hb, hb, hb]; rfl
theorem toksF_dead {t : List UInt8} {v : List Bool} : ∀ (d n i : Nat), i + d ≤ t.length → (∀ k, i ≤ k → k < i + d → actAt t v k = false) → t.length ≤ i + n → ∃ m, t.length ≤ i + d + m ∧ toksF t v n i = ((t.drop i).take d).map byTok ++ toksF t v m (i + d)
  | 0, n, i, _, _, hn => ⟨n, by omega, by simp⟩
  | d + 1, n, i, hd, hk, hn => by
    have hi : i < t.length := by omega
    obtain ⟨m, h1, h2⟩ := toksF_step (t := t) (v := v) hi hn
    obtain ⟨h3, h4⟩ := tok_dead hi (hk i (Nat.le_refl _) (by omega))
    rw [h4] at h1 h2
    obtain ⟨m2, h5, h6⟩ := toksF_dead (t := t) (v := v) d m (i + 1) (by omega) (fun k g1 g2 => hk k (by omega) (by omega)) h2
    refine ⟨m2, by omega, ?_⟩
    rw [h1, h3, h6, List.drop_eq_getElem_cons hi, List.take_succ_cons, List.map_cons, List.cons_append, show i + 1 + d = i + (d + 1) by omega]
theorem toks_dead {t : List UInt8} {v : List Bool} (h : actB t v = false) : toks t v = t.map byTok := by
  obtain ⟨m, _, h2⟩ := toksF_dead (t := t) (v := v) t.length t.length 0 (by omega) (fun k _ hk => by
    rw [Bool.eq_false_iff]
    intro h1
    have : actB t v = true := List.any_eq_true.2 ⟨k, List.mem_range.2 (by omega), h1⟩
    rw [this] at h
    cases h) (by omega)
  unfold toks
  rw [h2, toksF_end (by omega), List.append_nil]
  simp
theorem pat_dead {t s : List UInt8} {v : List Bool} (h : actB t v = false) : patB t v s = decide (t = s) := by
  unfold patB
  rw [toks_dead h, Bool.eq_iff_iff, mtch_only, decide_eq_true_iff]
  exact eq_comm
theorem act_dead {t : List UInt8} {v : List Bool} (h : ∀ i, livB v i = false) : actB t v = false := by
  rw [Bool.eq_false_iff]
  intro h1
  obtain ⟨i, _, h2⟩ := List.any_eq_true.1 h1
  rw [dead_at (h i)] at h2
  cases h2

/-! one live byte -/
theorem is_star {t : List UInt8} {v : List Bool} {i c : Nat} (hi : i < t.length) (hl : livB v i = true) (hc : byt t i = c) : isB t v i c = true := by
  unfold isB
  rw [if_pos hi, hl, if_pos rfl]
  exact decide_eq_true hc
theorem toks_one {a b : List UInt8} {x : UInt8} {v : List Bool} {T : Tok} (hv : ∀ i, i ≠ a.length → livB v i = false) (hT : tokAt (a ++ x :: b) v a.length = T) (hn : nextAt (a ++ x :: b) v a.length = a.length + 1) : toks (a ++ x :: b) v = a.map byTok ++ T :: b.map byTok := by
  have hl : (a ++ x :: b).length = a.length + (b.length + 1) := by simp
  obtain ⟨m, h1, h2⟩ := toksF_dead (t := a ++ x :: b) (v := v) a.length (a ++ x :: b).length 0 (by omega) (fun k _ hk => dead_at (hv k (by omega))) (by omega)
  obtain ⟨m2, h3, h4⟩ := toksF_step (t := a ++ x :: b) (v := v) (n := m) (i := 0 + a.length) (by omega) (by omega)
  rw [Nat.zero_add] at h2 h3 h4
  rw [hT, hn] at h3
  rw [hn] at h4
  obtain ⟨m5, h5, h6⟩ := toksF_dead (t := a ++ x :: b) (v := v) b.length m2 (a.length + 1) (by omega) (fun k g1 g2 => dead_at (hv k (by omega))) h4
  unfold toks
  rw [h2, h3, h6, toksF_end (by omega), List.append_nil]
  congr 1
  · simp
  · congr 1
    rw [List.drop_append, List.drop_of_length_le (by omega), show a.length + 1 - a.length = 1 by omega]
    simp
theorem byt_mid (a b : List UInt8) (x : UInt8) : byt (a ++ x :: b) a.length = x.toNat := by
  unfold byt
  rw [List.getD_eq_getElem?_getD, List.getElem?_append_right (Nat.le_refl _)]
  simp
theorem toks_star {a b : List UInt8} {v : List Bool} (hv : ∀ i, i ≠ a.length → livB v i = false) (hl : livB v a.length = true) : toks (a ++ 42 :: b) v = a.map byTok ++ .star :: b.map byTok := by
  have h1 : isB (a ++ 42 :: b) v a.length 42 = true := is_star (by simp) hl (byt_mid a b 42)
  refine toks_one hv ?_ ?_
  · unfold tokAt; rw [h1]; rfl
  · unfold nextAt; rw [brB_other h1 (by decide)]
theorem toks_mark {a b : List UInt8} {v : List Bool} (hv : ∀ i, i ≠ a.length → livB v i = false) (hl : livB v a.length = true) : toks (a ++ 63 :: b) v = a.map byTok ++ .one (fun _ => true) :: b.map byTok := by
  have h1 : isB (a ++ 63 :: b) v a.length 63 = true := is_star (by simp) hl (byt_mid a b 63)
  refine toks_one hv ?_ ?_
  · unfold tokAt; rw [isB_two h1 (by decide), h1]; rfl
  · unfold nextAt; rw [brB_other h1 (by decide)]
theorem pat_star {a b s : List UInt8} {v : List Bool} (hv : ∀ i, i ≠ a.length → livB v i = false) (hl : livB v a.length = true) : patB (a ++ 42 :: b) v s = true ↔ ∃ m, s = a ++ m ++ b := by
  unfold patB
  rw [toks_star hv hl, mtch_bytes]
  constructor
  · rintro ⟨r, rfl, h⟩
    obtain ⟨x, y, rfl, h2⟩ := (mtch_star _ _).1 h
    rw [(mtch_only b y).1 h2]
    exact ⟨x, by simp⟩
  · rintro ⟨m, rfl⟩
    exact ⟨m ++ b, by simp, (mtch_star _ _).2 ⟨m, b, rfl, (mtch_only b b).2 rfl⟩⟩
theorem pat_mark {a b s : List UInt8} {v : List Bool} (hv : ∀ i, i ≠ a.length → livB v i = false) (hl : livB v a.length = true) : patB (a ++ 63 :: b) v s = true ↔ ∃ c, s = a ++ c :: b := by
  unfold patB
  rw [toks_mark hv hl, mtch_bytes]
  constructor
  · rintro ⟨r, rfl, h⟩
    obtain ⟨c, y, rfl, _, h2⟩ := (mtch_one _ _ _).1 h
    rw [(mtch_only b y).1 h2]
    exact ⟨c, rfl⟩
  · rintro ⟨c, rfl⟩
    exact ⟨c :: b, rfl, (mtch_one _ _ _).2 ⟨c, b, rfl, rfl, (mtch_only b b).2 rfl⟩⟩
theorem act_star {a b : List UInt8} {v : List Bool} (hl : livB v a.length = true) : actB (a ++ 42 :: b) v = true := by
  have h1 : isB (a ++ 42 :: b) v a.length 42 = true := is_star (by simp) hl (byt_mid a b 42)
  refine List.any_eq_true.2 ⟨a.length, List.mem_range.2 (by simp), ?_⟩
  unfold actAt; rw [h1]; rfl
theorem star_all {a b m : List UInt8} {v : List Bool} (hv : ∀ i, i ≠ a.length → livB v i = false) (hl : livB v a.length = true) : patB (a ++ 42 :: b) v (a ++ m ++ b) = true := (pat_star hv hl).2 ⟨m, rfl⟩
theorem star_less {a b : List UInt8} {v : List Bool} (hv : ∀ i, i ≠ a.length → livB v i = false) (hl : livB v a.length = true) (ha : a ≠ []) : patB (a ++ 42 :: b) v (a.take (a.length - 1)) = false := by
  rw [Bool.eq_false_iff]
  intro h
  obtain ⟨m, hm⟩ := (pat_star hv hl).1 h
  have := congrArg List.length hm
  have hp : 0 < a.length := List.length_pos_iff.2 ha
  simp at this
  omega
theorem mark_one {a b m : List UInt8} {v : List Bool} (hv : ∀ i, i ≠ a.length → livB v i = false) (hl : livB v a.length = true) : patB (a ++ 63 :: b) v (a ++ m ++ b) = decide (m.length = 1) := by
  rw [Bool.eq_iff_iff, pat_mark hv hl, decide_eq_true_iff]
  constructor
  · rintro ⟨c, h⟩
    have := congrArg List.length h
    simp at this
    omega
  · intro h
    obtain ⟨c, rfl⟩ := List.length_eq_one_iff.1 h
    exact ⟨c, by simp⟩

/-! a text that means nothing between two stars -/
theorem toks_two {m : List UInt8} {v : List Bool} (h0 : livB v 0 = true) (h1 : livB v (m.length + 1) = true) (hv : ∀ i, i ≠ 0 → i ≠ m.length + 1 → livB v i = false) : toks (42 :: (m ++ [42])) v = .star :: (m.map byTok ++ [.star]) := by
  have hl : (42 :: (m ++ [42])).length = m.length + 2 := by simp
  have hs0 : isB (42 :: (m ++ [42])) v 0 42 = true := is_star (by simp) h0 rfl
  have hb1 : byt (42 :: (m ++ [42])) (m.length + 1) = 42 := by
    unfold byt
    rw [List.getD_eq_getElem?_getD, List.getElem?_cons_succ, List.getElem?_append_right (Nat.le_refl _)]
    simp
  have hs1 : isB (42 :: (m ++ [42])) v (m.length + 1) 42 = true := is_star (by omega) h1 hb1
  have t0 : tokAt (42 :: (m ++ [42])) v 0 = .star := by unfold tokAt; rw [hs0]; rfl
  have n0 : nextAt (42 :: (m ++ [42])) v 0 = 1 := by unfold nextAt; rw [brB_other hs0 (by decide)]
  have t1 : tokAt (42 :: (m ++ [42])) v (m.length + 1) = .star := by unfold tokAt; rw [hs1]; rfl
  have n1 : nextAt (42 :: (m ++ [42])) v (m.length + 1) = m.length + 2 := by unfold nextAt; rw [brB_other hs1 (by decide)]
  obtain ⟨q, g1, g2⟩ := toksF_step (t := 42 :: (m ++ [42])) (v := v) (n := m.length + 2) (i := 0) (by omega) (by omega)
  rw [t0, n0] at g1
  rw [n0] at g2
  obtain ⟨q2, g3, g4⟩ := toksF_dead (t := 42 :: (m ++ [42])) (v := v) m.length q 1 (by omega) (fun k a b => dead_at (hv k (by omega) (by omega))) g2
  obtain ⟨q3, g5, g6⟩ := toksF_step (t := 42 :: (m ++ [42])) (v := v) (n := q2) (i := 1 + m.length) (by omega) (by omega)
  rw [show 1 + m.length = m.length + 1 by omega] at g4 g5
  rw [t1, n1] at g5
  unfold toks
  rw [hl, g1, g4, g5, toksF_end (by omega)]
  simp
theorem pat_two {m s : List UInt8} {v : List Bool} (h0 : livB v 0 = true) (h1 : livB v (m.length + 1) = true) (hv : ∀ i, i ≠ 0 → i ≠ m.length + 1 → livB v i = false) : patB (42 :: (m ++ [42])) v s = true ↔ ∃ a b, s = a ++ m ++ b := by
  unfold patB
  rw [toks_two h0 h1 hv, mtch_star]
  constructor
  · rintro ⟨a, r, rfl, h⟩
    obtain ⟨q, rfl, _⟩ := (mtch_bytes m [.star] r).1 h
    exact ⟨a, q, by simp⟩
  · rintro ⟨a, b, rfl⟩
    exact ⟨a, m ++ b, by simp, (mtch_bytes m [.star] _).2 ⟨b, rfl, (mtch_star [] b).2 ⟨b, [], by simp, rfl⟩⟩⟩
theorem act_two {m : List UInt8} {v : List Bool} (h0 : livB v 0 = true) : actB (42 :: (m ++ [42])) v = true := by
  have hs0 : isB (42 :: (m ++ [42])) v 0 42 = true := is_star (by simp) h0 rfl
  refine List.any_eq_true.2 ⟨0, List.mem_range.2 (by simp), ?_⟩
  unfold actAt; rw [hs0]; rfl
end Go.Proofs.Ytmpneifjjnfckaa
