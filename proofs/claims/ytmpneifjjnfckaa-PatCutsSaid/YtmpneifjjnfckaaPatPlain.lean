/-
  Plain functions of the layer pat (no program in it): patterns as rows of tokens, what they match, where brackets end, what is among them.
-/
import Derived.WalkKit
namespace Go.Proofs.Ytmpneifjjnfckaa

inductive Tok where
  | star
  | one (f : UInt8 → Bool)

def starM (m : List UInt8 → Bool) : List UInt8 → Bool
  | [] => m []
  | c :: r => m (c :: r) || starM m r
def oneM (f : UInt8 → Bool) (m : List UInt8 → Bool) : List UInt8 → Bool
  | [] => false
  | c :: r => f c && m r
/-- is all of the text matched? -/
def mtch : List Tok → List UInt8 → Bool
  | [], s => s.isEmpty
  | .star :: ts, s => starM (mtch ts) s
  | .one f :: ts, s => oneM f (mtch ts) s

theorem starM_iff (m : List UInt8 → Bool) : ∀ l, starM m l = true ↔ ∃ a b, l = a ++ b ∧ m b = true
  | [] => by
    constructor
    · intro h; exact ⟨[], [], rfl, h⟩
    · rintro ⟨a, b, h, hm⟩
      obtain ⟨_, rfl⟩ := List.append_eq_nil_iff.1 h.symm
      exact hm
  | c :: r => by
    unfold starM
    rw [Bool.or_eq_true, starM_iff m r]
    constructor
    · rintro (h | ⟨a, b, rfl, h⟩)
      · exact ⟨[], c :: r, rfl, h⟩
      · exact ⟨c :: a, b, rfl, h⟩
    · rintro ⟨a, b, h, hm⟩
      cases a with
      | nil => left; rw [show c :: r = b from h]; exact hm
      | cons d a =>
        injection h with h1 h2
        exact .inr ⟨a, b, h2, hm⟩
theorem oneM_iff (f : UInt8 → Bool) (m : List UInt8 → Bool) (l : List UInt8) : oneM f m l = true ↔ ∃ c r, l = c :: r ∧ f c = true ∧ m r = true := by
  cases l with
  | nil => exact ⟨fun h => (by cases h), fun ⟨c, r, h, _⟩ => (by cases h)⟩
  | cons c r =>
    unfold oneM
    rw [Bool.and_eq_true]
    exact ⟨fun h => ⟨c, r, rfl, h.1, h.2⟩, fun ⟨_, _, h, h1, h2⟩ => by injection h with e1 e2; subst e1; subst e2; exact ⟨h1, h2⟩⟩
theorem mtch_nil (l : List UInt8) : mtch [] l = true ↔ l = [] := by unfold mtch; cases l <;> simp
theorem mtch_star (ts : List Tok) (l : List UInt8) : mtch (.star :: ts) l = true ↔ ∃ a b, l = a ++ b ∧ mtch ts b = true := starM_iff (mtch ts) l
theorem mtch_one (f : UInt8 → Bool) (ts : List Tok) (l : List UInt8) : mtch (.one f :: ts) l = true ↔ ∃ c r, l = c :: r ∧ f c = true ∧ mtch ts r = true := oneM_iff f (mtch ts) l
theorem mtch_append : ∀ (ts us : List Tok) (l : List UInt8), mtch (ts ++ us) l = true ↔ ∃ a b, l = a ++ b ∧ mtch ts a = true ∧ mtch us b = true
  | [], us, l => by
    constructor
    · intro h; exact ⟨[], l, rfl, rfl, h⟩
    · rintro ⟨a, b, rfl, h1, h2⟩
      obtain rfl := (mtch_nil a).1 h1
      exact h2
  | .star :: ts, us, l => by
    rw [List.cons_append, mtch_star]
    constructor
    · rintro ⟨a, b, rfl, h⟩
      obtain ⟨x, y, rfl, h1, h2⟩ := (mtch_append ts us b).1 h
      exact ⟨a ++ x, y, by simp, (mtch_star ts _).2 ⟨a, x, rfl, h1⟩, h2⟩
    · rintro ⟨a, b, rfl, h1, h2⟩
      obtain ⟨x, y, rfl, h3⟩ := (mtch_star ts a).1 h1
      exact ⟨x, y ++ b, by simp, (mtch_append ts us _).2 ⟨y, b, rfl, h3, h2⟩⟩
  | .one f :: ts, us, l => by
    rw [List.cons_append, mtch_one]
    constructor
    · rintro ⟨c, r, rfl, hf, h⟩
      obtain ⟨x, y, rfl, h1, h2⟩ := (mtch_append ts us r).1 h
      exact ⟨c :: x, y, rfl, (mtch_one f ts _).2 ⟨c, x, rfl, hf, h1⟩, h2⟩
    · rintro ⟨a, b, rfl, h1, h2⟩
      obtain ⟨c, r, rfl, hf, h3⟩ := (mtch_one f ts a).1 h1
      exact ⟨c, r ++ b, rfl, hf, (mtch_append ts us _).2 ⟨r, b, rfl, h3, h2⟩⟩

/-! rows of what is reached -/
theorem snoc_star (ts : List Tok) (s : List UInt8) (k : Nat) : mtch (ts ++ [.star]) (s.take k) = true ↔ ∃ j, j ≤ k ∧ mtch ts (s.take j) = true := by
  rw [mtch_append]
  constructor
  · rintro ⟨a, b, h, h1, _⟩
    have hp : a <+: s := List.IsPrefix.trans ⟨b, h.symm⟩ (List.take_prefix k s)
    have hl : a.length ≤ k := by
      have := congrArg List.length h
      rw [List.length_append, List.length_take] at this
      omega
    refine ⟨a.length, hl, ?_⟩
    rw [List.prefix_iff_eq_take.1 hp] at h1
    exact h1
  · rintro ⟨j, hj, h⟩
    refine ⟨s.take j, (s.take k).drop j, ?_, h, (mtch_star [] _).2 ⟨(s.take k).drop j, [], by simp, rfl⟩⟩
    have := List.take_append_drop j (s.take k)
    rw [List.take_take, Nat.min_eq_left hj] at this
    exact this.symm
theorem snoc_one (ts : List Tok) (f : UInt8 → Bool) (s : List UInt8) (k : Nat) (c : UInt8) (hc : s[k]? = some c) : mtch (ts ++ [.one f]) (s.take (k + 1)) = (mtch ts (s.take k) && f c) := by
  have ht : s.take (k + 1) = s.take k ++ [c] := by
    rw [List.take_add_one, hc]; rfl
  rw [Bool.eq_iff_iff, mtch_append, Bool.and_eq_true, ht]
  constructor
  · rintro ⟨a, b, h, h1, h2⟩
    obtain ⟨d, r, rfl, hf, hr⟩ := (mtch_one f [] b).1 h2
    obtain rfl := (mtch_nil r).1 hr
    obtain ⟨e1, e2⟩ := List.append_inj' h rfl
    injection e2 with e3 _
    rw [e1, e3]
    exact ⟨h1, hf⟩
  · rintro ⟨h1, hf⟩
    exact ⟨s.take k, [c], rfl, h1, (mtch_one f [] _).2 ⟨c, [], rfl, hf, rfl⟩⟩
theorem snoc_one_zero (ts : List Tok) (f : UInt8 → Bool) (s : List UInt8) : mtch (ts ++ [.one f]) (s.take 0) = false := by
  rw [Bool.eq_false_iff]
  intro h
  obtain ⟨a, b, h, _, h2⟩ := (mtch_append ts [.one f] _).1 h
  obtain ⟨d, r, rfl, _, _⟩ := (mtch_one f [] b).1 h2
  simp at h

/-! patterns -/
def livB (v : List Bool) (i : Nat) : Bool := v.getD i false
def byt (t : List UInt8) (i : Nat) : Nat := (t.getD i 0).toNat
def isB (t : List UInt8) (v : List Bool) (i c : Nat) : Bool := if i < t.length then (if livB v i then decide (byt t i = c) else false) else false
def seekB (t : List UInt8) (v : List Bool) : Nat → Nat → Option Nat
  | 0, _ => none
  | n + 1, k => if isB t v k 93 then some k else seekB t v n (k + 1)
/-- where a bracket at i ends -/
def brB (t : List UInt8) (v : List Bool) (i : Nat) : Option Nat := if isB t v i 91 then (if isB t v (i + 1) 33 then seekB t v (t.length - (i + 3)) (i + 3) else seekB t v (t.length - (i + 2)) (i + 2)) else none
def amgo (t : List UInt8) (v : List Bool) (e c : Nat) : Nat → Nat → Bool → Bool
  | 0, _, f => f
  | n + 1, k, f => if k < e then (if (if k + 2 < e then isB t v (k + 1) 45 else false) then amgo t v e c n (k + 3) (f || (decide (byt t k ≤ c) && decide (c ≤ byt t (k + 2)))) else amgo t v e c n (k + 1) (f || decide (c = byt t k))) else f
def amB (t : List UInt8) (v : List Bool) (i e c : Nat) : Bool := if isB t v (i + 1) 33 then !amgo t v e c e (i + 2) false else amgo t v e c e (i + 1) false
def tokAt (t : List UInt8) (v : List Bool) (i : Nat) : Tok := if isB t v i 42 then .star else if isB t v i 63 then .one (fun _ => true) else match brB t v i with
  | some e => .one (fun c => amB t v i e c.toNat)
  | none => .one (fun c => decide (c.toNat = byt t i))
def nextAt (t : List UInt8) (v : List Bool) (i : Nat) : Nat := match brB t v i with
  | some e => e + 1
  | none => i + 1
def toksF (t : List UInt8) (v : List Bool) : Nat → Nat → List Tok
  | 0, _ => []
  | n + 1, i => if i < t.length then tokAt t v i :: toksF t v n (nextAt t v i) else []
def toks (t : List UInt8) (v : List Bool) : List Tok := toksF t v t.length 0
def patB (t : List UInt8) (v : List Bool) (s : List UInt8) : Bool := mtch (toks t v) s
def actAt (t : List UInt8) (v : List Bool) (i : Nat) : Bool := if isB t v i 42 then true else if isB t v i 63 then true else (brB t v i).isSome
def actB (t : List UInt8) (v : List Bool) : Bool := (List.range t.length).any (actAt t v)
def brI : Option Nat → Int
  | some e => e
  | none => -1

theorem isB_lt {t : List UInt8} {v : List Bool} {i c : Nat} (h : isB t v i c = true) : i < t.length := by
  unfold isB at h
  split at h
  · assumption
  · cases h
theorem isB_byte {t : List UInt8} {v : List Bool} {i c : Nat} (h : isB t v i c = true) : byt t i = c := by
  unfold isB at h
  split at h
  · split at h
    · exact of_decide_eq_true h
    · cases h
  · cases h
theorem isB_two {t : List UInt8} {v : List Bool} {i c d : Nat} (h : isB t v i c = true) (hcd : c ≠ d) : isB t v i d = false := by
  rw [Bool.eq_false_iff]
  intro h2
  exact hcd ((isB_byte h).symm.trans (isB_byte h2))
theorem seekB_in {t : List UInt8} {v : List Bool} : ∀ {n k e : Nat}, seekB t v n k = some e → k ≤ e ∧ e < t.length ∧ isB t v e 93 = true
  | 0, _, _, h => by cases h
  | n + 1, k, e, h => by
    unfold seekB at h
    split at h
    · rename_i h1
      injection h with h; subst h
      exact ⟨Nat.le_refl _, isB_lt h1, h1⟩
    · have := seekB_in h
      exact ⟨by omega, this.2⟩
theorem brB_in {t : List UInt8} {v : List Bool} {i e : Nat} (h : brB t v i = some e) : i + 2 ≤ e ∧ e < t.length ∧ isB t v i 91 = true := by
  unfold brB at h
  split at h
  · rename_i h1
    split at h
    · have := seekB_in h; exact ⟨by omega, this.2.1, h1⟩
    · have := seekB_in h; exact ⟨by omega, this.2.1, h1⟩
  · cases h
theorem brB_other {t : List UInt8} {v : List Bool} {i c : Nat} (h : isB t v i c = true) (hc : c ≠ 91) : brB t v i = none := by
  unfold brB
  rw [isB_two h hc]; rfl
theorem next_gt (t : List UInt8) (v : List Bool) (i : Nat) : i < nextAt t v i := by
  unfold nextAt
  cases h : brB t v i with
  | none => exact Nat.lt_succ_self i
  | some e => have := brB_in h; show i < e + 1; omega
theorem next_le {t : List UInt8} {v : List Bool} {i : Nat} (hi : i < t.length) : nextAt t v i ≤ t.length := by
  unfold nextAt
  cases h : brB t v i with
  | none => exact hi
  | some e => have := brB_in h; show e + 1 ≤ t.length; omega
theorem toksF_step {t : List UInt8} {v : List Bool} {n i : Nat} (hi : i < t.length) (hn : t.length ≤ i + n) : ∃ m, toksF t v n i = tokAt t v i :: toksF t v m (nextAt t v i) ∧ t.length ≤ nextAt t v i + m := by
  cases n with
  | zero => omega
  | succ m =>
    have := next_gt t v i
    refine ⟨m, ?_, by omega⟩
    rw [toksF, if_pos hi]
theorem toksF_end {t : List UInt8} {v : List Bool} {n i : Nat} (hi : t.length ≤ i) : toksF t v n i = [] := by
  cases n with
  | zero => rfl
  | succ m => rw [toksF, if_neg (by omega)]
theorem amgo_end {t : List UInt8} {v : List Bool} {e c n k : Nat} {f : Bool} (hk : e ≤ k) : amgo t v e c n k f = f := by
  cases n with
  | zero => rfl
  | succ m => rw [amgo, if_neg (by omega)]
theorem amgo_step {t : List UInt8} {v : List Bool} {e c n k : Nat} {f : Bool} (hk : k < e) (hn : e ≤ k + n) : ∃ m, n = m + 1 ∧ amgo t v e c n k f = if (if k + 2 < e then isB t v (k + 1) 45 else false) then amgo t v e c m (k + 3) (f || (decide (byt t k ≤ c) && decide (c ≤ byt t (k + 2)))) else amgo t v e c m (k + 1) (f || decide (c = byt t k)) := by
  cases n with
  | zero => omega
  | succ m => exact ⟨m, rfl, by rw [amgo, if_pos hk]⟩
end Go.Proofs.Ytmpneifjjnfckaa
