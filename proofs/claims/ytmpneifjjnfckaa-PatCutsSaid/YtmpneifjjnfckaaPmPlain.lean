/-
  Plain facts on plans (no program in it): the tokens of a plan; how states are followed byte by byte, those behind a gap alone; which lengths are told; plans turned round; what is cut.
-/
import Derived.Test.YtmpneifjjnfckaaCutPlain
namespace Go.Proofs.Ytmpneifjjnfckaa

def gapT (g : Bool) : List Tok := if g then [.star] else []
def oneT (f : Nat → Bool) : Tok := .one (fun c => f c.toNat)
/-- the tokens of a plan -/
def planL : List Bool → List (Nat → Bool) → List Tok
  | g :: gs, f :: fs => gapT g ++ oneT f :: planL gs fs
  | g :: _, [] => gapT g
  | [], _ => []
/-- .. without its last gap -/
def planP : List Bool → List (Nat → Bool) → List Tok
  | g :: gs, f :: fs => gapT g ++ oneT f :: planP gs fs
  | _, _ => []

theorem planL_snoc : ∀ (gs : List Bool) (fs : List (Nat → Bool)) (g : Bool), gs.length = fs.length → planL (gs ++ [g]) fs = planP gs fs ++ gapT g
  | [], [], g, _ => by simp [planL, planP]
  | a :: gs, f :: fs, g, h => by
    simp only [List.length_cons, Nat.add_right_cancel_iff] at h
    simp [planL, planP, planL_snoc gs fs g h]
  | [], _ :: _, _, h => by simp at h
  | _ :: _, [], _, h => by simp at h
theorem planP_snoc : ∀ (gs : List Bool) (fs : List (Nat → Bool)) (g : Bool) (f : Nat → Bool), gs.length = fs.length → planP (gs ++ [g]) (fs ++ [f]) = planP gs fs ++ (gapT g ++ [oneT f])
  | [], [], g, f, _ => by simp [planP]
  | a :: gs, b :: fs, g, f, h => by
    simp only [List.length_cons, Nat.add_right_cancel_iff] at h
    simp [planP, planP_snoc gs fs g f h]
  | [], _ :: _, _, _, h => by simp at h
  | _ :: _, [], _, _, h => by simp at h
theorem planL_two : ∀ (gs : List Bool) (fs : List (Nat → Bool)) (g : Bool) (f : Nat → Bool), gs.length = fs.length + 1 → planL (gs ++ [g]) (fs ++ [f]) = planL gs fs ++ oneT f :: gapT g
  | [], _, _, _, h => by simp at h
  | [a], [], g, f, _ => by simp [planL]
  | a :: b :: gs, [], _, _, h => by simp at h
  | a :: gs, b :: fs, g, f, h => by
    simp only [List.length_cons, Nat.add_right_cancel_iff] at h
    simp [planL, planL_two gs fs g f h]
theorem gapT_rev (g : Bool) : (gapT g).reverse = gapT g := by cases g <;> rfl
theorem planL_rev : ∀ (gs : List Bool) (fs : List (Nat → Bool)), gs.length = fs.length + 1 → (planL gs fs).reverse = planL gs.reverse fs.reverse
  | [], _, h => by simp at h
  | [a], [], _ => by simp [planL, gapT_rev]
  | a :: b :: gs, [], h => by simp at h
  | a :: gs, b :: fs, h => by
    simp only [List.length_cons, Nat.add_right_cancel_iff] at h
    have e : (gapT a ++ oneT b :: planL gs fs).reverse = (planL gs fs).reverse ++ oneT b :: gapT a := by simp [gapT_rev]
    rw [List.reverse_cons, List.reverse_cons, planL_two _ _ _ _ (by simpa using h), ← planL_rev gs fs h]
    exact e

theorem star_two (ts : List Tok) (l : List UInt8) : mtch (.star :: .star :: ts) l = mtch (.star :: ts) l := by
  rw [Bool.eq_iff_iff, mtch_star, mtch_star]
  constructor
  · rintro ⟨a, b, rfl, h⟩
    obtain ⟨c, d, rfl, h2⟩ := (mtch_star ts b).1 h
    exact ⟨a ++ c, d, by simp, h2⟩
  · rintro ⟨a, b, rfl, h⟩
    exact ⟨a, b, rfl, (mtch_star ts b).2 ⟨[], b, rfl, h⟩⟩
/-- a star behind a gap is that gap -/
theorem gap_star (P : List Tok) (g : Bool) (r : List Tok) (l : List UInt8) : mtch (P ++ (gapT g ++ .star :: r)) l = mtch (P ++ (gapT true ++ r)) l := by
  cases g with
  | false => rfl
  | true =>
    rw [Bool.eq_iff_iff, mtch_append, mtch_append]
    have e : ∀ b, mtch (gapT true ++ .star :: r) b = mtch (gapT true ++ r) b := fun b => star_two r b
    simp only [e]

/-! turned round -/
theorem mtch_rev : ∀ (ts : List Tok) (l : List UInt8), mtch ts.reverse l.reverse = true ↔ mtch ts l = true
  | [], l => by rw [List.reverse_nil, mtch_nil, mtch_nil, List.reverse_eq_nil_iff]
  | .star :: ts, l => by
    rw [List.reverse_cons, mtch_append, mtch_star]
    constructor
    · rintro ⟨a, b, h, h1, _⟩
      refine ⟨b.reverse, a.reverse, ?_, ?_⟩
      · rw [← List.reverse_append, ← h, List.reverse_reverse]
      · rw [← mtch_rev ts, List.reverse_reverse]; exact h1
    · rintro ⟨a, b, rfl, h⟩
      exact ⟨b.reverse, a.reverse, by simp, (mtch_rev ts b).2 h, (mtch_star [] _).2 ⟨a.reverse, [], by simp, rfl⟩⟩
  | .one f :: ts, l => by
    rw [List.reverse_cons, mtch_append, mtch_one]
    constructor
    · rintro ⟨a, b, h, h1, h2⟩
      obtain ⟨c, r, rfl, hf, hr⟩ := (mtch_one f [] b).1 h2
      obtain rfl := (mtch_nil r).1 hr
      refine ⟨c, a.reverse, ?_, hf, ?_⟩
      · have := congrArg List.reverse h
        simpa using this
      · rw [← mtch_rev ts, List.reverse_reverse]; exact h1
    · rintro ⟨c, r, rfl, hf, h⟩
      exact ⟨r.reverse, [c], by simp, (mtch_rev ts r).2 h, (mtch_one f [] _).2 ⟨c, [], rfl, hf, rfl⟩⟩

/-! states -/
section
variable (gs : List Bool) (fs : List (Nat → Bool))
def gapB (k : Nat) : Bool := gs.getD k false
def takB (k c : Nat) : Bool := match fs[k]? with
  | some f => f c
  | none => false
def sufT (k : Nat) : List Tok := planL (gs.drop k) (fs.drop k)
/-- the states behind one more byte -/
def aft (c : Nat) : List Nat → List Nat → List Nat
  | [], nx => nx
  | k :: ds, nx => aft c ds (if takB fs k c then (if gapB gs k then [k] else nx) ++ [k + 1] else (if gapB gs k then [k] else nx))

variable {gs fs}
theorem suf_at {k : Nat} (hl : gs.length = fs.length + 1) (hk : k < fs.length) : sufT gs fs k = gapT (gapB gs k) ++ oneT fs[k] :: sufT gs fs (k + 1) := by
  have hg : k < gs.length := by omega
  unfold sufT gapB
  rw [List.drop_eq_getElem_cons hg, List.drop_eq_getElem_cons hk, planL, List.getD_eq_getElem?_getD, List.getElem?_eq_getElem hg]
  rfl
theorem suf_end (hl : gs.length = fs.length + 1) : sufT gs fs fs.length = gapT (gapB gs fs.length) := by
  have hg : fs.length < gs.length := by omega
  unfold sufT gapB
  rw [List.drop_eq_getElem_cons hg, List.drop_length, planL, List.getD_eq_getElem?_getD, List.getElem?_eq_getElem hg]
  rfl
theorem suf_nil {k : Nat} (hl : gs.length = fs.length + 1) (hk : k ≤ fs.length) : mtch (sufT gs fs k) [] = true ↔ k = fs.length := by
  by_cases h : k = fs.length
  · subst h
    rw [suf_end hl]
    cases gapB gs fs.length
    · exact ⟨fun _ => rfl, fun _ => rfl⟩
    · exact ⟨fun _ => rfl, fun _ => rfl⟩
  · rw [suf_at hl (by omega)]
    refine ⟨fun hm => absurd hm ?_, fun h' => absurd h' h⟩
    rw [mtch_append]
    rintro ⟨a, b, hab, _, h2⟩
    obtain ⟨c, r, rfl, _⟩ := (mtch_one _ _ b).1 h2
    simp at hab
theorem gap_or (g : Bool) (r : List Tok) (c : UInt8) (u : List UInt8) : mtch (gapT g ++ r) (c :: u) = true ↔ (g = true ∧ mtch (gapT g ++ r) u = true) ∨ mtch r (c :: u) = true := by
  cases g with
  | false => exact ⟨.inr, fun h => h.elim (fun h => (by cases h.1)) id⟩
  | true =>
    show mtch (.star :: r) (c :: u) = true ↔ (true = true ∧ mtch (.star :: r) u = true) ∨ _
    rw [mtch_star, mtch_star]
    constructor
    · rintro ⟨a, b, h, hm⟩
      cases a with
      | nil => right; rw [show c :: u = b from h]; exact hm
      | cons d a =>
        injection h with h1 h2
        exact .inl ⟨rfl, a, b, h2, hm⟩
    · rintro (⟨_, a, b, rfl, hm⟩ | hm)
      · exact ⟨c :: a, b, rfl, hm⟩
      · exact ⟨[], c :: u, rfl, hm⟩
theorem suf_step {k : Nat} (hl : gs.length = fs.length + 1) (hk : k ≤ fs.length) (c : UInt8) (u : List UInt8) :
    mtch (sufT gs fs k) (c :: u) = true ↔ (gapB gs k = true ∧ mtch (sufT gs fs k) u = true) ∨ (takB fs k c.toNat = true ∧ mtch (sufT gs fs (k + 1)) u = true) := by
  by_cases h : k = fs.length
  · subst h
    have ht : takB fs fs.length c.toNat = false := by unfold takB; rw [List.getElem?_eq_none (Nat.le_refl _)]
    rw [suf_end hl, ht]
    have := gap_or (gapB gs fs.length) [] c u
    rw [List.append_nil] at this
    rw [this]
    have hn : ¬ mtch [] (c :: u) = true := by rw [mtch_nil]; simp
    constructor
    · rintro (h | h)
      · exact .inl h
      · exact absurd h hn
    · rintro (h | h)
      · exact .inl h
      · cases h.1
  · have hk2 : k < fs.length := by omega
    have ht : takB fs k c.toNat = fs[k] c.toNat := by unfold takB; rw [List.getElem?_eq_getElem hk2]
    rw [suf_at hl hk2, gap_or, ht]
    refine or_congr Iff.rfl ?_
    unfold oneT
    rw [mtch_one]
    constructor
    · rintro ⟨d, r, h1, h2, h3⟩
      injection h1 with e1 e2
      subst e1; subst e2
      exact ⟨h2, h3⟩
    · rintro ⟨h2, h3⟩
      exact ⟨c, u, rfl, h2, h3⟩
theorem suf_split (hl : gs.length = fs.length + 1) : ∀ (d : Nat) {j : Nat}, j + d ≤ fs.length → ∃ P, sufT gs fs j = P ++ sufT gs fs (j + d)
  | 0, j, _ => ⟨[], rfl⟩
  | d + 1, j, h => by
    obtain ⟨P, hP⟩ := suf_split hl d (j := j + 1) (by omega)
    refine ⟨gapT (gapB gs j) ++ oneT fs[j] :: P, ?_⟩
    rw [suf_at hl (by omega), hP, show j + 1 + d = j + (d + 1) by omega]
    simp
theorem suf_mono {j k : Nat} (hl : gs.length = fs.length + 1) (hjk : j ≤ k) (hk : k ≤ fs.length) (hg : gapB gs k = true) {u : List UInt8} (h : mtch (sufT gs fs j) u = true) : mtch (sufT gs fs k) u = true := by
  obtain ⟨P, hP⟩ := suf_split hl (k - j) (j := j) (by omega)
  rw [show j + (k - j) = k by omega] at hP
  rw [hP] at h
  obtain ⟨a, b, rfl, _, h2⟩ := (mtch_append _ _ _).1 h
  have hs : ∃ r, sufT gs fs k = .star :: r := by
    by_cases he : k = fs.length
    · subst he; exact ⟨[], by rw [suf_end hl, hg]; rfl⟩
    · exact ⟨_, by rw [suf_at hl (by omega), hg]; rfl⟩
  obtain ⟨r, hr⟩ := hs
  rw [hr] at h2 ⊢
  obtain ⟨x, y, rfl, h3⟩ := (mtch_star r b).1 h2
  exact (mtch_star r _).2 ⟨a ++ x, y, by simp, h3⟩

/-- rising, and none beyond the last -/
structure RiseOk (K : Nat) (ds : List Nat) : Prop where
  rise : ds.Pairwise (· < ·)
  le : ∀ k ∈ ds, k ≤ K
def cover (gs : List Bool) (fs : List (Nat → Bool)) (ds : List Nat) (u : List UInt8) : Prop := ∃ k ∈ ds, mtch (sufT gs fs k) u = true

theorem takB_lt {k c : Nat} (h : takB fs k c = true) : k < fs.length := by
  unfold takB at h
  rcases Nat.lt_or_ge k fs.length with h1 | h1
  · exact h1
  · rw [List.getElem?_eq_none h1] at h; cases h
theorem aft_all (hl : gs.length = fs.length + 1) (c : UInt8) (u : List UInt8) : ∀ (ds nx : List Nat), RiseOk fs.length ds → RiseOk fs.length nx → (∀ k ∈ ds, ∀ x ∈ nx, x ≤ k) →
    RiseOk fs.length (aft gs fs c.toNat ds nx) ∧ (cover gs fs (aft gs fs c.toNat ds nx) u ↔ cover gs fs nx u ∨ cover gs fs ds (c :: u))
  | [], nx, _, h2, _ => ⟨h2, ⟨.inl, fun h => h.elim id (fun ⟨k, hk, _⟩ => (by cases hk))⟩⟩
  | k :: ds, nx, h1, h2, h3 => by
    have hk : k ≤ fs.length := h1.le k (by simp)
    have hds : ∀ x ∈ ds, k < x := by have := h1.rise; rw [List.pairwise_cons] at this; exact this.1
    have hds2 : RiseOk fs.length ds := ⟨by have := h1.rise; rw [List.pairwise_cons] at this; exact this.2, fun x hx => h1.le x (List.mem_cons_of_mem _ hx)⟩
    -- what is kept of those ahead
    obtain ⟨n1, hn1⟩ : ∃ n1, (if gapB gs k then [k] else nx) = n1 := ⟨_, rfl⟩
    have o1 : RiseOk fs.length n1 ∧ (∀ x ∈ n1, x ≤ k) ∧ (cover gs fs n1 u ↔ cover gs fs nx u ∨ (gapB gs k = true ∧ mtch (sufT gs fs k) u = true)) := by
      cases hg : gapB gs k with
      | true =>
        rw [hg] at hn1
        simp only [if_true] at hn1
        subst hn1
        refine ⟨⟨List.pairwise_singleton _ _, fun x hx => by rw [List.mem_singleton.1 hx]; exact hk⟩, fun x hx => by rw [List.mem_singleton.1 hx]; exact Nat.le_refl _, ?_⟩
        constructor
        · rintro ⟨x, hx, hm⟩
          rw [List.mem_singleton.1 hx] at hm
          exact .inr ⟨rfl, hm⟩
        · rintro (⟨x, hx, hm⟩ | ⟨_, hm⟩)
          · exact ⟨k, by simp, suf_mono hl (h3 k (by simp) x hx) hk hg hm⟩
          · exact ⟨k, by simp, hm⟩
      | false =>
        rw [hg] at hn1
        simp only [Bool.false_eq_true, if_false] at hn1
        subst hn1
        exact ⟨h2, fun x hx => h3 k (by simp) x hx, ⟨.inl, fun h => h.elim id (fun h => (by cases h.1))⟩⟩
    obtain ⟨n2, hn2⟩ : ∃ n2, (if takB fs k c.toNat then n1 ++ [k + 1] else n1) = n2 := ⟨_, rfl⟩
    have o2 : RiseOk fs.length n2 ∧ (∀ x ∈ n2, x ≤ k + 1) ∧ (cover gs fs n2 u ↔ cover gs fs n1 u ∨ (takB fs k c.toNat = true ∧ mtch (sufT gs fs (k + 1)) u = true)) := by
      cases ht : takB fs k c.toNat with
      | true =>
        rw [ht] at hn2
        simp only [if_true] at hn2
        subst hn2
        have hkl := takB_lt ht
        refine ⟨⟨?_, ?_⟩, ?_, ?_⟩
        · rw [List.pairwise_append]
          exact ⟨o1.1.rise, List.pairwise_singleton _ _, fun a ha b hb => by rw [List.mem_singleton.1 hb]; have := o1.2.1 a ha; omega⟩
        · intro x hx
          rcases List.mem_append.1 hx with h | h
          · exact o1.1.le x h
          · rw [List.mem_singleton.1 h]; omega
        · intro x hx
          rcases List.mem_append.1 hx with h | h
          · have := o1.2.1 x h; omega
          · rw [List.mem_singleton.1 h]; exact Nat.le_refl _
        · constructor
          · rintro ⟨x, hx, hm⟩
            rcases List.mem_append.1 hx with h | h
            · exact .inl ⟨x, h, hm⟩
            · rw [List.mem_singleton.1 h] at hm; exact .inr ⟨rfl, hm⟩
          · rintro (⟨x, hx, hm⟩ | ⟨_, hm⟩)
            · exact ⟨x, List.mem_append.2 (.inl hx), hm⟩
            · exact ⟨k + 1, List.mem_append.2 (.inr (by simp)), hm⟩
      | false =>
        rw [ht] at hn2
        simp only [Bool.false_eq_true, if_false] at hn2
        subst hn2
        exact ⟨o1.1, fun x hx => by have := o1.2.1 x hx; omega, ⟨.inl, fun h => h.elim id (fun h => (by cases h.1))⟩⟩
    have e : aft gs fs c.toNat (k :: ds) nx = aft gs fs c.toNat ds n2 := by rw [aft, hn1, hn2]
    have IH := aft_all hl c u ds n2 hds2 o2.1 (fun d hd x hx => by have := hds d hd; have := o2.2.1 x hx; omega)
    rw [e]
    refine ⟨IH.1, ?_⟩
    rw [IH.2, o2.2.2, o1.2.2]
    have hst := suf_step hl hk c u
    constructor
    · rintro (((h | h) | h) | ⟨x, hx, hm⟩)
      · exact .inl h
      · exact .inr ⟨k, by simp, hst.2 (.inl h)⟩
      · exact .inr ⟨k, by simp, hst.2 (.inr h)⟩
      · exact .inr ⟨x, List.mem_cons_of_mem _ hx, hm⟩
    · rintro (h | ⟨x, hx, hm⟩)
      · exact .inl (.inl (.inl h))
      · rcases List.mem_cons.1 hx with h | h
        · subst h
          rcases hst.1 hm with h | h
          · exact .inl (.inl (.inr h))
          · exact .inl (.inr h)
        · exact .inr ⟨x, h, hm⟩

/-- the states behind n bytes -/
def dn (gs : List Bool) (fs : List (Nat → Bool)) (S : List UInt8) : Nat → List Nat
  | 0 => [0]
  | n + 1 => aft gs fs (S.getD n 0).toNat (dn gs fs S n) []
theorem dn_all (hl : gs.length = fs.length + 1) (S : List UInt8) : ∀ n, n ≤ S.length → RiseOk fs.length (dn gs fs S n) ∧ ∀ u, cover gs fs (dn gs fs S n) u ↔ mtch (planL gs fs) (S.take n ++ u) = true
  | 0, _ => ⟨⟨List.pairwise_singleton _ _, fun x hx => by rw [List.mem_singleton.1 hx]; exact Nat.zero_le _⟩, fun u => by
      unfold dn cover
      simp [sufT]⟩
  | n + 1, hn => by
    have IH := dn_all hl S n (by omega)
    have A := fun u => aft_all hl (S.getD n 0) u (dn gs fs S n) [] IH.1 ⟨List.Pairwise.nil, fun x hx => (by cases hx)⟩ (fun _ _ x hx => (by cases hx))
    refine ⟨(A []).1, fun u => ?_⟩
    rw [dn, (A u).2, IH.2]
    have e : S.take (n + 1) ++ u = S.take n ++ S.getD n 0 :: u := by
      have hlt : n < S.length := by omega
      have e0 : S.getD n 0 = S[n] := by rw [List.getD_eq_getElem?_getD, List.getElem?_eq_getElem hlt]; rfl
      rw [e0, List.take_succ_eq_append_getElem hlt, List.append_assoc]
      rfl
    rw [e]
    exact ⟨fun h => h.elim (fun ⟨x, hx, _⟩ => (by cases hx)) id, .inr⟩
/-- is a beginning of this length told? -/
def lenB (gs : List Bool) (fs : List (Nat → Bool)) (S : List UInt8) (n : Nat) : Bool := mtch (planL gs fs) (S.take n)
theorem dn_len (hl : gs.length = fs.length + 1) (S : List UInt8) (n : Nat) (hn : n ≤ S.length) : lenB gs fs S n = true ↔ fs.length ∈ dn gs fs S n := by
  have A := dn_all hl S n hn
  unfold lenB
  have := A.2 []
  rw [List.append_nil] at this
  rw [← this]
  constructor
  · rintro ⟨k, hk, hm⟩
    rw [(suf_nil hl (A.1.le k hk)).1 hm] at hk
    exact hk
  · intro h
    exact ⟨_, h, (suf_nil hl (Nat.le_refl _)).2 rfl⟩
theorem dn_none (hl : gs.length = fs.length + 1) (S : List UInt8) (n m : Nat) (hn : n ≤ m) (hm : m ≤ S.length) (h : dn gs fs S n = []) : lenB gs fs S m = false := by
  rw [Bool.eq_false_iff]
  intro h2
  unfold lenB at h2
  have A := (dn_all hl S n (by omega)).2 ((S.take m).drop n)
  have e : S.take n ++ (S.take m).drop n = S.take m := by
    have := List.take_append_drop n (S.take m)
    rw [List.take_take, Nat.min_eq_left hn] at this
    exact this
  rw [e] at A
  obtain ⟨k, hk, _⟩ := A.2 h2
  rw [h] at hk
  cases hk
theorem last_mem {K : Nat} {ds : List Nat} (h : RiseOk K ds) (d : Nat) (hd : ds.getLast? = some d) : d = K ↔ K ∈ ds := by
  constructor
  · intro e; rw [← e]; exact List.mem_of_getLast? hd
  · intro hK
    obtain ⟨l, rfl⟩ : ∃ l, ds = l ++ [d] := by
      obtain ⟨l, hl⟩ := List.getLast?_eq_some_iff.1 hd
      exact ⟨l, hl⟩
    rcases List.mem_append.1 hK with h1 | h1
    · have h2 := h.rise
      rw [List.pairwise_append] at h2
      have h3 := h2.2.2 K h1 d (by simp)
      have h4 := h.le d (by simp)
      omega
    · exact (List.mem_singleton.1 h1).symm
end

/-! the lengths that are told -/
def lensTo (gs : List Bool) (fs : List (Nat → Bool)) (S : List UInt8) (n : Nat) : List Nat := (List.range n).filter (lenB gs fs S)
theorem lensTo_succ (gs : List Bool) (fs : List (Nat → Bool)) (S : List UInt8) (n : Nat) : lensTo gs fs S (n + 1) = lensTo gs fs S n ++ (if lenB gs fs S n then [n] else []) := by
  unfold lensTo
  rw [List.range_succ, List.filter_append]
  cases h : lenB gs fs S n <;> simp [h]
def lensL (gs : List Bool) (fs : List (Nat → Bool)) (S : List UInt8) : List Nat := lensTo gs fs S (S.length + 1)
theorem lensTo_pre (gs : List Bool) (fs : List (Nat → Bool)) (S : List UInt8) : ∀ (d : Nat) {n : Nat}, lensTo gs fs S n <+: lensTo gs fs S (n + d)
  | 0, _ => List.prefix_refl _
  | d + 1, n => (lensTo_pre gs fs S d).trans (by rw [← Nat.add_assoc, lensTo_succ]; exact List.prefix_append _ _)
theorem lensTo_stop (gs : List Bool) (fs : List (Nat → Bool)) (S : List UInt8) {n : Nat} : ∀ (d : Nat), (∀ m, n ≤ m → m < n + d → lenB gs fs S m = false) → lensTo gs fs S (n + d) = lensTo gs fs S n
  | 0, _ => rfl
  | d + 1, h => by
    rw [← Nat.add_assoc, lensTo_succ, h (n + d) (by omega) (by omega), lensTo_stop gs fs S d (fun m h1 h2 => h m h1 (by omega))]
    simp
theorem mem_lensL (gs : List Bool) (fs : List (Nat → Bool)) (S : List UInt8) (n : Nat) : n ∈ lensL gs fs S ↔ n ≤ S.length ∧ lenB gs fs S n = true := by
  unfold lensL lensTo
  rw [List.mem_filter, List.mem_range]
  exact and_congr_left fun _ => by omega
end Go.Proofs.Ytmpneifjjnfckaa
