/-
  Plain facts on shapes that are Ok (no program in it): what Ok, May, Leq and Join say, and their laws.
-/
import Derived.Test.YtjdhidiocchkeaaShPlain
namespace Go.Proofs.Ytjdhidiocchkeaa

theorem noS_iff (p : Nat → Bool) : sameS p noS = true ↔ ∀ c, c < 256 → p c = false := sameS_iff p noS
theorem or_cases {a b : Bool} (h : (a || b) = true) : a = true ∨ b = true := by cases a <;> simp_all
theorem bfalse {b : Bool} (h : ¬ b = true) : b = false := by cases b <;> simp_all

/-- x's fields agree -/
structure OkP (x : Sh) : Prop where
  zero : x.h 0 = false
  lit : x.k = true → (x.l.size ≤ 64 ∧ ofS x.l.data.toList 0 = false) ∧ (∀ c, c < 256 → x.h c = ofS x.l.data.toList c) ∧ x.e = empB x.l
  no : x.k = false → x.l = ⟨#[]⟩

theorem kept_iff (s : ByteArray) : keptB s = true ↔ s.size ≤ 64 ∧ ofS s.data.toList 0 = false := by
  unfold keptB
  simp

theorem okB_iff (x : Sh) : okB x = true ↔ OkP x := by
  constructor
  · intro h
    unfold okB at h
    rcases Bool.eq_false_or_eq_true (x.h 0) with h0 | h0
    · rw [h0] at h; cases h
    · rw [h0] at h
      rcases Bool.eq_false_or_eq_true x.k with hk | hk
      · rw [hk] at h
        rcases Bool.eq_false_or_eq_true (keptB x.l) with h1 | h1
        · rw [h1] at h
          rcases Bool.eq_false_or_eq_true (sameS x.h (ofS x.l.data.toList)) with h2 | h2
          · rw [h2] at h
            exact ⟨h0, fun _ => ⟨(kept_iff x.l).1 h1, (sameS_iff _ _).1 h2, by simpa using h⟩, fun h' => (by rw [hk] at h'; cases h')⟩
          · rw [h2] at h; cases h
        · rw [h1] at h; cases h
      · rw [hk] at h
        exact ⟨h0, fun h' => (by rw [hk] at h'; cases h'), fun _ => (empB_iff x.l).1 h⟩
  · rintro ⟨h0, h1, h2⟩
    unfold okB
    rw [h0]
    rcases Bool.eq_false_or_eq_true x.k with hk | hk
    · obtain ⟨h3, h4, h5⟩ := h1 hk
      rw [hk, (kept_iff x.l).2 h3, (sameS_iff _ _).2 h4, h5]
      simp
    · rw [hk]
      exact (empB_iff x.l).2 (h2 hk)

theorem nz_zero (p : Nat → Bool) : nz p 0 = false := by unfold nz; simp
theorem ofSh_ok (p : Nat → Bool) (e : Bool) : OkP (ofSh p e) := ⟨nz_zero p, fun h => (by cases h), fun _ => rfl⟩
theorem litSh_k (s : ByteArray) (h : keptB s = true) : litSh s = ⟨false, empB s, ofS s.data.toList, true, s⟩ := by unfold litSh; rw [h]; rfl
theorem litSh_n (s : ByteArray) (h : keptB s = false) : litSh s = ofSh (ofS s.data.toList) (empB s) := by unfold litSh; rw [h]; rfl
theorem litSh_ok (s : ByteArray) : OkP (litSh s) := by
  rcases Bool.eq_false_or_eq_true (keptB s) with h | h
  · rw [litSh_k s h]
    have h1 := (kept_iff s).1 h
    exact ⟨h1.2, fun _ => ⟨h1, fun _ _ => rfl, rfl⟩, fun h' => (by cases h')⟩
  · rw [litSh_n s h]
    exact ofSh_ok _ _
theorem OkP.u {x : Sh} (h : OkP x) (v : Bool) : OkP { x with u := v } := ⟨h.zero, h.lit, h.no⟩
theorem tame_ok (x : Sh) : OkP (tameSh x) := by
  unfold tameSh
  cases x.k with
  | true => exact (litSh_ok _).u x.u
  | false => exact ⟨nz_zero x.h, fun h => (by cases h), fun _ => rfl⟩
theorem any_ok : OkP anySh := ⟨rfl, fun h => (by cases h), fun _ => rfl⟩
theorem zero_ok : OkP zeroSh := ⟨rfl, fun h => (by cases h), fun _ => rfl⟩

theorem emp_of (s : ByteArray) (h : empB s = true) (c : Nat) : ofS s.data.toList c = false := by
  rw [(empB_list s).1 h]; rfl
theorem some_of (s : ByteArray) (h : empB s = false) : ∃ c, c < 256 ∧ ofS s.data.toList c = true := by
  cases hl : s.data.toList with
  | nil => rw [(empB_list s).2 hl] at h; cases h
  | cons b l => exact ⟨b.toNat, b.toNat_lt, (ofS_iff _ _).2 ⟨b, List.mem_cons_self .., rfl⟩⟩
theorem no_both {b : Bool} (h1 : b = true) (h2 : b = false) {P : Prop} : P := by rw [h1] at h2; cases h2
theorem some_in (p : Nat → Bool) (h : sameS p noS = false) : ∃ c, c < 256 ∧ p c = true := by
  refine Classical.byContradiction fun hn => ?_
  exact no_both ((noS_iff p).2 fun c hc => bfalse fun h1 => hn ⟨c, hc, h1⟩) h

/-- could it be set? -/
def Could (x : Sh) : Prop := x.e = true ∨ ∃ c, c < 256 ∧ x.h c = true

theorem could_iff {x : Sh} (h : OkP x) : couldB x = true ↔ Could x := by
  rcases Bool.eq_false_or_eq_true x.k with hk | hk
  · obtain ⟨_, h2, h3⟩ := h.lit hk
    refine ⟨fun _ => ?_, fun _ => by unfold couldB; rw [hk]; rfl⟩
    rcases Bool.eq_false_or_eq_true (empB x.l) with he | he
    · exact .inl (by rw [h3, he])
    · obtain ⟨c, hc, h4⟩ := some_of x.l he
      exact .inr ⟨c, hc, by rw [h2 c hc, h4]⟩
  · rcases Bool.eq_false_or_eq_true x.e with he | he
    · exact ⟨fun _ => .inl he, fun _ => by unfold couldB; rw [hk, he]; rfl⟩
    · have e1 : couldB x = !sameS x.h noS := by unfold couldB; rw [hk, he]; rfl
      rw [e1]
      constructor
      · intro hs
        exact .inr (some_in _ (by simpa using hs))
      · rintro (h1 | ⟨c, hc, h1⟩)
        · exact no_both h1 he
        · have : sameS x.h noS = false := bfalse fun hs => no_both h1 ((noS_iff _).1 hs c hc)
          rw [this]; rfl
theorem could_no {x : Sh} (h : OkP x) (hc : couldB x = false) : x.e = false ∧ (∀ c, c < 256 → x.h c = false) ∧ x.k = false ∧ x.l = ⟨#[]⟩ := by
  have hn : ¬ Could x := fun h1 => no_both ((could_iff h).2 h1) hc
  have hk : x.k = false := bfalse fun hk => no_both (show couldB x = true by unfold couldB; rw [hk]; rfl) hc
  exact ⟨bfalse fun h1 => hn (.inl h1), fun c hc => bfalse fun h1 => hn (.inr ⟨c, hc, h1⟩), hk, h.no hk⟩

/-- may it be set and v? -/
theorem may_iff {x : Sh} (h : OkP x) (v : ByteArray) : mayB x true v = true ↔ (x.k = true → x.l = v) ∧ (empB v = true → x.e = true) ∧ (∀ c, c < 256 → ofS v.data.toList c = true → x.h c = true) := by
  rcases Bool.eq_false_or_eq_true x.k with hk | hk
  · obtain ⟨_, h2, h3⟩ := h.lit hk
    rw [show mayB x true v = eqB x.l v by unfold mayB; rw [hk]; rfl, eqB_iff]
    constructor
    · rintro rfl
      exact ⟨fun _ => rfl, fun he => by rw [h3, he], fun c hc h4 => by rw [h2 c hc, h4]⟩
    · intro h4; exact h4.1 hk
  · rcases Bool.eq_false_or_eq_true (empB v) with he | he
    · rw [show mayB x true v = x.e by unfold mayB; rw [hk, he]; rfl]
      exact ⟨fun h1 => ⟨fun h' => no_both h' hk, fun _ => h1, fun c _ h4 => no_both h4 (emp_of v he c)⟩, fun h1 => h1.2.1 he⟩
    · rw [show mayB x true v = subS (ofS v.data.toList) x.h by unfold mayB; rw [hk, he]; rfl, subS_iff]
      exact ⟨fun h1 => ⟨fun h' => no_both h' hk, fun h' => no_both h' he, h1⟩, fun h1 => h1.2.2⟩

/-- b may be all that a may -/
structure Le (a b : Sh) : Prop where
  u : a.u = true → b.u = true
  e : a.e = true → b.e = true
  h : ∀ c, c < 256 → a.h c = true → b.h c = true
  k : b.k = true → Could a → (a.k = true ∧ a.l = b.l) ∨ (a.k = false ∧ (∀ c, c < 256 → a.h c = false) ∧ b.l = ⟨#[]⟩)

theorem guard_u (a b : Sh) : (if a.u then !b.u else false) = false ∧ (a.u = true → b.u = true) ∨ (if a.u then !b.u else false) = true ∧ ¬ (a.u = true → b.u = true) := by
  cases a.u <;> cases b.u <;> simp

theorem leqP_iff {a b : Sh} (ha : OkP a) (hb : OkP b) : leqP a b = true ↔ Le a b := by
  have hM := may_iff hb
  rcases guard_u a b with ⟨hu2, hu⟩ | ⟨hu2, hu⟩
  · rcases Bool.eq_false_or_eq_true a.k with hk | hk
    · obtain ⟨_, h2, h3⟩ := ha.lit hk
      have hc := (could_iff ha).1 (by unfold couldB; rw [hk]; rfl)
      rw [show leqP a b = mayB b true a.l by unfold leqP; rw [hu2, hk]; rfl, hM a.l]
      constructor
      · rintro ⟨p1, p2, p3⟩
        exact ⟨hu, fun h => p2 (by rw [← h3]; exact h), fun c hc h => p3 c hc (by rw [← h2 c hc]; exact h), fun h _ => .inl ⟨hk, (p1 h).symm⟩⟩
      · rintro ⟨_, p2, p3, p4⟩
        refine ⟨fun h => ?_, fun h => p2 (by rw [h3]; exact h), fun c hc h => p3 c hc (by rw [h2 c hc]; exact h)⟩
        rcases p4 h hc with ⟨_, p5⟩ | ⟨p5, _⟩
        · exact p5.symm
        · exact no_both hk p5
    · have e0 : empB ⟨#[]⟩ = true := (empB_iff _).2 rfl
      have hE : (if a.e then !mayB b true ⟨#[]⟩ else false) = false ↔ (a.e = true → (b.k = true → b.l = ⟨#[]⟩) ∧ b.e = true) := by
        rcases Bool.eq_false_or_eq_true a.e with he | he
        · rw [he, if_pos rfl, Bool.not_eq_false', hM]
          exact ⟨fun ⟨p, q, _⟩ _ => ⟨p, q e0⟩, fun hpq => ⟨(hpq rfl).1, fun _ => (hpq rfl).2, fun c _ h => no_both h (emp_of _ e0 c)⟩⟩
        · rw [he]; simp
      rcases Bool.eq_false_or_eq_true (if a.e then !mayB b true ⟨#[]⟩ else false) with hG | hG
      · rw [show leqP a b = false by unfold leqP; rw [hu2, hk, hG]; rfl]
        refine ⟨fun h => (by cases h), fun p => ?_⟩
        refine no_both hG (hE.2 fun h => ⟨fun h5 => ?_, p.e h⟩)
        rcases p.k h5 (.inl h) with ⟨p6, _⟩ | ⟨_, _, p6⟩
        · exact no_both p6 hk
        · exact p6
      · have hG2 := hE.1 hG
        rcases Bool.eq_false_or_eq_true (sameS a.h noS) with hN | hN
        · have hN2 := (noS_iff _).1 hN
          rw [show leqP a b = true by unfold leqP; rw [hu2, hk, hG, hN]; rfl]
          refine ⟨fun _ => ⟨hu, fun h => (hG2 h).2, fun c hc h => no_both h (hN2 c hc), fun h hc => .inr ⟨hk, hN2, ?_⟩⟩, fun _ => rfl⟩
          rcases hc with h1 | ⟨c, hc, h1⟩
          · exact (hG2 h1).1 h
          · exact no_both h1 (hN2 c hc)
        · obtain ⟨c, hc, h1⟩ := some_in _ hN
          rcases Bool.eq_false_or_eq_true b.k with hbk | hbk
          · rw [show leqP a b = false by unfold leqP; rw [hu2, hk, hG, hN, hbk]; rfl]
            refine ⟨fun h => (by cases h), fun p => ?_⟩
            rcases p.k hbk (.inr ⟨c, hc, h1⟩) with ⟨p6, _⟩ | ⟨_, p6, _⟩
            · exact no_both p6 hk
            · exact no_both h1 (p6 c hc)
          · rw [show leqP a b = subS a.h b.h by unfold leqP; rw [hu2, hk, hG, hN, hbk]; rfl, subS_iff]
            exact ⟨fun h => ⟨hu, fun h1 => (hG2 h1).2, h, fun h' => no_both h' hbk⟩, fun h => h.h⟩
  · rw [show leqP a b = false by unfold leqP; rw [hu2]; rfl]
    exact ⟨fun h => (by cases h), fun h => absurd h.u hu⟩

theorem leqR_iff {a b : Sh} (ha : OkP a) (hb : OkP b) : leqR a b = true ↔ Le a b := by
  rcases guard_u a b with ⟨hu2, hu⟩ | ⟨hu2, hu⟩
  · rcases Bool.eq_false_or_eq_true (couldB a) with hc | hc
    · have hc2 := (could_iff ha).1 hc
      rcases Bool.eq_false_or_eq_true b.k with hbk | hbk
      · obtain ⟨_, hb2, hb3⟩ := hb.lit hbk
        rcases Bool.eq_false_or_eq_true a.k with hk | hk
        · obtain ⟨_, h2, h3⟩ := ha.lit hk
          rw [show leqR a b = eqB a.l b.l by unfold leqR; rw [hu2, hc, hbk, hk]; cases eqB a.l b.l <;> rfl, eqB_iff]
          constructor
          · intro hq2
            exact ⟨hu, fun h => by rw [hb3, ← hq2, ← h3]; exact h, fun c hc h => by rw [hb2 c hc, ← hq2, ← h2 c hc]; exact h, fun _ _ => .inl ⟨hk, hq2⟩⟩
          · intro p
            rcases p.k hbk hc2 with ⟨_, p5⟩ | ⟨p5, _⟩
            · exact p5
            · exact no_both hk p5
        · rcases Bool.eq_false_or_eq_true (sameS a.h noS) with hN | hN
          · have hN2 := (noS_iff _).1 hN
            have he : a.e = true := by
              rcases hc2 with h | ⟨c, hc, h⟩
              · exact h
              · exact no_both h (hN2 c hc)
            rw [show leqR a b = empB b.l by unfold leqR; rw [hu2, hc, hbk, hk, he, hN]; rfl, empB_iff]
            constructor
            · intro h
              exact ⟨hu, fun _ => by rw [hb3]; exact (empB_iff _).2 h, fun c hc h1 => no_both h1 (hN2 c hc), fun _ _ => .inr ⟨hk, hN2, h⟩⟩
            · intro p
              rcases p.k hbk hc2 with ⟨p5, _⟩ | ⟨_, _, p5⟩
              · exact no_both p5 hk
              · exact p5
          · rw [show leqR a b = false by unfold leqR; rw [hu2, hc, hbk, hk, hN]; cases a.e <;> rfl]
            refine ⟨fun h => (by cases h), fun p => ?_⟩
            rcases p.k hbk hc2 with ⟨p5, _⟩ | ⟨_, p5, _⟩
            · exact no_both p5 hk
            · exact no_both ((noS_iff _).2 p5) hN
      · rcases Bool.eq_false_or_eq_true (subS a.h b.h) with hs | hs
        · rw [show leqR a b = (if a.e then b.e else true) by unfold leqR; rw [hu2, hc, hbk, hs]; rfl]
          constructor
          · intro h
            refine ⟨hu, fun he => ?_, (subS_iff _ _).1 hs, fun h' => no_both h' hbk⟩
            rw [he] at h
            exact h
          · intro p
            rcases Bool.eq_false_or_eq_true a.e with he | he
            · rw [he]; exact p.e he
            · rw [he]; rfl
        · rw [show leqR a b = false by unfold leqR; rw [hu2, hc, hbk, hs]; rfl]
          exact ⟨fun h => (by cases h), fun p => no_both ((subS_iff _ _).2 p.h) hs⟩
    · obtain ⟨p1, p2, p3, p4⟩ := could_no ha hc
      rw [show leqR a b = true by unfold leqR; rw [hu2, hc]; rfl]
      exact ⟨fun _ => ⟨hu, fun h => no_both h p1, fun c hc h => no_both h (p2 c hc), fun _ h => no_both ((could_iff ha).2 h) hc⟩, fun _ => rfl⟩
  · rw [show leqR a b = false by unfold leqR; rw [hu2]; rfl]
    exact ⟨fun h => (by cases h), fun h => absurd h.u hu⟩

theorem leq_same {a b : Sh} (ha : OkP a) (hb : OkP b) : leqP a b = leqR a b := by
  rw [Bool.eq_iff_iff, leqP_iff ha hb, leqR_iff ha hb]

theorem Le.refl {a : Sh} : Le a a := ⟨id, id, fun _ _ => id, fun h _ => .inl ⟨h, rfl⟩⟩
theorem Le.could {a b : Sh} (h : Le a b) (hc : Could a) : Could b := hc.elim (fun h1 => .inl (h.e h1)) fun ⟨c, hc, h1⟩ => .inr ⟨c, hc, h.h c hc h1⟩
theorem Le.trans {a b c : Sh} (ha : OkP a) (h1 : Le a b) (h2 : Le b c) : Le a c := by
  refine ⟨fun h => h2.u (h1.u h), fun h => h2.e (h1.e h), fun d hd h => h2.h d hd (h1.h d hd h), fun hk hc => ?_⟩
  rcases h2.k hk (h1.could hc) with ⟨p1, p2⟩ | ⟨p1, p2, p3⟩
  · rcases h1.k p1 hc with ⟨q1, q2⟩ | ⟨q1, q2, q3⟩
    · exact .inl ⟨q1, q2.trans p2⟩
    · exact .inr ⟨q1, q2, p2 ▸ q3⟩
  · have hn : ∀ d, d < 256 → a.h d = false := fun d hd => bfalse fun h => no_both (h1.h d hd h) (p2 d hd)
    rcases Bool.eq_false_or_eq_true a.k with hak | hak
    · obtain ⟨_, q2, q3⟩ := ha.lit hak
      refine .inl ⟨hak, ?_⟩
      rw [p3]
      refine (empB_iff _).1 (Classical.byContradiction fun he => ?_)
      obtain ⟨d, hd, h4⟩ := some_of a.l (bfalse he)
      exact no_both h4 ((q2 d hd).symm.trans (hn d hd))
    · exact .inr ⟨hak, hn, p3⟩
theorem may_could {x : Sh} (h : OkP x) {v : ByteArray} (hm : mayB x true v = true) : Could x := by
  obtain ⟨_, p2, p3⟩ := (may_iff h v).1 hm
  rcases Bool.eq_false_or_eq_true (empB v) with he | he
  · exact .inl (p2 he)
  · obtain ⟨c, hc, h4⟩ := some_of v he
    exact .inr ⟨c, hc, p3 c hc h4⟩
theorem may_mono {a b : Sh} (ha : OkP a) (hb : OkP b) (hle : Le a b) (is : Bool) (v : ByteArray) (hm : mayB a is v = true) : mayB b is v = true := by
  cases is with
  | false => exact hle.u hm
  | true =>
    have hc := may_could ha hm
    obtain ⟨p1, p2, p3⟩ := (may_iff ha v).1 hm
    refine (may_iff hb v).2 ⟨fun hk => ?_, fun he => hle.e (p2 he), fun c hc h => hle.h c hc (p3 c hc h)⟩
    rcases hle.k hk hc with ⟨q1, q2⟩ | ⟨q1, q2, q3⟩
    · exact q2 ▸ p1 q1
    · rw [q3]
      refine ((empB_iff v).1 (Classical.byContradiction fun he => ?_)).symm
      obtain ⟨d, hd, h4⟩ := some_of v (bfalse he)
      exact no_both (p3 d hd h4) (q2 d hd)

/-! the join -/
def joinKL (a b : Sh) : Bool × ByteArray := if couldB a then (if couldB b then (if (if a.k then (if b.k then eqB a.l b.l else false) else false) then (true, a.l) else (false, ⟨#[]⟩)) else (a.k, a.l)) else (b.k, b.l)
def joinN (a b : Sh) : Sh := ⟨a.u || b.u, a.e || b.e, orS a.h b.h, (joinKL a b).1, (joinKL a b).2⟩

theorem KL_na {a b : Sh} (h : couldB a = false) : joinKL a b = (b.k, b.l) := by unfold joinKL; rw [h]; rfl
theorem KL_nb {a b : Sh} (ha : couldB a = true) (h : couldB b = false) : joinKL a b = (a.k, a.l) := by unfold joinKL; rw [ha, h]; rfl
theorem KL_same {a b : Sh} (ha : couldB a = true) (hb : couldB b = true) (h : (if a.k then (if b.k then eqB a.l b.l else false) else false) = true) : joinKL a b = (true, a.l) := by unfold joinKL; rw [ha, hb, h]; rfl
theorem KL_not {a b : Sh} (ha : couldB a = true) (hb : couldB b = true) (h : (if a.k then (if b.k then eqB a.l b.l else false) else false) = false) : joinKL a b = (false, ⟨#[]⟩) := by unfold joinKL; rw [ha, hb, h]; rfl
theorem same_iff (a b : Sh) : (if a.k then (if b.k then eqB a.l b.l else false) else false) = true ↔ a.k = true ∧ b.k = true ∧ a.l = b.l := by
  rw [← eqB_iff]
  cases a.k <;> cases b.k <;> simp

/-- the four ways of a join -/
theorem KL_ways (a b : Sh) : (couldB a = false ∧ joinKL a b = (b.k, b.l)) ∨ (couldB a = true ∧ couldB b = false ∧ joinKL a b = (a.k, a.l)) ∨
    (couldB a = true ∧ couldB b = true ∧ (a.k = true ∧ b.k = true ∧ a.l = b.l) ∧ joinKL a b = (true, a.l)) ∨ (couldB a = true ∧ couldB b = true ∧ ¬ (a.k = true ∧ b.k = true ∧ a.l = b.l) ∧ joinKL a b = (false, ⟨#[]⟩)) := by
  rcases Bool.eq_false_or_eq_true (couldB a) with ha | ha
  · rcases Bool.eq_false_or_eq_true (couldB b) with hb | hb
    · rcases Bool.eq_false_or_eq_true (if a.k then (if b.k then eqB a.l b.l else false) else false) with h | h
      · exact .inr (.inr (.inl ⟨ha, hb, (same_iff a b).1 h, KL_same ha hb h⟩))
      · exact .inr (.inr (.inr ⟨ha, hb, fun h1 => no_both ((same_iff a b).2 h1) h, KL_not ha hb h⟩))
    · exact .inr (.inl ⟨ha, hb, KL_nb ha hb⟩)
  · exact .inl ⟨ha, KL_na ha⟩

theorem noneB_no {x : Sh} (h : noneB x = true) : x.u = false ∧ couldB x = false := by
  unfold noneB at h
  rcases Bool.eq_false_or_eq_true x.u with hu | hu
  · rw [hu] at h; cases h
  · rw [hu] at h
    exact ⟨hu, by simpa using h⟩
theorem noneB_is {x : Sh} (hu : x.u = false) (hc : couldB x = false) : noneB x = true := by unfold noneB; rw [hu, hc]; rfl

theorem joinN_na {a b : Sh} (ha : OkP a) (hc : couldB a = false) : sameSh { b with u := a.u || b.u } (joinN a b) = true := by
  obtain ⟨p1, p2, _, _⟩ := could_no ha hc
  rw [sameSh_iff]
  unfold joinN
  rw [KL_na hc, p1]
  exact ⟨rfl, rfl, fun c hc => by show b.h c = (a.h c || b.h c); rw [p2 c hc]; rfl, rfl, rfl⟩
theorem joinN_nb {a b : Sh} (hb : OkP b) (hca : couldB a = true) (hc : couldB b = false) : sameSh { a with u := a.u || b.u } (joinN a b) = true := by
  obtain ⟨p1, p2, _, _⟩ := could_no hb hc
  rw [sameSh_iff]
  unfold joinN
  rw [KL_nb hca hc, p1]
  exact ⟨rfl, (Bool.or_false _).symm, fun c hc => by show a.h c = (a.h c || b.h c); rw [p2 c hc, Bool.or_false], rfl, rfl⟩

theorem same_refl (a : Sh) : sameSh a a = true := (sameSh_iff a a).2 ⟨rfl, rfl, fun _ _ => rfl, rfl, rfl⟩
theorem same_symm {a b : Sh} (h : sameSh a b = true) : sameSh b a = true := by
  obtain ⟨h1, h2, h3, h4, h5⟩ := (sameSh_iff a b).1 h
  exact (sameSh_iff b a).2 ⟨h1.symm, h2.symm, fun c hc => (h3 c hc).symm, h4.symm, h5.symm⟩
theorem same_trans {a b c : Sh} (h : sameSh a b = true) (k : sameSh b c = true) : sameSh a c = true := by
  obtain ⟨h1, h2, h3, h4, h5⟩ := (sameSh_iff a b).1 h
  obtain ⟨k1, k2, k3, k4, k5⟩ := (sameSh_iff b c).1 k
  exact (sameSh_iff a c).2 ⟨h1.trans k1, h2.trans k2, fun d hd => (h3 d hd).trans (k3 d hd), h4.trans k4, h5.trans k5⟩

theorem joinR_is {a b : Sh} (ha : OkP a) (hb : OkP b) : sameSh (joinR a b) (joinN a b) = true := by
  unfold joinR
  rcases Bool.eq_false_or_eq_true (noneB a) with hna | hna
  · obtain ⟨p1, p2⟩ := noneB_no hna
    have := joinN_na (b := b) ha p2
    rw [p1] at this
    rw [hna]
    exact this
  · rw [hna]
    rcases Bool.eq_false_or_eq_true (noneB b) with hnb | hnb
    · obtain ⟨p1, p2⟩ := noneB_no hnb
      rw [hnb]
      rcases Bool.eq_false_or_eq_true (couldB a) with hc | hc
      · have := joinN_nb hb hc p2
        rw [p1, Bool.or_false] at this
        exact this
      · obtain ⟨q1, q2, q3, q4⟩ := could_no ha hc
        obtain ⟨r1, r2, r3, r4⟩ := could_no hb p2
        refine (sameSh_iff _ _).2 ?_
        unfold joinN
        rw [KL_na hc]
        exact ⟨by show a.u = (a.u || b.u); rw [p1, Bool.or_false], by show a.e = (a.e || b.e); rw [r1, Bool.or_false], fun c hc => by show a.h c = (a.h c || b.h c); rw [r2 c hc, Bool.or_false], q3.trans r3.symm, q4.trans r4.symm⟩
    · rw [hnb]
      rcases Bool.eq_false_or_eq_true (couldB a) with hca | hca
      · rw [hca]
        rcases Bool.eq_false_or_eq_true (couldB b) with hcb | hcb
        · rw [hcb]
          rcases Bool.eq_false_or_eq_true (if a.k then (if b.k then eqB a.l b.l else false) else false) with h | h
          · rw [h]
            obtain ⟨q1, q2, q3⟩ := (same_iff a b).1 h
            obtain ⟨_, a2, a3⟩ := ha.lit q1
            obtain ⟨_, b2, b3⟩ := hb.lit q2
            refine (sameSh_iff _ _).2 ?_
            unfold joinN
            rw [KL_same hca hcb h]
            exact ⟨rfl, by show a.e = (a.e || b.e); rw [b3, ← q3, ← a3, Bool.or_self], fun c hc => by show a.h c = (a.h c || b.h c); rw [b2 c hc, ← q3, ← a2 c hc, Bool.or_self], q1, rfl⟩
          · rw [h]
            refine (sameSh_iff _ _).2 ?_
            unfold joinN
            rw [KL_not hca hcb h]
            exact ⟨rfl, rfl, fun _ _ => rfl, rfl, rfl⟩
        · rw [hcb]
          exact joinN_nb hb hca hcb
      · rw [hca]
        exact joinN_na ha hca

theorem joinP_is {a b : Sh} (ha : OkP a) (hb : OkP b) : sameSh (joinP a b) (joinN a b) = true := by
  refine same_trans ?_ (joinR_is ha hb)
  unfold joinP joinR joinSetP
  rcases Bool.eq_false_or_eq_true (noneB a) with hna | hna
  · rw [hna]; exact same_refl _
  · rw [hna]
    rcases Bool.eq_false_or_eq_true (noneB b) with hnb | hnb
    · rw [hnb]; exact same_refl _
    · rw [hnb]
      rcases Bool.eq_false_or_eq_true (couldB a) with hca | hca
      · rw [hca]
        rcases Bool.eq_false_or_eq_true (couldB b) with hcb | hcb
        · rw [hcb]
          rcases Bool.eq_false_or_eq_true (if a.k then (if b.k then eqB a.l b.l else false) else false) with h | h
          · rw [h]
            obtain ⟨q1, q2, q3⟩ := (same_iff a b).1 h
            obtain ⟨_, a2, a3⟩ := ha.lit q1
            obtain ⟨_, b2, b3⟩ := hb.lit q2
            exact (sameSh_iff _ _).2 ⟨rfl, by show (a.e || b.e) = a.e; rw [b3, ← q3, ← a3, Bool.or_self], fun c hc => by show orS a.h b.h c = a.h c; unfold orS; rw [b2 c hc, ← q3, ← a2 c hc, Bool.or_self], q1.symm, rfl⟩
          · rw [h]; exact same_refl _
        · rw [hcb]; exact same_refl _
      · rw [hca]; exact same_refl _
theorem join_same {a b : Sh} (ha : OkP a) (hb : OkP b) : sameSh (joinP a b) (joinR a b) = true := same_trans (joinP_is ha hb) (same_symm (joinR_is ha hb))

theorem ok_same {a b : Sh} (h : sameSh a b = true) (hb : OkP b) : OkP a := by
  obtain ⟨h1, h2, h3, h4, h5⟩ := (sameSh_iff a b).1 h
  refine ⟨(h3 0 (by decide)).trans hb.zero, fun hk => ?_, fun hk => h5.trans (hb.no (h4 ▸ hk))⟩
  obtain ⟨p1, p2, p3⟩ := hb.lit (h4 ▸ hk)
  rw [h5]
  exact ⟨p1, fun c hc => (h3 c hc).trans (p2 c hc), h2.trans p3⟩

theorem joinN_ok {a b : Sh} (ha : OkP a) (hb : OkP b) : OkP (joinN a b) := by
  rcases KL_ways a b with ⟨h1, h2⟩ | ⟨h0, h1, h2⟩ | ⟨h0, h1, ⟨q1, q2, q3⟩, h2⟩ | ⟨h0, h1, h3, h2⟩
  · exact ok_same (same_symm (joinN_na ha h1)) (hb.u _)
  · exact ok_same (same_symm (joinN_nb hb h0 h1)) (ha.u _)
  · obtain ⟨a1, a2, a3⟩ := ha.lit q1
    obtain ⟨_, b2, b3⟩ := hb.lit q2
    unfold joinN
    rw [h2]
    refine ⟨by show orS a.h b.h 0 = false; unfold orS; rw [ha.zero, hb.zero]; rfl, fun _ => ⟨a1, fun c hc => ?_, ?_⟩, fun h => (by cases h)⟩
    · show orS a.h b.h c = _
      unfold orS
      rw [b2 c hc, ← q3, ← a2 c hc, Bool.or_self]
    · show (a.e || b.e) = empB a.l
      rw [b3, ← q3, ← a3, Bool.or_self]
  · unfold joinN
    rw [h2]
    exact ⟨by show orS a.h b.h 0 = false; unfold orS; rw [ha.zero, hb.zero]; rfl, fun h => (by cases h), fun _ => rfl⟩
theorem join_ok {a b : Sh} (ha : OkP a) (hb : OkP b) : OkP (joinP a b) := ok_same (joinP_is ha hb) (joinN_ok ha hb)

/-- b holds a, and where b keeps a text a keeps it too -/
structure Lj (a b : Sh) : Prop where
  u : a.u = true → b.u = true
  e : a.e = true → b.e = true
  h : ∀ c, c < 256 → a.h c = true → b.h c = true
  k : b.k = true → Could a → a.k = true ∧ a.l = b.l
theorem Lj.le {a b : Sh} (h : Lj a b) : Le a b := ⟨h.u, h.e, h.h, fun p q => .inl (h.k p q)⟩
theorem Lj.refl (a : Sh) : Lj a a := ⟨id, id, fun _ _ => id, fun h _ => ⟨h, rfl⟩⟩
theorem Lj.trans {a b c : Sh} (h1 : Lj a b) (h2 : Lj b c) : Lj a c :=
  ⟨fun h => h2.u (h1.u h), fun h => h2.e (h1.e h), fun d hd h => h2.h d hd (h1.h d hd h), fun hk hc =>
    have p := h2.k hk (h1.le.could hc)
    have q := h1.k p.1 hc
    ⟨q.1, q.2.trans p.2⟩⟩
theorem Lj.same {a b c : Sh} (h : Lj a b) (hs : sameSh b c = true) : Lj a c := by
  obtain ⟨h1, h2, h3, h4, h5⟩ := (sameSh_iff b c).1 hs
  exact ⟨fun p => h1 ▸ h.u p, fun p => h2 ▸ h.e p, fun d hd p => (h3 d hd) ▸ h.h d hd p, fun p q => h5 ▸ h.k (h4 ▸ p) q⟩

theorem joinN_left {a b : Sh} (ha : OkP a) : Lj a (joinN a b) := by
  refine ⟨fun h => by show (a.u || b.u) = true; rw [h]; rfl, fun h => by show (a.e || b.e) = true; rw [h]; rfl, fun c _ h => by show orS a.h b.h c = true; unfold orS; rw [h]; rfl, fun hk hc => ?_⟩
  have hca := (could_iff ha).2 hc
  have hk2 : (joinKL a b).1 = true := hk
  show a.k = true ∧ a.l = (joinKL a b).2
  rcases KL_ways a b with ⟨h1, h2⟩ | ⟨h0, h1, h2⟩ | ⟨h0, h1, ⟨q1, q2, q3⟩, h2⟩ | ⟨h0, h1, h3, h2⟩ <;> rw [h2] at hk2 ⊢
  · exact no_both hca h1
  · exact ⟨hk2, rfl⟩
  · exact ⟨q1, rfl⟩
  · cases hk2
theorem joinN_comm {a b : Sh} (ha : OkP a) (hb : OkP b) : sameSh (joinN b a) (joinN a b) = true := by
  have hkl : joinKL b a = joinKL a b := by
    rcases KL_ways a b with ⟨h1, h2⟩ | ⟨h0, h1, h2⟩ | ⟨h0, h1, ⟨q1, q2, q3⟩, h2⟩ | ⟨h0, h1, h3, h2⟩ <;> rw [h2]
    · rcases Bool.eq_false_or_eq_true (couldB b) with hc | hc
      · exact KL_nb hc h1
      · obtain ⟨_, _, p3, p4⟩ := could_no ha h1
        obtain ⟨_, _, r3, r4⟩ := could_no hb hc
        rw [KL_na hc, p3, p4, r3, r4]
    · exact KL_na h1
    · rw [KL_same h1 h0 ((same_iff b a).2 ⟨q2, q1, q3.symm⟩), q3]
    · exact KL_not h1 h0 (bfalse fun h => h3 (by obtain ⟨x, y, z⟩ := (same_iff b a).1 h; exact ⟨y, x, z.symm⟩))
  rw [sameSh_iff]
  unfold joinN
  rw [hkl]
  exact ⟨Bool.or_comm _ _, Bool.or_comm _ _, fun c _ => Bool.or_comm _ _, rfl, rfl⟩
theorem joinN_right {a b : Sh} (ha : OkP a) (hb : OkP b) : Lj b (joinN a b) := (joinN_left hb).same (joinN_comm ha hb)

/-- what x holds adds nothing -/
theorem joinN_absorb {a x : Sh} (ha : OkP a) (hx : OkP x) (h : Lj a x) : sameSh (joinN x a) x = true := by
  have hkl : joinKL x a = (x.k, x.l) := by
    rcases KL_ways x a with ⟨h1, h2⟩ | ⟨h0, h1, h2⟩ | ⟨h0, h1, ⟨q1, q2, q3⟩, h2⟩ | ⟨h0, h1, h3, h2⟩ <;> rw [h2]
    · have hca : couldB a = false := bfalse fun hc => no_both ((could_iff hx).2 (h.le.could ((could_iff ha).1 hc))) h1
      obtain ⟨_, _, p3, p4⟩ := could_no hx h1
      obtain ⟨_, _, r3, r4⟩ := could_no ha hca
      rw [p3, p4, r3, r4]
    · rw [q1]
    · have hk : x.k = false := bfalse fun hk => by
        obtain ⟨p1, p2⟩ := h.k hk ((could_iff ha).1 h1)
        exact h3 ⟨hk, p1, p2.symm⟩
      rw [hk, hx.no hk]
  rw [sameSh_iff]
  unfold joinN
  rw [hkl]
  refine ⟨?_, ?_, fun c hc => ?_, rfl, rfl⟩
  · show (x.u || a.u) = x.u
    have := h.u
    revert this
    cases x.u <;> cases a.u <;> simp
  · show (x.e || a.e) = x.e
    have := h.e
    revert this
    cases x.e <;> cases a.e <;> simp
  · show orS x.h a.h c = x.h c
    unfold orS
    have := h.h c hc
    revert this
    cases x.h c <;> cases a.h c <;> simp

/-- the join is the least above both -/
theorem joinN_least {a b c : Sh} (ha : OkP a) (hb : OkP b) (h1 : Le a c) (h2 : Le b c) : Le (joinN a b) c := by
  refine ⟨fun h => ?_, fun h => ?_, fun d hd h => ?_, fun hk hc => ?_⟩
  · rcases or_cases (show (a.u || b.u) = true from h) with p | p
    · exact h1.u p
    · exact h2.u p
  · rcases or_cases (show (a.e || b.e) = true from h) with p | p
    · exact h1.e p
    · exact h2.e p
  · rcases or_cases (show (a.h d || b.h d) = true from h) with p | p
    · exact h1.h d hd p
    · exact h2.h d hd p
  · have hcc : Could a ∨ Could b := by
      rcases hc with h | ⟨d, hd, h⟩
      · rcases or_cases (show (a.e || b.e) = true from h) with p | p
        · exact .inl (.inl p)
        · exact .inr (.inl p)
      · rcases or_cases (show (a.h d || b.h d) = true from h) with p | p
        · exact .inl (.inr ⟨d, hd, p⟩)
        · exact .inr (.inr ⟨d, hd, p⟩)
    have hor : (∀ d, d < 256 → a.h d = false) → (∀ d, d < 256 → b.h d = false) → ∀ d, d < 256 → (joinN a b).h d = false := fun p q d hd => by
      show orS a.h b.h d = false
      unfold orS
      rw [p d hd, q d hd]
      rfl
    have goal : ∀ (k : Bool) (l : ByteArray), joinKL a b = (k, l) → ((k = true ∧ l = c.l) ∨ (k = false ∧ (∀ d, d < 256 → (joinN a b).h d = false) ∧ c.l = ⟨#[]⟩)) → ((joinN a b).k = true ∧ (joinN a b).l = c.l) ∨ ((joinN a b).k = false ∧ (∀ d, d < 256 → (joinN a b).h d = false) ∧ c.l = ⟨#[]⟩) := by
      intro k l hkl p
      show ((joinKL a b).1 = true ∧ (joinKL a b).2 = c.l) ∨ ((joinKL a b).1 = false ∧ _ ∧ c.l = ⟨#[]⟩)
      rw [hkl]
      exact p
    rcases KL_ways a b with ⟨q1, q2⟩ | ⟨q0, q1, q2⟩ | ⟨q0, q1, ⟨r1, r2, r3⟩, q2⟩ | ⟨q0, q1, q3, q2⟩
    · have hcb : Could b := hcc.elim (fun h => no_both ((could_iff ha).2 h) q1) id
      refine goal _ _ q2 ?_
      rcases h2.k hk hcb with ⟨p1, p2⟩ | ⟨p1, p2, p3⟩
      · exact .inl ⟨p1, p2⟩
      · exact .inr ⟨p1, hor (could_no ha q1).2.1 p2, p3⟩
    · refine goal _ _ q2 ?_
      rcases h1.k hk ((could_iff ha).1 q0) with ⟨p1, p2⟩ | ⟨p1, p2, p3⟩
      · exact .inl ⟨p1, p2⟩
      · exact .inr ⟨p1, hor p2 (could_no hb q1).2.1, p3⟩
    · refine goal _ _ q2 (.inl ⟨rfl, ?_⟩)
      rcases h1.k hk ((could_iff ha).1 q0) with ⟨p1, p2⟩ | ⟨p1, _⟩
      · exact p2
      · exact no_both r1 p1
    · refine goal _ _ q2 (.inr ⟨rfl, ?_⟩)
      have emp_h : ∀ {x : Sh}, OkP x → x.k = true → x.l = ⟨#[]⟩ → ∀ d, d < 256 → x.h d = false := fun hx hk hl d hd => by
        obtain ⟨_, p2, _⟩ := hx.lit hk
        rw [p2 d hd]
        exact emp_of _ ((empB_iff _).2 hl) d
      rcases h1.k hk ((could_iff ha).1 q0) with ⟨p1, p2⟩ | ⟨p1, p2, p3⟩ <;> rcases h2.k hk ((could_iff hb).1 q1) with ⟨s1, s2⟩ | ⟨s1, s2, s3⟩
      · exact absurd ⟨p1, s1, p2.trans s2.symm⟩ q3
      · exact ⟨hor (emp_h ha p1 (p2.trans s3)) s2, s3⟩
      · exact ⟨hor p2 (emp_h hb s1 (s2.trans p3)), p3⟩
      · exact ⟨hor p2 s2, p3⟩
theorem le_same {a b c : Sh} (h : Le b c) (hs : sameSh a b = true) : Le a c := by
  obtain ⟨h1, h2, h3, h4, h5⟩ := (sameSh_iff a b).1 hs
  refine ⟨fun p => h.u (h1 ▸ p), fun p => h.e (h2 ▸ p), fun d hd p => h.h d hd (h3 d hd ▸ p), fun p q => ?_⟩
  have hc : Could b := q.elim (fun r => .inl (h2 ▸ r)) fun ⟨d, hd, r⟩ => .inr ⟨d, hd, h3 d hd ▸ r⟩
  rcases h.k p hc with ⟨r1, r2⟩ | ⟨r1, r2, r3⟩
  · exact .inl ⟨h4.trans r1, h5.trans r2⟩
  · exact .inr ⟨h4.trans r1, fun d hd => (h3 d hd).trans (r2 d hd), r3⟩

/-! the laws of the join that the program makes -/
theorem join_left {a b : Sh} (ha : OkP a) (hb : OkP b) : Lj a (joinP a b) := (joinN_left ha).same (same_symm (joinP_is ha hb))
theorem join_right {a b : Sh} (ha : OkP a) (hb : OkP b) : Lj b (joinP a b) := (joinN_right ha hb).same (same_symm (joinP_is ha hb))
theorem join_comm {a b : Sh} (ha : OkP a) (hb : OkP b) : sameSh (joinP b a) (joinP a b) = true :=
  same_trans (joinP_is hb ha) (same_trans (joinN_comm ha hb) (same_symm (joinP_is ha hb)))
theorem join_absorb {a x : Sh} (ha : OkP a) (hx : OkP x) (h : Lj a x) : sameSh (joinP x a) x = true := same_trans (joinP_is hx ha) (joinN_absorb ha hx h)
theorem join_least {a b c : Sh} (ha : OkP a) (hb : OkP b) (h1 : Le a c) (h2 : Le b c) : Le (joinP a b) c := le_same (joinN_least ha hb h1 h2) (joinP_is ha hb)
end Go.Proofs.Ytjdhidiocchkeaa
