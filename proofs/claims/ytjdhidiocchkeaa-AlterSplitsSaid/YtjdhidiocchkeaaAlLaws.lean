/-
  Plain laws of layer alter (no program in it): what the program makes is what the document makes; it holds what is made of the values; of more more is made.
-/
import Derived.Test.YtjdhidiocchkeaaAlAwake
import Derived.Test.YtjdhidiocchkeaaShLits
namespace Go.Proofs.Ytjdhidiocchkeaa

theorem setSh_ok {x : Sh} (h : OkP x) : OkP (setSh x) := ⟨h.zero, h.lit, h.no⟩
theorem setSh_u {x : Sh} (h : x.u = false) : setSh x = x := by obtain ⟨u, e, p, k, l⟩ := x; cases h; rfl
theorem could_setSh (x : Sh) : couldB (setSh x) = couldB x := rfl
theorem none_setSh (x : Sh) : noneB (setSh x) = !couldB x := rfl
theorem nz_ok {x : Sh} (h : OkP x) (c : Nat) : nz x.h c = x.h c := by
  unfold nz
  by_cases hc : c = 0
  · subst hc; rw [h.zero]; rfl
  · simp [hc]
theorem nz_or {a b : Sh} (ha : OkP a) (hb : OkP b) (c : Nat) : nz (orS a.h b.h) c = orS a.h b.h c := by
  unfold nz orS
  by_cases hc : c = 0
  · subst hc; rw [ha.zero, hb.zero]; rfl
  · simp [hc]
theorem emp0 : empB ⟨#[]⟩ = true := (empB_iff _).2 rfl
theorem lit0_k : keptB ⟨#[]⟩ = true := by decide
theorem lit0 : litSh ⟨#[]⟩ = ⟨false, true, ofS [], true, ⟨#[]⟩⟩ := by rw [litSh_k _ lit0_k, emp0]
theorem kk_iff (a b : Sh) : kkB a b = true ↔ a.k = true ∧ b.k = true ∧ a.l.size + b.l.size ≤ 64 := by
  unfold kkB
  cases a.k <;> cases b.k <;> simp
theorem and_iff (a b : Bool) : (if a then b else false) = true ↔ a = true ∧ b = true := by cases a <;> simp

/-! the document's are the program's -/
theorem used_eq {x : Sh} (h : OkP x) (c : Bool) : usedP x c = usedR x c := by
  unfold usedP usedR
  cases c with
  | false => rfl
  | true =>
    rcases Bool.eq_false_or_eq_true x.k with hk | hk
    · rw [hk]
      rcases Bool.eq_false_or_eq_true (empB x.l) with he | he
      · rw [he]; rfl
      · rw [he]
        have h3 := (h.lit hk).2.2
        rw [he] at h3
        unfold setSh
        rw [h3, hk]; rfl
    · rw [hk]; rfl
theorem used_u (x : Sh) (c : Bool) : (usedR x c).u = false := by
  unfold usedR
  cases c with
  | false => rfl
  | true => cases (if x.k then empB x.l else false) <;> rfl
theorem used_ok {x : Sh} (h : OkP x) (c : Bool) : OkP (usedP x c) := by
  unfold usedP
  cases c with
  | false => exact setSh_ok h
  | true =>
    rcases Bool.eq_false_or_eq_true x.k with hk | hk
    · rw [hk]
      cases empB x.l with
      | true => exact zero_ok
      | false => exact setSh_ok h
    · rw [hk]
      exact ⟨h.zero, fun h' => (by cases h'), fun _ => h.no hk⟩
theorem read_ok {x : Sh} (h : OkP x) : OkP (readP x) := by
  unfold readP
  cases x.u with
  | false => exact h
  | true =>
    cases noneB (setSh x) with
    | true => exact litSh_ok ⟨#[]⟩
    | false => exact ofSh_ok x.h true
theorem read_u (x : Sh) : (readP x).u = false := by
  rcases Bool.eq_false_or_eq_true x.u with hu | hu
  · unfold readP
    rw [hu]
    cases noneB (setSh x) with
    | true => exact lit_u ⟨#[]⟩
    | false => rfl
  · unfold readP
    rw [hu]; exact hu
theorem read_same {x : Sh} (h : OkP x) : sameSh (readP x) (readR x) = true := by
  unfold readP readR
  rw [none_setSh]
  cases x.u with
  | false => exact same_refl _
  | true =>
    cases couldB x with
    | false => exact same_refl _
    | true => exact (sameSh_iff _ _).2 ⟨rfl, rfl, fun c _ => nz_ok h c, rfl, rfl⟩
theorem cat_ok (a b : Sh) : OkP (catP a b) := by
  unfold catP catS
  cases noneB (setSh a) with
  | true => exact zero_ok
  | false =>
    cases noneB (setSh b) with
    | true => exact zero_ok
    | false =>
      cases kkB (setSh a) (setSh b) with
      | true => exact litSh_ok _
      | false => exact ofSh_ok _ _
theorem cat_same {a b : Sh} (ha : OkP a) (hb : OkP b) (ua : a.u = false) (ub : b.u = false) : sameSh (catP a b) (catR a b) = true := by
  unfold catP catS catR
  rw [setSh_u ua, setSh_u ub]
  cases noneB a with
  | true => exact same_refl _
  | false =>
    cases noneB b with
    | true => exact same_refl _
    | false =>
      cases kkB a b with
      | true => exact same_refl _
      | false => exact (sameSh_iff _ _).2 ⟨rfl, rfl, fun c _ => nz_or ha hb c, rfl, rfl⟩
theorem is_lit0 {x : Sh} (h : OkP x) (hu : x.u = false) : sameSh x (litSh ⟨#[]⟩) = (if x.k then empB x.l else false) := by
  rw [Bool.eq_iff_iff, and_iff, lit0, sameSh_iff]
  constructor
  · rintro ⟨_, _, _, h4, h5⟩
    exact ⟨h4, (empB_iff _).2 h5⟩
  · rintro ⟨h4, h5⟩
    obtain ⟨_, p2, p3⟩ := h.lit h4
    refine ⟨hu, by rw [p3, h5], fun c hc => ?_, h4, (empB_iff _).1 h5⟩
    rw [p2 c hc, (empB_list _).1 h5]
theorem cut_ok {x : Sh} (h : OkP x) : OkP (cutP x) := by
  unfold cutP
  cases noneB x with
  | true => exact h
  | false =>
    cases sameSh x (litSh ⟨#[]⟩) with
    | true => exact h
    | false => exact ofSh_ok _ _
theorem cut_same {x : Sh} (h : OkP x) (hu : x.u = false) : sameSh (cutP x) (cutR x) = true := by
  unfold cutP cutR
  rw [is_lit0 h hu]
  cases noneB x with
  | true => exact same_refl _
  | false =>
    cases (if x.k then empB x.l else false) with
    | true => exact same_refl _
    | false => exact (sameSh_iff _ _).2 ⟨rfl, rfl, fun c _ => nz_ok h c, rfl, rfl⟩
theorem def_same {x w : Sh} (hx : OkP x) (hw : OkP w) (c : Bool) : sameSh (defP x w c) (defR x w c) = true := by
  unfold defP defR
  rw [← used_eq hx]
  cases othB x c with
  | false => exact same_refl _
  | true => exact join_same (used_ok hx c) hw
theorem else_eq {x : Sh} (hx : OkP x) (w : Sh) (c : Bool) : elseP x w c = elseR x w c := by
  unfold elseP elseR
  rw [used_eq hx]
  have : noneB (usedR x c) = !couldB (usedR x c) := by
    unfold noneB
    rw [used_u]; rfl
  rw [this]
  cases couldB (usedR x c) <;> rfl
theorem else_ok (x : Sh) {w : Sh} (hw : OkP w) (c : Bool) : OkP (elseP x w c) := by
  unfold elseP
  cases noneB (usedP x c) with
  | true => exact zero_ok
  | false => exact hw
theorem oth_same {x w : Sh} (hx : OkP x) (hw : OkP w) (c : Bool) : sameSh (othP x w c) (othR x w c) = true := by
  unfold othP othR
  rw [← else_eq hx]
  cases othB x c with
  | false => exact same_refl _
  | true => exact join_same (else_ok x hw c) (litSh_ok _)
theorem split_same {x : Sh} (hx : OkP x) (i : Sh) : splitB x i = splitR x i := by
  unfold splitB splitR
  rcases Bool.eq_false_or_eq_true (couldB x) with hc | hc
  · rw [hc]; rfl
  · obtain ⟨h1, h2, _, _⟩ := could_no hx hc
    rw [hc, h1]
    exact meet_not fun c hc h3 _ => no_both h3 (h2 c hc)

/-! what is made of values -/
theorem lit0_may : mayB (litSh ⟨#[]⟩) true ⟨#[]⟩ = true := may_lit _ rfl
theorem read_may {x : Sh} (h : OkP x) {is : Bool} {v r : ByteArray} (hm : mayB x is v = true) (hr : r = if is then v else ⟨#[]⟩) : mayB (readP x) true r = true := by
  unfold readP
  rcases Bool.eq_false_or_eq_true x.u with hu | hu
  · rw [hu]
    have hN := none_setSh x
    cases is with
    | false =>
      subst hr
      cases noneB (setSh x) with
      | true => exact lit0_may
      | false => exact (may_iff (ofSh_ok _ _) _).2 ⟨fun h => (by cases h), fun _ => rfl, fun c _ h1 => (by cases h1)⟩
    | true =>
      subst hr
      have hc := may_could h hm
      rw [(could_iff h).2 hc] at hN
      rw [hN]
      obtain ⟨_, _, p3⟩ := (may_iff h _).1 hm
      exact (may_iff (ofSh_ok _ _) _).2 ⟨fun h => (by cases h), fun _ => rfl, fun c hc h1 => (nz_ok h c).trans (p3 c hc h1)⟩
  · rw [hu]
    cases is with
    | false => exact no_both hm hu
    | true => subst hr; exact hm
theorem ofS_app (a b : List UInt8) (c : Nat) : ofS (a ++ b) c = (ofS a c || ofS b c) := by
  unfold ofS; rw [List.any_append]
theorem app_list (a b : ByteArray) : (a ++ b).data.toList = a.data.toList ++ b.data.toList := by
  rw [ByteArray.data_append, Array.toList_append]
theorem emp_app (a b : ByteArray) : empB (a ++ b) = true ↔ empB a = true ∧ empB b = true := by
  rw [empB_list, empB_list, empB_list, app_list, List.append_eq_nil_iff]
theorem none_no {x : Sh} (h : OkP x) (hc : Could x) : noneB (setSh x) = false := by
  rw [none_setSh, (could_iff h).2 hc]; rfl
theorem cat_may {a b : Sh} (ha : OkP a) (hb : OkP b) {s t : ByteArray} (hs : mayB a true s = true) (ht : mayB b true t = true) : mayB (catP a b) true (s ++ t) = true := by
  have ka := none_no ha (may_could ha hs)
  have kb := none_no hb (may_could hb ht)
  obtain ⟨p1, p2, p3⟩ := (may_iff ha s).1 hs
  obtain ⟨q1, q2, q3⟩ := (may_iff hb t).1 ht
  unfold catP
  rcases Bool.eq_false_or_eq_true (kkB (setSh a) (setSh b)) with hk | hk
  · rw [catS_lit ka kb hk]
    obtain ⟨h1, h2, _⟩ := (kk_iff _ _).1 hk
    have e1 : (setSh a).l = s := p1 h1
    have e2 : (setSh b).l = t := q1 h2
    rw [e1, e2]
    refine may_lit _ ?_
    rw [app_list, ofS_app]
    have z1 := (ha.lit h1).1.2
    have z2 := (hb.lit h2).1.2
    rw [show a.l = s from e1] at z1
    rw [show b.l = t from e2] at z2
    rw [z1, z2]; rfl
  · rw [catS_not ka kb hk]
    refine (may_iff (ofSh_ok _ _) _).2 ⟨fun h => (by cases h), fun he => ?_, fun c hc h1 => ?_⟩
    · obtain ⟨h1, h2⟩ := (emp_app s t).1 he
      exact (and_iff _ _).2 ⟨p2 h1, q2 h2⟩
    · show nz (orS a.h b.h) c = true
      rw [nz_or ha hb]
      rw [app_list, ofS_app] at h1
      unfold orS
      rcases or_cases h1 with h2 | h2
      · rw [p3 c hc h2]; rfl
      · rw [q3 c hc h2, Bool.or_true]
theorem cut_may {z : Sh} (hz : OkP z) {r s : ByteArray} (hm : mayB z true r = true) (hs : ∀ b ∈ s.data.toList, b ∈ r.data.toList) : mayB (cutP z) true s = true := by
  have hc := (could_iff hz).2 (may_could hz hm)
  have hn : noneB z = false := by
    unfold noneB
    rw [hc]
    cases z.u <;> rfl
  obtain ⟨p1, p2, p3⟩ := (may_iff hz r).1 hm
  unfold cutP
  rw [hn]
  rcases Bool.eq_false_or_eq_true (sameSh z (litSh ⟨#[]⟩)) with hl | hl
  · rw [hl]
    rw [lit0, sameSh_iff] at hl
    obtain ⟨_, _, _, h4, h5⟩ := hl
    have hr : r.data.toList = [] := by rw [← p1 h4, h5]
    have he : s.data.toList = [] := by
      cases hl : s.data.toList with
      | nil => rfl
      | cons b l => exact absurd (hs b (by rw [hl]; exact List.mem_cons_self ..)) (by rw [hr]; exact List.not_mem_nil)
    have : s = r := by
      rw [(empB_iff s).1 ((empB_list s).2 he), (empB_iff r).1 ((empB_list r).2 hr)]
    rw [this]; exact hm
  · rw [hl]
    refine (may_iff (ofSh_ok _ _) _).2 ⟨fun h => (by cases h), fun _ => rfl, fun c hc h1 => ?_⟩
    show nz z.h c = true
    rw [nz_ok hz]
    obtain ⟨b, hb, rfl⟩ := (ofS_iff _ _).1 h1
    exact p3 _ hc ((ofS_iff _ _).2 ⟨b, hs b hb, rfl⟩)
theorem used_may {x : Sh} (h : OkP x) {v : ByteArray} {c : Bool} (hm : mayB x true v = true) (hc : ¬ (c = true ∧ empB v = true)) : mayB (usedP x c) true v = true := by
  obtain ⟨p1, p2, p3⟩ := (may_iff h v).1 hm
  rw [used_eq h]
  have hok := used_ok h c
  rw [used_eq h] at hok
  refine (may_iff hok v).2 ?_
  unfold usedR
  cases c with
  | false => exact ⟨p1, p2, p3⟩
  | true =>
    have he : ¬ empB v = true := fun h1 => hc ⟨rfl, h1⟩
    rcases Bool.eq_false_or_eq_true (if x.k then empB x.l else false) with hk | hk
    · obtain ⟨h1, h2⟩ := (and_iff _ _).1 hk
      rw [p1 h1] at h2
      exact absurd h2 he
    · rw [hk]
      exact ⟨p1, fun h1 => absurd h1 he, p3⟩
theorem def_may {x w : Sh} (hx : OkP x) (hw : OkP w) {v : ByteArray} {c : Bool} (hm : mayB (usedP x c) true v = true) : mayB (defP x w c) true v = true := by
  unfold defP
  cases othB x c with
  | false => exact hm
  | true => exact may_mono (used_ok hx c) (join_ok (used_ok hx c) hw) (join_left (used_ok hx c) hw).le true v hm
theorem def_may2 {x w : Sh} (hx : OkP x) (hw : OkP w) {v : ByteArray} {c : Bool} (ho : othB x c = true) (hm : mayB w true v = true) : mayB (defP x w c) true v = true := by
  unfold defP
  rw [ho]
  exact may_mono hw (join_ok (used_ok hx c) hw) (join_right (used_ok hx c) hw).le true v hm
theorem oth_may {x w : Sh} (hx : OkP x) (hw : OkP w) {v t : ByteArray} {c : Bool} (hm : mayB (usedP x c) true v = true) (hw2 : mayB w true t = true) : mayB (othP x w c) true t = true := by
  have hn : noneB (usedP x c) = false := by
    unfold noneB
    rw [(could_iff (used_ok hx c)).2 (may_could (used_ok hx c) hm)]
    cases (usedP x c).u <;> rfl
  have he : elseP x w c = w := by unfold elseP; rw [hn]; rfl
  unfold othP
  rw [he]
  cases othB x c with
  | false => exact hw2
  | true => exact may_mono hw (join_ok hw (litSh_ok _)) (join_left hw (litSh_ok _)).le true t hw2
theorem oth_may2 {x w : Sh} (hw : OkP w) {c : Bool} (ho : othB x c = true) : mayB (othP x w c) true ⟨#[]⟩ = true := by
  unfold othP
  rw [ho]
  exact may_mono (litSh_ok _) (join_ok (else_ok x hw c) (litSh_ok _)) (join_right (else_ok x hw c) (litSh_ok _)).le true _ lit0_may
theorem oth_unset {x : Sh} {v : ByteArray} (c : Bool) (hm : mayB x false v = true) : othB x c = true := by
  have : x.u = true := hm
  unfold othB; rw [this]; rfl
theorem oth_empty {x : Sh} (h : OkP x) {v : ByteArray} (hm : mayB x true v = true) (he : empB v = true) : othB x true = true := by
  have h1 := ((may_iff h v).1 hm).2.1 he
  unfold othB
  rw [h1]
  cases x.u <;> rfl

/-! of more more is made -/
theorem Lj.none {a b : Sh} (h : Lj a b) (ha : OkP a) (hb : OkP b) (hn : couldB b = false) : couldB a = false :=
  bfalse fun hc => no_both ((could_iff hb).2 (h.le.could ((could_iff ha).1 hc))) hn
theorem no_could {a : Sh} (h : ¬ Could a) (hu : a.u = false) (b : Sh) : Lj a b :=
  ⟨fun h' => no_both h' hu, fun h' => absurd (.inl h') h, fun c hc h' => absurd (.inr ⟨c, hc, h'⟩) h, fun _ h' => absurd h' h⟩
theorem no_could_of {a : Sh} (ha : OkP a) (h : couldB a = false) : ¬ Could a := fun h' => no_both ((could_iff ha).2 h') h
theorem zero_lj (b : Sh) : Lj zeroSh b := no_could (fun h => by rcases h with h1 | ⟨c, _, h1⟩ <;> cases h1) rfl b
theorem read_rises {x y : Sh} (hx : OkP x) (hy : OkP y) (h : Lj x y) : Lj (readP x) (readP y) := by
  have ny := none_setSh y
  have nx := none_setSh x
  rcases Bool.eq_false_or_eq_true x.u with hu | hu
  · have hv := h.u hu
    rcases Bool.eq_false_or_eq_true (couldB y) with hc | hc
    · rw [hc] at ny
      have e2 : readP y = ofSh y.h true := by unfold readP; rw [hv, ny]; rfl
      rw [e2]
      refine ⟨fun h' => no_both h' (read_u x), fun _ => rfl, fun c hc h1 => ?_, fun h' => (by cases h')⟩
      show nz y.h c = true
      rw [nz_ok hy]
      refine h.h c hc ?_
      unfold readP at h1
      rw [hu] at h1
      rcases Bool.eq_false_or_eq_true (noneB (setSh x)) with hn | hn
      · rw [hn] at h1
        have h1' : (litSh ⟨#[]⟩).h c = true := h1
        rw [lit0] at h1'
        cases h1'
      · rw [hn] at h1
        exact (nz_ok hx c).symm.trans h1
    · have hcx := h.none hx hy hc
      rw [hc] at ny
      rw [hcx] at nx
      have e2 : readP y = litSh ⟨#[]⟩ := by unfold readP; rw [hv, ny]; rfl
      have e1 : readP x = litSh ⟨#[]⟩ := by unfold readP; rw [hu, nx]; rfl
      rw [e1, e2]
      exact Lj.refl _
  · have e1 : readP x = x := by unfold readP; rw [hu]; rfl
    rw [e1]
    rcases Bool.eq_false_or_eq_true y.u with hv | hv
    · rcases Bool.eq_false_or_eq_true (couldB y) with hc | hc
      · rw [hc] at ny
        have e2 : readP y = ofSh y.h true := by unfold readP; rw [hv, ny]; rfl
        rw [e2]
        exact ⟨fun h' => no_both h' hu, fun _ => rfl, fun c hc h1 => (nz_ok hy c).trans (h.h c hc h1), fun h' => (by cases h')⟩
      · exact no_could (no_could_of hx (h.none hx hy hc)) hu _
    · have e2 : readP y = y := by unfold readP; rw [hv]; rfl
      rw [e2]; exact h
theorem cat_rises {p q w : Sh} (hp : OkP p) (hq : OkP q) (hw : OkP w) (h : Lj p q) : Le (catP p w) (catP q w) := by
  have np := none_setSh p
  have nq := none_setSh q
  unfold catP
  rcases Bool.eq_false_or_eq_true (couldB p) with hc | hc
  · rw [hc] at np
    have hcq : couldB q = true := (could_iff hq).2 (h.le.could ((could_iff hp).1 hc))
    rw [hcq] at nq
    rcases Bool.eq_false_or_eq_true (noneB (setSh w)) with hn | hn
    · rw [catS_none2 np hn]
      exact (zero_lj _).le
    · have hsame : q.k = true → p.k = true ∧ p.l = q.l := fun hk => h.k hk ((could_iff hp).1 hc)
      rcases Bool.eq_false_or_eq_true (kkB (setSh q) (setSh w)) with hk | hk
      · obtain ⟨h1, h2, h3⟩ := (kk_iff _ _).1 hk
        obtain ⟨g1, g2⟩ := hsame h1
        have hkp : kkB (setSh p) (setSh w) = true := (kk_iff _ _).2 ⟨g1, h2, by
          show p.l.size + w.l.size ≤ 64
          rw [g2]; exact h3⟩
        rw [catS_lit np hn hkp, catS_lit nq hn hk, show (setSh p).l = (setSh q).l from g2]
        exact Le.refl
      · rw [catS_not nq hn hk]
        rcases Bool.eq_false_or_eq_true (kkB (setSh p) (setSh w)) with hkp | hkp
        · rw [catS_lit np hn hkp]
          obtain ⟨h1, h2, _⟩ := (kk_iff _ _).1 hkp
          have hl : ∀ c, (litSh ((setSh p).l ++ (setSh w).l)).h c = nz (ofS (p.l ++ w.l).data.toList) c := fun c => lit_h _ c
          refine ⟨fun h' => no_both h' (lit_u _), fun h' => ?_, fun c hc h' => ?_, fun h' => (by cases h')⟩
          · have h4 : empB ((setSh p).l ++ (setSh w).l) = true := (lit_e _).symm.trans h'
            obtain ⟨h5, h6⟩ := (emp_app _ _).1 h4
            exact (and_iff _ _).2 ⟨h.e ((hp.lit h1).2.2.trans h5), (hw.lit h2).2.2.trans h6⟩
          · show nz (orS q.h w.h) c = true
            rw [nz_or hq hw]
            rw [hl] at h'
            unfold nz at h'
            simp only [Bool.and_eq_true] at h'
            have h4 := h'.1
            rw [app_list, ofS_app] at h4
            unfold orS
            rcases or_cases h4 with h5 | h5
            · rw [h.h c hc (((hp.lit h1).2.1 c hc).trans h5)]; rfl
            · rw [((hw.lit h2).2.1 c hc).trans h5, Bool.or_true]
        · rw [catS_not np hn hkp]
          refine ⟨fun h' => (by cases h'), fun h' => ?_, fun c hc h' => ?_, fun h' => (by cases h')⟩
          · obtain ⟨h5, h6⟩ := (and_iff _ _).1 h'
            exact (and_iff _ _).2 ⟨h.e h5, h6⟩
          · have h4 : nz (orS p.h w.h) c = true := h'
            rw [nz_or hp hw] at h4
            show nz (orS q.h w.h) c = true
            rw [nz_or hq hw]
            unfold orS at h4 ⊢
            rcases or_cases h4 with h5 | h5
            · rw [h.h c hc h5]; rfl
            · rw [h5, Bool.or_true]
  · rw [hc] at np
    rw [catS_none1 np]
    exact (zero_lj _).le
theorem none_of_could {x : Sh} (hu : x.u = false) : noneB x = !couldB x := by unfold noneB; rw [hu]; rfl
theorem cut_rises {p q : Sh} (hp : OkP p) (hq : OkP q) (up : p.u = false) (uq : q.u = false) (h : Lj p q) : Lj (cutP p) (cutP q) := by
  unfold cutP
  rw [is_lit0 hp up, is_lit0 hq uq, none_of_could up, none_of_could uq]
  rcases Bool.eq_false_or_eq_true (couldB p) with hc | hc
  · have hcp := (could_iff hp).1 hc
    have hcq : couldB q = true := (could_iff hq).2 (h.le.could hcp)
    rw [hc, hcq]
    rcases Bool.eq_false_or_eq_true (if q.k then empB q.l else false) with h1 | h1
    · obtain ⟨k1, k2⟩ := (and_iff _ _).1 h1
      obtain ⟨g1, g2⟩ := h.k k1 hcp
      have h2 : (if p.k then empB p.l else false) = true := (and_iff _ _).2 ⟨g1, by rw [g2]; exact k2⟩
      rw [h1, h2]
      exact h
    · rw [h1]
      cases (if p.k then empB p.l else false) with
      | true => exact ⟨fun h' => no_both h' up, fun _ => rfl, fun c hc h' => (nz_ok hq c).trans (h.h c hc h'), fun h' => (by cases h')⟩
      | false => exact ⟨fun h' => (by cases h'), fun _ => rfl, fun c hc h' => (nz_ok hq c).trans (h.h c hc ((nz_ok hp c).symm.trans h')), fun h' => (by cases h')⟩
  · rw [hc]
    exact no_could (no_could_of hp hc) up _
theorem used_rises {x y : Sh} (hx : OkP x) (hy : OkP y) (h : Lj x y) (c : Bool) : Lj (usedP x c) (usedP y c) := by
  rw [used_eq hx, used_eq hy]
  unfold usedR
  cases c with
  | false => exact ⟨fun h' => (by cases h'), h.e, h.h, h.k⟩
  | true =>
    rcases Bool.eq_false_or_eq_true (if x.k then empB x.l else false) with h1 | h1
    · rw [h1]
      exact zero_lj _
    · rw [h1]
      rcases Bool.eq_false_or_eq_true (if y.k then empB y.l else false) with h2 | h2
      · rw [h2]
        obtain ⟨k1, k2⟩ := (and_iff _ _).1 h2
        refine no_could (fun hc => ?_) rfl _
        rcases hc with h3 | ⟨d, hd, h3⟩
        · cases h3
        · obtain ⟨g1, g2⟩ := h.k k1 (.inr ⟨d, hd, h3⟩)
          refine no_both ?_ h1
          exact (and_iff _ _).2 ⟨g1, by rw [g2]; exact k2⟩
      · rw [h2]
        refine ⟨fun h' => (by cases h'), fun h' => (by cases h'), h.h, fun hk hc => ?_⟩
        refine h.k hk ?_
        rcases hc with h3 | ⟨d, hd, h3⟩
        · cases h3
        · exact .inr ⟨d, hd, h3⟩
theorem oth_rises {x y : Sh} (h : Lj x y) {c : Bool} (ho : othB x c = true) : othB y c = true := by
  unfold othB at ho ⊢
  rcases Bool.eq_false_or_eq_true x.u with hu | hu
  · rw [h.u hu]; rfl
  · rw [hu] at ho
    cases c with
    | false => cases ho
    | true =>
      have he : y.e = true := h.e ho
      rw [he]
      cases y.u <;> rfl
theorem def_ok {x w : Sh} (hx : OkP x) (hw : OkP w) (c : Bool) : OkP (defP x w c) := by
  unfold defP
  cases othB x c with
  | false => exact used_ok hx c
  | true => exact join_ok (used_ok hx c) hw
theorem oth_ok {x w : Sh} (hw : OkP w) (c : Bool) : OkP (othP x w c) := by
  unfold othP
  cases othB x c with
  | false => exact else_ok x hw c
  | true => exact join_ok (else_ok x hw c) (litSh_ok _)
theorem def_rises {x y w : Sh} (hx : OkP x) (hy : OkP y) (hw : OkP w) (h : Lj x y) (c : Bool) : Le (defP x w c) (defP y w c) := by
  have hu := used_rises hx hy h c
  have ox := used_ok hx c
  have oy := used_ok hy c
  unfold defP
  rcases Bool.eq_false_or_eq_true (othB x c) with h1 | h1
  · rw [h1, oth_rises h h1]
    exact join_least ox hw (hu.trans (join_left oy hw)).le (join_right oy hw).le
  · rw [h1]
    cases othB y c with
    | false => exact hu.le
    | true => exact (hu.trans (join_left oy hw)).le
theorem else_rises {x y : Sh} (hx : OkP x) (hy : OkP y) (w : Sh) (h : Lj x y) (c : Bool) : Lj (elseP x w c) (elseP y w c) := by
  have hu := used_rises hx hy h c
  have e1 : noneB (usedP x c) = !couldB (usedP x c) := none_of_could (by rw [used_eq hx]; exact used_u x c)
  have e2 : noneB (usedP y c) = !couldB (usedP y c) := none_of_could (by rw [used_eq hy]; exact used_u y c)
  unfold elseP
  rw [e1, e2]
  rcases Bool.eq_false_or_eq_true (couldB (usedP x c)) with h1 | h1
  · have h2 : couldB (usedP y c) = true := (could_iff (used_ok hy c)).2 (hu.le.could ((could_iff (used_ok hx c)).1 h1))
    rw [h1, h2]
    exact Lj.refl _
  · rw [h1]
    exact zero_lj _
theorem other_rises {x y w : Sh} (hx : OkP x) (hy : OkP y) (hw : OkP w) (h : Lj x y) (c : Bool) : Le (othP x w c) (othP y w c) := by
  have hu := else_rises hx hy w h c
  have ox := else_ok x hw c
  have oy := else_ok y hw c
  unfold othP
  rcases Bool.eq_false_or_eq_true (othB x c) with h1 | h1
  · rw [h1, oth_rises h h1]
    exact join_least ox (litSh_ok _) (hu.trans (join_left oy (litSh_ok _))).le (join_right oy (litSh_ok _)).le
  · rw [h1]
    cases othB y c with
    | false => exact hu.le
    | true => exact (hu.trans (join_left oy (litSh_ok _))).le
theorem meet_rises {p q r : Nat → Bool} (h : ∀ c, c < 256 → p c = true → q c = true) (hm : meetB p r = true) : meetB q r = true := by
  obtain ⟨c, hc, h1, h2⟩ := (meet_iff p r).1 hm
  exact (meet_iff q r).2 ⟨c, hc, h c hc h1, h2⟩
theorem split_rises {p q : Sh} (h : Lj p q) (i : Sh) (hs : splitB p i = true) : splitB q i = true := by
  unfold splitB at hs ⊢
  rcases Bool.eq_false_or_eq_true q.e with he | he
  · rw [he]; rfl
  · rw [he]
    rcases Bool.eq_false_or_eq_true p.e with hp | hp
    · exact no_both (h.e hp) he
    · rw [hp] at hs
      exact meet_rises h.h hs
theorem glob_rises {p q : Sh} (h : Lj p q) (hs : globB p = true) : globB q = true := meet_rises h.h hs

/-! what splits -/
theorem sep_has {y : Sh} (hy : OkP y) {is : Bool} {t r : ByteArray} (hm : mayB y is t = true) (hr : r = if is then t else ⟨#[32, 9, 10]⟩) (c : Nat) (hc : c < 256) (h : ofS r.data.toList c = true) : sepP y c = true := by
  unfold sepP
  cases is with
  | false =>
    have hu : y.u = true := hm
    subst hr
    rw [hu]
    show orS _ (ofS blanks) c = true
    unfold orS
    rw [show ofS blanks c = true from h, Bool.or_true]
  | true =>
    subst hr
    obtain ⟨p1, _, p3⟩ := (may_iff hy _).1 hm
    have hb : (if y.k then ofS y.l.data.toList else y.h) c = true := by
      rcases Bool.eq_false_or_eq_true y.k with hk | hk
      · rw [hk]
        show ofS y.l.data.toList c = true
        rw [p1 hk]; exact h
      · rw [hk]
        exact p3 c hc h
    cases y.u with
    | false => exact hb
    | true =>
      show orS _ (ofS blanks) c = true
      unfold orS
      rw [hb]; rfl
theorem not_split {x y : Sh} (hx : OkP x) (hy : OkP y) {is : Bool} {v t r : ByteArray} (hv : mayB x true v = true) (hm : mayB y is t = true) (hr : r = if is then t else ⟨#[32, 9, 10]⟩) (hs : splitB x y = false) :
    empB v = false ∧ ∀ c, c < 256 → ofS v.data.toList c = true → ofS r.data.toList c = false := by
  unfold splitB at hs
  obtain ⟨_, p2, p3⟩ := (may_iff hx v).1 hv
  rcases Bool.eq_false_or_eq_true x.e with he | he
  · rw [he] at hs; cases hs
  · rw [he] at hs
    refine ⟨bfalse fun h => no_both (p2 h) he, fun c hc h1 => bfalse fun h2 => ?_⟩
    exact no_both ((meet_iff _ _).2 ⟨c, hc, p3 c hc h1, sep_has hy hm hr c hc h2⟩) hs
theorem glob_has {x : Sh} (hx : OkP x) {v : ByteArray} (hv : mayB x true v = true) (c : Nat) (hc : c < 256) (h : ofS v.data.toList c = true) (hs : ofS signs c = true) : globB x = true :=
  (meet_iff _ _).2 ⟨c, hc, ((may_iff hx v).1 hv).2.2 c hc h, hs⟩
end Go.Proofs.Ytjdhidiocchkeaa
