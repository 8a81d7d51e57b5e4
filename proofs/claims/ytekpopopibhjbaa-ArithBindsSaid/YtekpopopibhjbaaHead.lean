/-
  Regions that draw their order and begin with operations that read, or call what only lays new memory, and end with others (new variables, stores into them): those of the head are taken first, in the order of the text; the rest is walked in each order, from any later world.
-/
import Derived.Test.YtekpopopibhjbaaLater
import Derived.OrdersHeld
namespace Go.Proofs.Ytekpopopibhjbaa
open Go.RowKit

/-- w' is w grown -/
def Gr (w w' : World) : Prop := Below w.heap.size w w'
theorem Gr.refl (w : World) : Gr w w := Below.refl _ _
theorem Gr.trans {a b c : World} (h : Gr a b) (k : Gr b c) : Gr a c := bel_step h k

theorem Gr.undrew {a b : World} (h : Gr a.drew b) : Gr a b := ⟨h.os, h.tape, h.output, h.size, h.block⟩

section
variable {P : Program} {ops : Array Oper} {md : Region.Mode} {Q : Exit → Act → World → Prop} {w0 : World}

/-- whatever order is picked, and however the memory grows between two operations; what was there at the beginning stays as it was -/
def wpAnyU (P : Program) (md : Region.Mode) (ops : Array Oper) (Q : Exit → Act → World → Prop) (w0 : World) : Nat → Array Bool → Act → World → Prop
  | 0, listed, a, w => ∀ w2, Gr w w2 → Region.ready md ops listed = [] ∧ Q .normal a w2
  | f + 1, listed, a, w => ∀ w2, Gr w w2 → (Region.ready md ops listed = [] → Q .normal a w2) ∧
      ∀ i ∈ Region.ready md ops listed, wpOp P ops Q i (fun a' w' => Gr w0 w' ∧ wpAnyU P md ops Q w0 f (listed.setIfInBounds i true) a' w') a w2

theorem wpAnyU.up : ∀ {f : Nat} {listed : Array Bool} {a : Act} {w w' : World}, wpAnyU P md ops Q w0 f listed a w → Gr w w' → wpAnyU P md ops Q w0 f listed a w'
  | 0, _, _, _, _, h, hg => fun w2 h2 => h w2 (hg.trans h2)
  | _ + 1, _, _, _, _, h, hg => fun w2 h2 => h w2 (hg.trans h2)

theorem wpAnyU.any : ∀ (f : Nat) (listed : Array Bool) (a : Act) (w : World), wpAnyU P md ops Q w0 f listed a w → wpAny P md ops Q f listed a w
  | 0, _, _, w, h => h w (Gr.refl w)
  | f + 1, _, _, w, h => ⟨(h w (Gr.refl w)).1, fun i hi => wpOp_mono (fun a' w' h' => wpAnyU.any f _ a' w' h'.2) ((h w (Gr.refl w)).2 i hi)⟩

/-- in every grown world the operation yields v, and the memory grows at most -/
def YieldsU (P : Program) (ops : Array Oper) (w0 : World) (o : Oper) (v : Value) (a : Act) : Prop :=
  (Region.wanted o (yielded ops a.tmps) = true ∧ ∀ w, Gr w0 w → o.quietAt P a (Gr w) w v) ∨ (Region.wanted o (yielded ops a.tmps) = false ∧ v = undef)

theorem YieldsU.held {o : Oper} {v : Value} {a : Act} (h : YieldsU P ops w0 o v a) : YieldsIf P ops (fun _ => False) o v a :=
  h.imp (fun h => ⟨h.1, fun _ hf => hf.elim⟩) id

theorem YieldsU.same {o : Oper} {v : Value} {a a' : Act} (hy : YieldsU P ops w0 o v a) (he : execOp a'.eval o = execOp a.eval o)
    (hw : Region.wanted o (yielded ops a'.tmps) = Region.wanted o (yielded ops a.tmps)) : YieldsU P ops w0 o v a' := by
  unfold YieldsU Oper.quietAt at *
  rw [he, hw]
  exact hy

theorem YieldsU.op {i : Nat} {o : Oper} {v : Value} {a : Act} (hi : ops[i]? = some o) (hy : YieldsU P ops w0 o v a) {K : Act → World → Prop} {w : World} (hw : Gr w0 w)
    (h : ∀ w', Gr w w' → K (a.put o.dst v) w') : wpOp P ops Q i K a w := by
  unfold wpOp
  simp only [hi]
  rcases hy with ⟨hq, hv⟩ | ⟨hq, rfl⟩
  · rw [if_pos hq]
    refine .inl ?_
    have h3 := hv w hw
    unfold Oper.quietAt at h3
    unfold Oper.wp
    generalize (execOp a.eval o).run P w = r at *
    cases r with
    | ok n w' =>
      cases n <;> simp only [Oper.quietUpon] at h3 <;> simp only [Oper.upon]
      case value u =>
        obtain ⟨e1, e2⟩ := h3
        rw [e1, e2]
        exact h _ (Gr.refl _)
      case skip =>
        obtain ⟨e1, e2⟩ := h3
        rw [e1, ← e2]
        exact h _ (Gr.refl _)
      case enter f args =>
        obtain ⟨e1, hc⟩ := h3
        rw [e1]
        exact hc.mono fun e w'' ⟨he, hw''⟩ => by subst he; exact h _ hw''
    | halt x w' => simp only [Oper.quietUpon] at h3
  · rw [if_neg (by rw [hq]; exact Bool.false_ne_true)]
    exact h _ (Gr.refl _)

/-- what an operation leaves of the frame -/
theorem wpOp_frame {j : Nat} {o : Oper} (hj : ops[j]? = some o) {K : Act → World → Prop} {a : Act} {w : World} (h : wpOp P ops Q j K a w) :
    wpOp P ops Q j (fun a' w' => (∃ (u : Value) (ds : List Deferred), a' = ({ a with defers := ds } : Act).put o.dst u) ∧ K a' w') a w := by
  unfold wpOp at *
  simp only [hj] at *
  split
  · rename_i hw
    rw [if_pos hw] at h
    rcases h with h | h
    case inr => exact .inr h
    refine .inl ?_
    unfold Oper.wp at *
    generalize (execOp a.eval o).run P w = r at *
    cases r with
    | ok n w' =>
      cases n <;> simp only [Oper.upon] at h ⊢
      case value u => exact ⟨⟨u, a.defers, rfl⟩, h⟩
      case skip => exact ⟨⟨undef, a.defers, rfl⟩, h⟩
      case defer d => exact ⟨⟨undef, d :: a.defers, rfl⟩, h⟩
      case enter f args =>
        refine Calls.mono h fun e w'' he => ?_
        cases e with
        | returned u => exact ⟨⟨u, a.defers, rfl⟩, he⟩
        | panicked c => exact he
        | outgrown => exact he
      case row row args => exact Rows.mono h fun u w'' he => ⟨⟨u, a.defers, rfl⟩, he⟩
    | halt x w' =>
      cases x <;> simp only [Oper.upon] at h ⊢
      case panic u => exact h
  · rename_i hw
    rw [if_neg hw] at h
    exact ⟨⟨undef, a.defers, rfl⟩, h⟩

/-- an operation that may come up now, and that only reads or lays new memory, may be taken first -/
theorem wpAnyU_first {i : Nat} {oi : Oper} {v : Value} (hi : ops[i]? = some oi) (hsel : ∀ (j : Nat) (o : Oper) cs b, ops[j]? = some o → o.op ≠ .select cs b)
    (hQ : ∀ c a w, Q (.panic c) (a.put oi.dst v) w → Q (.panic c) a w) :
    ∀ (fuel : Nat) (listed : Array Bool) (a : Act) (w : World), Gr w0 w →
      (∀ j oj, ops[j]? = some oj → j ≠ i → listed.getD j true = false → (∀ e ∈ oj.after, Region.binds md e = true → e.on ≠ i) → oi.apart ops oj = true) →
      i ∈ Region.ready md ops listed → YieldsU P ops w0 oi v a →
      wpAnyU P md ops Q w0 fuel (listed.setIfInBounds i true) (a.put oi.dst v) w → wpAnyU P md ops Q w0 (fuel + 1) listed a w := by
  intro fuel
  induction fuel with
  | zero =>
    intro listed a w hw _ hr hy H w2 h2
    refine ⟨fun h => (by rw [h] at hr; cases hr), fun j hj => ?_⟩
    by_cases hji : j = i
    · subst hji
      exact hy.op hi (hw.trans h2) fun w' hw' => ⟨(hw.trans h2).trans hw', H.up (h2.trans hw')⟩
    · have h3 := ready_mono hj hji
      rw [(H w2 h2).1] at h3
      cases h3
  | succ fuel ih =>
    intro listed a w hw hfree hr hy H w2 h2
    refine ⟨fun h => (by rw [h] at hr; cases hr), fun j hj => ?_⟩
    by_cases hji : j = i
    · subst hji
      exact hy.op hi (hw.trans h2) fun w' hw' => ⟨(hw.trans h2).trans hw', H.up (h2.trans hw')⟩
    · have h1 := (H w2 h2).2 j (ready_mono hj hji)
      obtain ⟨hjun, oj, hoj, hall⟩ := mem_ready.1 hj
      have hnot : ∀ e ∈ oj.after, Region.binds md e = true → e.on ≠ i := fun e he hb heq => by
        have h4 := hall e he hb
        have h5 := (mem_ready.1 hr).1
        rw [heq] at h4
        rcases Nat.lt_or_ge i listed.size with h' | h'
        · simp [h'] at h4 h5; rw [h5] at h4; cases h4
        · simp [Array.getElem?_eq_none h'] at h4
      have hap := hfree j oj hoj hji hjun hnot
      have h6 := wpOp_frame hoj (wpOp_putIf hoj hap (fun cs b => hsel i oi cs b hi) (fun cs b => hsel j oj cs b hoj) hQ hy.held h1)
      obtain ⟨_, _, hlook⟩ := Oper.apart_spec hap
      have hfree' : ∀ k ok, ops[k]? = some ok → k ≠ i → (listed.setIfInBounds j true).getD k true = false →
          (∀ e ∈ ok.after, Region.binds md e = true → e.on ≠ i) → oi.apart ops ok = true := fun k ok hk hki hun hno => by
        refine hfree k ok hk hki ?_ hno
        by_cases hjk : j = k
        · subst hjk; exact hjun
        · rw [getD_set_ne true hjk] at hun; exact hun
      refine wpOp_mono (fun a' w' h7 => ?_) h6
      obtain ⟨⟨u, ds, rfl⟩, _, hgr, hU⟩ := h7
      refine ⟨hgr, ih (listed.setIfInBounds j true) _ w' hgr hfree' (ready_mono hr (Ne.symm hji)) ?_ ?_⟩
      · exact hy.same (execOp_put oi (fun cs b => hsel i oi cs b hi) { a with defers := ds } oj.dst u hlook) (wanted_put oi { a with defers := ds } oj.dst u hlook)
      · rw [Array.setIfInBounds_comm _ _ hji]
        exact hU

/-- the first n operations from k on may each come up, and be taken first -/
def headB (md : Region.Mode) (ops : Array Oper) : Nat → Nat → Array Bool → Bool
  | 0, _, _ => true
  | n + 1, k, listed => (Region.ready md ops listed).contains k && (Region.free md ops listed k && headB md ops n (k + 1) (listed.setIfInBounds k true))
def marks : Nat → Nat → Array Bool → Array Bool
  | 0, _, listed => listed
  | n + 1, k, listed => marks n (k + 1) (listed.setIfInBounds k true)

/-- each operation writes a slot of its own -/
def slotsB (n : Nat) : List Oper → Bool
  | [] => true
  | o :: l => (match o.dst with | some d => decide (d < n) && l.all (fun o' => o'.dst != some d) | none => false) && slotsB n l

theorem quiet_keeps {C : World → Prop} {A : Act} (d : Tmp) : ∀ (l : List Oper) (a : Act), (l.all (fun o' => o'.dst != some d)) = true → wpQuiet P ops C (fun a' => a' = A) l a → A.tmps.getD d undef = a.tmps.getD d undef
  | [], a, _, h => by rw [show a = A from h]
  | o :: l, a, hd, h => by
    simp only [List.all_cons, Bool.and_eq_true] at hd
    have hput : ∀ v, (a.put o.dst v).tmps.getD d undef = a.tmps.getD d undef := fun v => by
      cases ho : o.dst with
      | none => rfl
      | some e =>
        have hne : e ≠ d := fun he => by have := hd.1; rw [ho, he] at this; simp at this
        simp [Act.put, Array.getElem?_setIfInBounds_ne hne]
    unfold wpQuiet at h
    split at h
    · obtain ⟨v, _, h2⟩ := h
      exact (quiet_keeps d l _ hd.2 h2).trans (hput v)
    · exact (quiet_keeps d l _ hd.2 h).trans (hput undef)

theorem quietAt_gr {o : Oper} {a : Act} {w : World} {v : Value} (h : o.quietAt P a (fun w' => ∃ y : Later w, w' = y.at_) w v) : o.quietAt P a (Gr w) w v := by
  unfold Oper.quietAt at *
  generalize (execOp a.eval o).run P w = r at *
  cases r with
  | ok n w' =>
    cases n <;> simp only [Oper.quietUpon] at h ⊢
    case value u => exact h
    case skip => exact h
    case enter f args => exact ⟨h.1, h.2.mono fun e w'' ⟨he, y, hy⟩ => ⟨he, hy ▸ y.below⟩⟩
  | halt x w' => simp only [Oper.quietUpon] at h

theorem head_walk {A : Act} {n m : Nat} (hs : Region.noSelect ops = true) (hQ : ∀ c a d v w, Q (.panic c) (Act.put a d v) w → Q (.panic c) a w)
    (hr : wpAnyU P md ops Q w0 m (marks n 0 (Array.replicate ops.size false)) A w0) :
    ∀ (l : List Oper) (k : Nat) (listed : Array Bool) (a : Act), (∀ j, j < l.length → l[j]? = ops[k + j]?) → headB md ops l.length k listed = true → slotsB a.tmps.size l = true →
      marks l.length k listed = marks n 0 (Array.replicate ops.size false) →
      (∀ x : Later w0, wpQuiet P ops (fun w' => ∃ y : Later x.at_, w' = y.at_) (fun a' => a' = A) l a) → wpAnyU P md ops Q w0 (l.length + m) listed a w0
  | [], k, listed, a, _, _, _, hmk, h => by
    have e : a = A := h ⟨w0, Below.refl _ _⟩
    rw [e, show listed = marks n 0 (Array.replicate ops.size false) from hmk, List.length_nil, Nat.zero_add]
    exact hr
  | o :: l, k, listed, a, hl, hB, hsl, hmk, h => by
    have h0 : ops[k]? = some o := by simpa using (hl 0 (by simp)).symm
    simp only [List.length_cons, headB, Bool.and_eq_true] at hB
    obtain ⟨hrd, hfr, hB'⟩ := hB
    simp only [slotsB, Bool.and_eq_true] at hsl
    obtain ⟨hd1, hsl'⟩ := hsl
    have hput : ∀ v, slotsB (a.put o.dst v).tmps.size l = true := fun v => by
      rw [show (a.put o.dst v).tmps.size = a.tmps.size by cases o.dst <;> simp [Act.put]]; exact hsl'
    have hl' : ∀ j, j < l.length → l[j]? = ops[k + 1 + j]? := fun j hj => by
      have := hl (j + 1) (by simp; omega)
      simpa [Nat.add_assoc, Nat.add_comm 1 j] using this
    have hfin : ∀ v, YieldsU P ops w0 o v a → (∀ x : Later w0, wpQuiet P ops (fun w' => ∃ y : Later x.at_, w' = y.at_) (fun a' => a' = A) l (a.put o.dst v)) → wpAnyU P md ops Q w0 (l.length + 1 + m) listed a w0 := fun v hy hq => by
      rw [show l.length + 1 + m = (l.length + m) + 1 by omega]
      exact wpAnyU_first h0 (Region.noSelect_spec hs) (fun c a w => hQ c a _ _ w) (l.length + m) listed a w0 (Gr.refl _) (Region.free_spec h0 hfr) (by simpa using hrd) hy
        (head_walk hs hQ hr l (k + 1) _ _ hl' hB' (hput v) hmk hq)
    rw [List.length_cons]
    cases hod : o.dst with
    | none => rw [hod] at hd1; cases hd1
    | some d =>
      rw [hod] at hd1
      simp only [Bool.and_eq_true, decide_eq_true_eq] at hd1
      obtain ⟨hdn, hda⟩ := hd1
      cases hw : Region.wanted o (yielded ops a.tmps) with
      | true =>
        have hq : ∀ x : Later w0, ∃ v, (∀ w, (∃ y : Later x.at_, w = y.at_) → o.quietAt P a (fun w' => ∃ y : Later x.at_, w' = y.at_) w v) ∧ wpQuiet P ops (fun w' => ∃ y : Later x.at_, w' = y.at_) (fun a' => a' = A) l (a.put o.dst v) := fun x => by
          have := h x
          unfold wpQuiet at this
          rw [if_pos hw] at this
          exact this
        have hval : ∀ (x : Later w0) (v : Value), wpQuiet P ops (fun w' => ∃ y : Later x.at_, w' = y.at_) (fun a' => a' = A) l (a.put o.dst v) → v = A.tmps.getD d undef := fun x v hv => by
          rw [quiet_keeps d l _ hda hv, hod]
          simp [Act.put, hdn]
        refine hfin (A.tmps.getD d undef) (.inl ⟨hw, fun w hg => ?_⟩) fun x => ?_
        · obtain ⟨v, h1, h2⟩ := hq ⟨w, hg⟩
          rw [← hval _ v h2]
          exact quietAt_gr (h1 w ⟨⟨w, Below.refl _ _⟩, rfl⟩)
        · obtain ⟨v, _, h2⟩ := hq x
          have e := hval x v h2
          rw [← e]
          exact h2
      | false =>
        refine hfin undef (.inr ⟨hw, rfl⟩) fun x => ?_
        have := h x
        unfold wpQuiet at this
        rw [if_neg (by rw [hw]; exact Bool.false_ne_true)] at this
        exact this

/-- the region: its first n operations by one walk, the rest from any later world -/
theorem region_head (n : Nat) {id : Nat} {a : Act} {w : World} {l : List Oper} (A : Act) (hm : P.follows .mixedOrders = true) (hs : Region.noSelect l.toArray = true)
    (hB : headB .any l.toArray n 0 (Array.replicate l.length false) = true) (hn : n ≤ l.length) (hd : slotsB a.tmps.size (l.take n) = true)
    (hQ : ∀ c a d v w, Q (.panic c) (Act.put a d v) w → Q (.panic c) a w)
    (h : ∀ x : Later w.drew, wpQuiet P l.toArray (fun w' => ∃ y : Later x.at_, w' = y.at_) (fun a' => a' = A) (l.take n) a)
    (hr : wpAnyU P .any l.toArray Q w.drew (l.length - n) (marks n 0 (Array.replicate l.length false)) A w.drew) : (Code.region id l.toArray true).wp P Q a w := by
  refine wp_region_any hm (wpAnyU.any _ _ _ _ (w0 := w.drew) ?_)
  have hlen : (l.take n).length = n := by rw [List.length_take]; omega
  have := head_walk (P := P) (md := .any) (Q := Q) (n := n) (m := l.length - n) hs hQ (by simpa using hr) (l.take n) 0 (Array.replicate l.length false) a
    (fun j hj => by rw [Nat.zero_add, List.getElem?_take]; rw [if_pos (by omega)]; simp) (by rw [hlen]; exact hB) hd (by rw [hlen]; simp) h
  rw [hlen, show n + (l.length - n) = l.length by omega] at this
  simpa using this

/-- one of those that may come up -/
theorem wpAnyU_all {rs : List Nat} {fuel : Nat} {listed : Array Bool} {a : Act} {w : World} (hr : Region.ready md ops listed = rs) (hne : rs ≠ [])
    (h : ∀ w2, Gr w w2 → ∀ i ∈ rs, wpOp P ops Q i (fun a' w' => Gr w0 w' ∧ wpAnyU P md ops Q w0 fuel (listed.setIfInBounds i true) a' w') a w2) : wpAnyU P md ops Q w0 (fuel + 1) listed a w :=
  fun w2 h2 => ⟨fun h0 => absurd (hr ▸ h0) hne, hr ▸ h w2 h2⟩
theorem wpAnyU_done {listed : Array Bool} {a : Act} {w : World} (hr : Region.ready md ops listed = []) (h : ∀ w2, Gr w w2 → Q .normal a w2) : wpAnyU P md ops Q w0 0 listed a w :=
  fun w2 h2 => ⟨hr, h w2 h2⟩
theorem wpOp_plain {i : Nat} {o : Oper} {K : Act → World → Prop} {a : Act} {w : World} (hi : ops[i]? = some o) (hg : o.guard = none) (h : o.wp P a w K Q) : wpOp P ops Q i K a w := by
  unfold wpOp
  simp only [hi]
  rw [if_pos (by simp [Region.wanted, hg])]
  exact .inl h
end
end Go.Proofs.Ytekpopopibhjbaa
