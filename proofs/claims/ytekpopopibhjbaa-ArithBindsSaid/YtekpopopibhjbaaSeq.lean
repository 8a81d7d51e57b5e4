/-
  Regions that draw their order: operations that read (the head), then some that turn the world but nothing that the head reads (S holds behind each), then the last ones in one forced order (stores into what the head read among them). The head is taken by one walk in the order of the text; the rest comes step by step.
-/
import Derived.Test.YtekpopopibhjbaaHead
import Derived.StillTail
namespace Go.Proofs.Ytekpopopibhjbaa
open Go.RowKit

section
variable {P : Program} {ops : Array Oper} {md : Region.Mode} {Q : Exit → Act → World → Prop} {S : World → Prop}

/-- whatever order is picked for the next f, S behind each; then L -/
def wpHeadS (P : Program) (md : Region.Mode) (ops : Array Oper) (Q : Exit → Act → World → Prop) (S : World → Prop) (n : Nat) (L : Array Bool → Act → World → Prop) : Nat → Array Bool → Act → World → Prop
  | 0, listed, a, w => L listed a w
  | f + 1, listed, a, w => Region.ready md ops listed ≠ [] ∧ ∀ i ∈ Region.ready md ops listed, i < n ∧ wpOp P ops Q i (fun a' w' => S w' ∧ wpHeadS P md ops Q S n L f (listed.setIfInBounds i true) a' w') a w

theorem wpHeadS.any {n g : Nat} {L : Array Bool → Act → World → Prop} (hL : ∀ listed a w, L listed a w → wpAny P md ops Q g listed a w) :
    ∀ (f : Nat) (listed : Array Bool) (a : Act) (w : World), wpHeadS P md ops Q S n L f listed a w → wpAny P md ops Q (f + g) listed a w
  | 0, listed, a, w, h => by rw [Nat.zero_add]; exact hL _ _ _ h
  | f + 1, listed, a, w, h => by
    rw [show f + 1 + g = (f + g) + 1 by omega]
    exact ⟨fun h0 => absurd h0 h.1, fun i hi => wpOp_mono (fun a' w' h' => wpHeadS.any hL f _ a' w' h'.2) (h.2 i hi).2⟩

/-- in every world that meets S the operation yields v, and leaves the world as it is -/
def YieldsS (P : Program) (ops : Array Oper) (S : World → Prop) (o : Oper) (v : Value) (a : Act) : Prop :=
  (Region.wanted o (yielded ops a.tmps) = true ∧ ∀ w, S w → o.quietAt P a (fun w' => w' = w) w v) ∨ (Region.wanted o (yielded ops a.tmps) = false ∧ v = undef)
theorem YieldsS.held {o : Oper} {v : Value} {a : Act} (h : YieldsS P ops S o v a) : YieldsIf P ops (fun _ => False) o v a :=
  h.imp (fun h => ⟨h.1, fun _ hf => hf.elim⟩) id
theorem YieldsS.same {o : Oper} {v : Value} {a a' : Act} (hy : YieldsS P ops S o v a) (he : execOp a'.eval o = execOp a.eval o)
    (hw : Region.wanted o (yielded ops a'.tmps) = Region.wanted o (yielded ops a.tmps)) : YieldsS P ops S o v a' := by
  unfold YieldsS Oper.quietAt at *
  rw [he, hw]
  exact hy
theorem YieldsS.op {i : Nat} {o : Oper} {v : Value} {a : Act} (hi : ops[i]? = some o) (hy : YieldsS P ops S o v a) {K : Act → World → Prop} {w : World} (hw : S w)
    (h : K (a.put o.dst v) w) : wpOp P ops Q i K a w := by
  unfold wpOp
  simp only [hi]
  rcases hy with ⟨hq, hv⟩ | ⟨hq, rfl⟩
  · rw [if_pos hq]
    refine .inl ?_
    have h3 := hv w hw
    unfold Oper.quietAt at h3
    unfold Oper.wp
    generalize (execOp a.eval o).run P w = r at *
    cases r with
    | ok n w' =>
      cases n <;> simp only [Oper.quietUpon] at h3 <;> simp only [Oper.upon]
      case value u =>
        obtain ⟨e1, e2⟩ := h3
        rw [e1, e2]
        exact h
      case skip =>
        obtain ⟨e1, e2⟩ := h3
        rw [e1, ← e2]
        exact h
      case enter f args =>
        obtain ⟨e1, hc⟩ := h3
        rw [e1]
        exact hc.mono fun e w'' ⟨he, hw''⟩ => by subst he; subst hw''; exact h
    | halt x w' => simp only [Oper.quietUpon] at h3
  · rw [if_neg (by rw [hq]; exact Bool.false_ne_true)]
    exact h

theorem wpHeadS.first {n i : Nat} {oi : Oper} {v : Value} {L : Array Bool → Act → World → Prop} (hi : ops[i]? = some oi) (hsel : ∀ (j : Nat) (o : Oper) cs b, ops[j]? = some o → o.op ≠ .select cs b)
    (hQ : ∀ c a w, Q (.panic c) (a.put oi.dst v) w → Q (.panic c) a w)
    (hs : Region.sinkB md ops n = true) (hc : Region.chainB md ops n = true) (hn : n < ops.size) (hin : i < n) (hdone : ∀ listed a w, L listed a w → ∀ j ∈ Region.ready md ops listed, n ≤ j) :
    ∀ (f : Nat) (listed : Array Bool) (a : Act) (w : World), HeadInv md ops n listed →
      (∀ j oj, ops[j]? = some oj → j ≠ i → listed.getD j true = false → (∀ e ∈ oj.after, Region.binds md e = true → e.on ≠ i) → oi.apart ops oj = true) →
      i ∈ Region.ready md ops listed → YieldsS P ops S oi v a → S w →
      wpHeadS P md ops Q S n L f (listed.setIfInBounds i true) (a.put oi.dst v) w → wpHeadS P md ops Q S n L (f + 1) listed a w := by
  intro f
  induction f with
  | zero =>
    intro listed a w inv _ hr hy hS H
    have hun := (mem_ready.1 hr).1
    refine ⟨fun h => (by rw [h] at hr; cases hr), fun j hj => ?_⟩
    have hjn : j < n := Nat.lt_of_not_le fun h => tail_waits hs hc hn inv _ i rfl hin hun j h hj
    refine ⟨hjn, ?_⟩
    by_cases hji : j = i
    · subst hji; exact hy.op hi hS ⟨hS, H⟩
    · have := hdone _ _ _ H j (ready_mono hj hji)
      omega
  | succ f ih =>
    intro listed a w inv hfree hr hy hS H
    have hun := (mem_ready.1 hr).1
    refine ⟨fun h => (by rw [h] at hr; cases hr), fun j hj => ?_⟩
    have hjn : j < n := Nat.lt_of_not_le fun h => tail_waits hs hc hn inv _ i rfl hin hun j h hj
    refine ⟨hjn, ?_⟩
    by_cases hji : j = i
    · subst hji; exact hy.op hi hS ⟨hS, H⟩
    · have h1 := (H.2 j (ready_mono hj hji)).2
      obtain ⟨hjun, oj, hoj, hall⟩ := mem_ready.1 hj
      have hnot : ∀ e ∈ oj.after, Region.binds md e = true → e.on ≠ i := fun e he hb heq => by
        have h1 := hall e he hb
        rw [heq, getD_both hun] at h1
        cases h1
      have hap := hfree j oj hoj hji hjun hnot
      have h6 := wpOp_frame hoj (wpOp_putIf hoj hap (fun cs b => hsel i oi cs b hi) (fun cs b => hsel j oj cs b hoj) hQ hy.held h1)
      obtain ⟨_, _, hlook⟩ := Oper.apart_spec hap
      have hfree' : ∀ k ok, ops[k]? = some ok → k ≠ i → (listed.setIfInBounds j true).getD k true = false →
          (∀ e ∈ ok.after, Region.binds md e = true → e.on ≠ i) → oi.apart ops ok = true := fun k ok hk hki hun hno => by
        refine hfree k ok hk hki ?_ hno
        by_cases hjk : j = k
        · subst hjk; exact hjun
        · rw [getD_set_ne true hjk] at hun; exact hun
      refine wpOp_mono (fun a' w' h7 => ?_) h6
      obtain ⟨⟨u, ds, rfl⟩, _, hS', hU⟩ := h7
      refine ⟨hS', ih (listed.setIfInBounds j true) _ w' (inv.set hj hjn) hfree' (ready_mono hr (Ne.symm hji)) ?_ hS' ?_⟩
      · exact hy.same (execOp_put oi (fun cs b => hsel i oi cs b hi) { a with defers := ds } oj.dst u hlook) (wanted_put oi { a with defers := ds } oj.dst u hlook)
      · rw [Array.setIfInBounds_comm _ _ hji]
        exact hU

theorem headS_walk {A : Act} {n m f : Nat} {w0 : World} {L : Array Bool → Act → World → Prop} (hsel : Region.noSelect ops = true) (hQ : ∀ c a d v w, Q (.panic c) (Act.put a d v) w → Q (.panic c) a w)
    (hs : Region.sinkB md ops m = true) (hc : Region.chainB md ops m = true) (hm : m < ops.size) (hnm : n ≤ m) (hdone : ∀ listed a w, L listed a w → ∀ j ∈ Region.ready md ops listed, m ≤ j)
    (hS0 : S w0) (hr : wpHeadS P md ops Q S m L f (marks n 0 (Array.replicate ops.size false)) A w0) :
    ∀ (l : List Oper) (k : Nat) (listed : Array Bool) (a : Act), (∀ j, j < l.length → l[j]? = ops[k + j]?) → k + l.length = n → HeadInv md ops m listed → headB md ops l.length k listed = true → slotsB a.tmps.size l = true →
      marks l.length k listed = marks n 0 (Array.replicate ops.size false) →
      (∀ x, S x → wpQuiet P ops (fun w' => w' = x) (fun a' => a' = A) l a) → wpHeadS P md ops Q S m L (l.length + f) listed a w0
  | [], k, listed, a, _, _, _, _, _, hmk, h => by
    have e : a = A := h w0 hS0
    rw [e, show listed = marks n 0 (Array.replicate ops.size false) from hmk, List.length_nil, Nat.zero_add]
    exact hr
  | o :: l, k, listed, a, hl, hk, inv, hB, hsl, hmk, h => by
    have h0 : ops[k]? = some o := by simpa using (hl 0 (by simp)).symm
    simp only [List.length_cons, headB, Bool.and_eq_true] at hB
    obtain ⟨hrd, hfr, hB'⟩ := hB
    simp only [slotsB, Bool.and_eq_true] at hsl
    obtain ⟨hd1, hsl'⟩ := hsl
    have hkm : k < m := by simp only [List.length_cons] at hk; omega
    have hput : ∀ v, slotsB (a.put o.dst v).tmps.size l = true := fun v => by
      rw [show (a.put o.dst v).tmps.size = a.tmps.size by cases o.dst <;> simp [Act.put]]; exact hsl'
    have hl' : ∀ j, j < l.length → l[j]? = ops[k + 1 + j]? := fun j hj => by
      have := hl (j + 1) (by simp; omega)
      simpa [Nat.add_assoc, Nat.add_comm 1 j] using this
    have hr' : k ∈ Region.ready md ops listed := by simpa using hrd
    have hfin : ∀ v, YieldsS P ops S o v a → (∀ x, S x → wpQuiet P ops (fun w' => w' = x) (fun a' => a' = A) l (a.put o.dst v)) → wpHeadS P md ops Q S m L (l.length + 1 + f) listed a w0 := fun v hy hq => by
      rw [show l.length + 1 + f = (l.length + f) + 1 by omega]
      exact wpHeadS.first h0 (Region.noSelect_spec hsel) (fun c a w => hQ c a _ _ w) hs hc hm hkm hdone (l.length + f) listed a w0 inv (Region.free_spec h0 hfr) hr' hy hS0
        (headS_walk hsel hQ hs hc hm hnm hdone hS0 hr l (k + 1) _ _ hl' (by simp only [List.length_cons] at hk; omega) (inv.set hr' hkm) hB' (hput v) hmk hq)
    rw [List.length_cons]
    cases hod : o.dst with
    | none => rw [hod] at hd1; cases hd1
    | some d =>
      rw [hod] at hd1
      simp only [Bool.and_eq_true, decide_eq_true_eq] at hd1
      obtain ⟨hdn, hda⟩ := hd1
      cases hw : Region.wanted o (yielded ops a.tmps) with
      | true =>
        have hq : ∀ x, S x → ∃ v, (∀ w, w = x → o.quietAt P a (fun w' => w' = x) w v) ∧ wpQuiet P ops (fun w' => w' = x) (fun a' => a' = A) l (a.put o.dst v) := fun x hx => by
          have := h x hx
          unfold wpQuiet at this
          rw [if_pos hw] at this
          exact this
        have hval : ∀ (x : World) (v : Value), wpQuiet P ops (fun w' => w' = x) (fun a' => a' = A) l (a.put o.dst v) → v = A.tmps.getD d undef := fun x v hv => by
          rw [quiet_keeps d l _ hda hv, hod]
          simp [Act.put, hdn]
        refine hfin (A.tmps.getD d undef) (.inl ⟨hw, fun w hg => ?_⟩) fun x hx => ?_
        · obtain ⟨v, h1, h2⟩ := hq w hg
          rw [← hval _ v h2]
          exact h1 w rfl
        · obtain ⟨v, _, h2⟩ := hq x hx
          have e := hval x v h2
          rw [← e]
          exact h2
      | false =>
        refine hfin undef (.inr ⟨hw, rfl⟩) fun x hx => ?_
        have := h x hx
        unfold wpQuiet at this
        rw [if_neg (by rw [hw]; exact Bool.false_ne_true)] at this
        exact this

/-- what stands at the end: the rest in its forced order -/
def Rest (P : Program) (Q : Exit → Act → World → Prop) (l : List Oper) (m : Nat) (listed : Array Bool) (a : Act) (w : World) : Prop :=
  Region.seqB .any l.toArray (l.length - m) m listed = true ∧ wpList P l.toArray Q (l.drop m) a w
theorem wpHeadS_one {n f k : Nat} {L : Array Bool → Act → World → Prop} {listed : Array Bool} {a : Act} {w : World} (hr : Region.ready md ops listed = [k]) (hk : k < n)
    (h : wpOp P ops Q k (fun a' w' => S w' ∧ wpHeadS P md ops Q S n L f (listed.setIfInBounds k true) a' w') a w) : wpHeadS P md ops Q S n L (f + 1) listed a w :=
  ⟨by rw [hr]; exact List.cons_ne_nil _ _, fun i hi => by rw [hr, List.mem_singleton] at hi; subst hi; exact ⟨hk, h⟩⟩

/-- the region: its first n operations by one walk, those up to m one by one, the others in their order -/
theorem region_seq (n m : Nat) (S : World → Prop) {id : Nat} {a : Act} {w : World} {l : List Oper} (A : Act) (hm : P.follows .mixedOrders = true) (hsel : Region.noSelect l.toArray = true)
    (hB : headB .any l.toArray n 0 (Array.replicate l.length false) = true) (hs : Region.sinkB .any l.toArray m = true) (hc : Region.chainB .any l.toArray m = true) (hnm : n ≤ m) (hml : m < l.length) (hd : slotsB a.tmps.size (l.take n) = true)
    (hQ : ∀ c a d v w, Q (.panic c) (Act.put a d v) w → Q (.panic c) a w) (hS : S w.drew)
    (h : ∀ x, S x → wpQuiet P l.toArray (fun w' => w' = x) (fun a' => a' = A) (l.take n) a)
    (hr : wpHeadS P .any l.toArray Q S m (Rest P Q l m) (m - n) (marks n 0 (Array.replicate l.length false)) A w.drew) : (Code.region id l.toArray true).wp P Q a w := by
  have hlen : (l.take n).length = n := by rw [List.length_take]; omega
  have hdl : (l.drop m).length = l.length - m := by simp
  have inv0 : HeadInv .any l.toArray m (Array.replicate l.toArray.size false) :=
    ⟨by simp, fun j oj _ hl => (by rw [getD_replicate_false] at hl; cases hl), fun t _ ht => getD_in (by simpa using ht) (getD_replicate_false _ _)⟩
  have H := headS_walk (P := P) (md := .any) (Q := Q) (S := S) (n := n) (m := m) (f := m - n) (w0 := w.drew) (L := Rest P Q l m) hsel hQ hs hc (by simpa using hml) hnm (fun listed a w hL => seqB_ready hL.1) hS (by simpa using hr) (l.take n) 0 (Array.replicate l.length false) a
    (fun j hj => by rw [Nat.zero_add, List.getElem?_take]; rw [if_pos (by omega)]; simp) (by rw [hlen]; omega) (by simpa using inv0) (by rw [hlen]; exact hB) hd (by rw [hlen]; simp) h
  refine wp_region_any hm ?_
  have := wpHeadS.any (Q := Q) (g := l.length - m) (fun listed a' w' hL => by
    have := wpAny_of_seq (md := .any) (Q' := Q) (l.drop m) m listed a' w' (fun j => by simp [List.getElem?_drop]) (by rw [hdl]; exact hL.1) hL.2
    rwa [hdl] at this) _ _ _ _ H
  rw [hlen, show n + (m - n) + (l.length - m) = l.length by omega] at this
  simpa using this
end
end Go.Proofs.Ytekpopopibhjbaa
