/-
  As Head, but a store into one block that was there (a result variable's) may come among the reads: those of the head read elsewhere, so they are taken first; the rest is walked in each order.
-/
import Derived.Test.YtmpneifjjnfckaaHead
namespace Go.Proofs.Ytmpneifjjnfckaa
open Go.RowKit

/-- w' is w grown; block b may have turned -/
structure Gx (b : Nat) (w w' : World) : Prop where
  os : w'.os = w.os
  tape : w'.tape = w.tape
  output : w'.output = w.output
  size : w.heap.size ≤ w'.heap.size
  block : ∀ k, k < w.heap.size → k ≠ b → w'.heap[k]? = w.heap[k]?
theorem Gx.refl (b : Nat) (w : World) : Gx b w w := ⟨rfl, rfl, rfl, Nat.le_refl _, fun _ _ _ => rfl⟩
theorem Gx.trans {b : Nat} {x y z : World} (h : Gx b x y) (k : Gx b y z) : Gx b x z :=
  ⟨k.os.trans h.os, k.tape.trans h.tape, k.output.trans h.output, Nat.le_trans h.size k.size, fun i hi hb => (k.block i (Nat.lt_of_lt_of_le hi h.size) hb).trans (h.block i hi hb)⟩
theorem Gx.of_below {b : Nat} {x y : World} (h : Below x.heap.size x y) : Gx b x y := ⟨h.os, h.tape, h.output, h.size, fun k hk _ => h.block k hk⟩
theorem Gx.grow {b : Nat} {x y z : World} (h : Gx b x y) (k : Gr y z) : Gx b x z := h.trans (Gx.of_below k)
theorem Gx.undrew {b : Nat} {x y : World} (h : Gx b x.drew y) : Gx b x y := ⟨h.os, h.tape, h.output, h.size, h.block⟩
theorem Gx.set {b : Nat} {x y : World} (h : Gx b x y) (i : Nat) (u : Value) : Gx b x (y.setCell ⟨b, i, none⟩ u) :=
  ⟨h.os, h.tape, h.output, Nat.le_trans h.size (by simp [World.setCell]), fun k hk hb => (Below.heap_setCell _ _ _ _ hb).trans (h.block k hk hb)⟩
theorem Gx.below {b : Nat} {w x y : World} (h : Gx b x y) (k : Below w.heap.size w x) (hb : w.heap.size ≤ b) : Below w.heap.size w y :=
  k.trans ⟨h.os, h.tape, h.output, h.size, fun i hi => h.block i (Nat.lt_of_lt_of_le hi k.size) (by omega)⟩
theorem lt_of_cellx {w : World} {a : Addr} {v : Value} (h : w.cell? a = some v) : a.block < w.heap.size := by
  rcases Nat.lt_or_ge a.block w.heap.size with hlt | hge
  · exact hlt
  · have : w.heap[a.block]? = none := Array.getElem?_eq_none hge
    simp [World.cell?, this] at h
theorem Gx.cell {b : Nat} {x y : World} (h : Gx b x y) {a : Addr} {u : Value} (hc : x.cell? a = some u) (hb : a.block ≠ b) : y.cell? a = some u := by
  have hlt : a.block < x.heap.size := lt_of_cellx hc
  exact (World.cell?_of_block (h.block a.block hlt hb)).trans hc
theorem BlkAt.gx {b c : Nat} {x y : World} {cs : Array Value} {t : TypeId} (h : BlkAt x c cs t) (g : Gx b x y) (hb : c ≠ b) : BlkAt y c cs t := (g.block c h.lt hb).trans h

structure LaterX (b : Nat) (w : World) where
  at_ : World
  below : Gx b w at_
instance (b : Nat) (w : World) : Nonempty (LaterX b w) := ⟨⟨w, Gx.refl b w⟩⟩

section
variable {P : Program} {ops : Array Oper} {md : Region.Mode} {Q : Exit → Act → World → Prop} {w0 : World} {b : Nat}

/-- whatever order is picked, and however the memory grows between two operations; what was there at the beginning stays as it was -/
def wpAnyX (b : Nat) (P : Program) (md : Region.Mode) (ops : Array Oper) (Q : Exit → Act → World → Prop) (w0 : World) : Nat → Array Bool → Act → World → Prop
  | 0, listed, a, w => ∀ w2, Gr w w2 → Region.ready md ops listed = [] ∧ Q .normal a w2
  | f + 1, listed, a, w => ∀ w2, Gr w w2 → (Region.ready md ops listed = [] → Q .normal a w2) ∧
      ∀ i ∈ Region.ready md ops listed, wpOp P ops Q i (fun a' w' => Gx b w0 w' ∧ wpAnyX b P md ops Q w0 f (listed.setIfInBounds i true) a' w') a w2

theorem wpAnyX.up : ∀ {f : Nat} {listed : Array Bool} {a : Act} {w w' : World}, wpAnyX b P md ops Q w0 f listed a w → Gr w w' → wpAnyX b P md ops Q w0 f listed a w'
  | 0, _, _, _, _, h, hg => fun w2 h2 => h w2 (hg.trans h2)
  | _ + 1, _, _, _, _, h, hg => fun w2 h2 => h w2 (hg.trans h2)

theorem wpAnyX.any : ∀ (f : Nat) (listed : Array Bool) (a : Act) (w : World), wpAnyX b P md ops Q w0 f listed a w → wpAny P md ops Q f listed a w
  | 0, _, _, w, h => h w (Gr.refl w)
  | f + 1, _, _, w, h => ⟨(h w (Gr.refl w)).1, fun i hi => wpOp_mono (fun a' w' h' => wpAnyX.any f _ a' w' h'.2) ((h w (Gr.refl w)).2 i hi)⟩

/-- in every grown world the operation yields v, and the memory grows at most -/
def YieldsX (b : Nat) (P : Program) (ops : Array Oper) (w0 : World) (o : Oper) (v : Value) (a : Act) : Prop :=
  (Region.wanted o (yielded ops a.tmps) = true ∧ ∀ w, Gx b w0 w → o.quietAt P a (Gr w) w v) ∨ (Region.wanted o (yielded ops a.tmps) = false ∧ v = undef)

theorem YieldsX.held {o : Oper} {v : Value} {a : Act} (h : YieldsX b P ops w0 o v a) : YieldsIf P ops (fun _ => False) o v a :=
  h.imp (fun h => ⟨h.1, fun _ hf => hf.elim⟩) id

theorem YieldsX.same {o : Oper} {v : Value} {a a' : Act} (hy : YieldsX b P ops w0 o v a) (he : execOp a'.eval o = execOp a.eval o)
    (hw : Region.wanted o (yielded ops a'.tmps) = Region.wanted o (yielded ops a.tmps)) : YieldsX b P ops w0 o v a' := by
  unfold YieldsX Oper.quietAt at *
  rw [he, hw]
  exact hy

theorem YieldsX.op {i : Nat} {o : Oper} {v : Value} {a : Act} (hi : ops[i]? = some o) (hy : YieldsX b P ops w0 o v a) {K : Act → World → Prop} {w : World} (hw : Gx b w0 w)
    (h : ∀ w', Gr w w' → K (a.put o.dst v) w') : wpOp P ops Q i K a w := by
  unfold wpOp
  simp only [hi]
  rcases hy with ⟨hq, hv⟩ | ⟨hq, rfl⟩
  · rw [if_pos hq]
    refine .inl ?_
    have h3 := hv w hw
    unfold Oper.quietAt at h3
    unfold Oper.wp
    generalize (execOp a.eval o).run P w = r at *
    cases r with
    | ok n w' =>
      cases n <;> simp only [Oper.quietUpon] at h3 <;> simp only [Oper.upon]
      case value u =>
        obtain ⟨e1, e2⟩ := h3
        rw [e1, e2]
        exact h _ (Gr.refl _)
      case skip =>
        obtain ⟨e1, e2⟩ := h3
        rw [e1, ← e2]
        exact h _ (Gr.refl _)
      case enter f args =>
        obtain ⟨e1, hc⟩ := h3
        rw [e1]
        exact hc.mono fun e w'' ⟨he, hw''⟩ => by subst he; exact h _ hw''
    | halt x w' => simp only [Oper.quietUpon] at h3
  · rw [if_neg (by rw [hq]; exact Bool.false_ne_true)]
    exact h _ (Gr.refl _)

/-- an operation that may come up now, and that only reads or lays new memory, may be taken first -/
theorem wpAnyX_first {i : Nat} {oi : Oper} {v : Value} (hi : ops[i]? = some oi) (hsel : ∀ (j : Nat) (o : Oper) cs b, ops[j]? = some o → o.op ≠ .select cs b)
    (hQ : ∀ c a w, Q (.panic c) (a.put oi.dst v) w → Q (.panic c) a w) :
    ∀ (fuel : Nat) (listed : Array Bool) (a : Act) (w : World), Gx b w0 w →
      (∀ j oj, ops[j]? = some oj → j ≠ i → listed.getD j true = false → (∀ e ∈ oj.after, Region.binds md e = true → e.on ≠ i) → oi.apart ops oj = true) →
      i ∈ Region.ready md ops listed → YieldsX b P ops w0 oi v a →
      wpAnyX b P md ops Q w0 fuel (listed.setIfInBounds i true) (a.put oi.dst v) w → wpAnyX b P md ops Q w0 (fuel + 1) listed a w := by
  intro fuel
  induction fuel with
  | zero =>
    intro listed a w hw _ hr hy H w2 h2
    refine ⟨fun h => (by rw [h] at hr; cases hr), fun j hj => ?_⟩
    by_cases hji : j = i
    · subst hji
      exact hy.op hi (hw.grow h2) fun w' hw' => ⟨(hw.grow h2).grow hw', H.up (h2.trans hw')⟩
    · have h3 := ready_mono hj hji
      rw [(H w2 h2).1] at h3
      cases h3
  | succ fuel ih =>
    intro listed a w hw hfree hr hy H w2 h2
    refine ⟨fun h => (by rw [h] at hr; cases hr), fun j hj => ?_⟩
    by_cases hji : j = i
    · subst hji
      exact hy.op hi (hw.grow h2) fun w' hw' => ⟨(hw.grow h2).grow hw', H.up (h2.trans hw')⟩
    · have h1 := (H w2 h2).2 j (ready_mono hj hji)
      obtain ⟨hjun, oj, hoj, hall⟩ := mem_ready.1 hj
      have hnot : ∀ e ∈ oj.after, Region.binds md e = true → e.on ≠ i := fun e he hb heq => by
        have h4 := hall e he hb
        have h5 := (mem_ready.1 hr).1
        rw [heq] at h4
        rcases Nat.lt_or_ge i listed.size with h' | h'
        · simp [h'] at h4 h5; rw [h5] at h4; cases h4
        · simp [Array.getElem?_eq_none h'] at h4
      have hap := hfree j oj hoj hji hjun hnot
      have h6 := wpOp_frame hoj (wpOp_putIf hoj hap (fun cs b => hsel i oi cs b hi) (fun cs b => hsel j oj cs b hoj) hQ hy.held h1)
      obtain ⟨_, _, hlook⟩ := Oper.apart_spec hap
      have hfree' : ∀ k ok, ops[k]? = some ok → k ≠ i → (listed.setIfInBounds j true).getD k true = false →
          (∀ e ∈ ok.after, Region.binds md e = true → e.on ≠ i) → oi.apart ops ok = true := fun k ok hk hki hun hno => by
        refine hfree k ok hk hki ?_ hno
        by_cases hjk : j = k
        · subst hjk; exact hjun
        · rw [getD_set_ne true hjk] at hun; exact hun
      refine wpOp_mono (fun a' w' h7 => ?_) h6
      obtain ⟨⟨u, ds, rfl⟩, _, hgr, hU⟩ := h7
      refine ⟨hgr, ih (listed.setIfInBounds j true) _ w' hgr hfree' (ready_mono hr (Ne.symm hji)) ?_ ?_⟩
      · exact hy.same (execOp_put oi (fun cs b => hsel i oi cs b hi) { a with defers := ds } oj.dst u hlook) (wanted_put oi { a with defers := ds } oj.dst u hlook)
      · rw [Array.setIfInBounds_comm _ _ hji]
        exact hU

theorem head_walkx {A : Act} {n m : Nat} (hs : Region.noSelect ops = true) (hQ : ∀ c a d v w, Q (.panic c) (Act.put a d v) w → Q (.panic c) a w)
    (hr : wpAnyX b P md ops Q w0 m (marks n 0 (Array.replicate ops.size false)) A w0) :
    ∀ (l : List Oper) (k : Nat) (listed : Array Bool) (a : Act), (∀ j, j < l.length → l[j]? = ops[k + j]?) → headB md ops l.length k listed = true → slotsB a.tmps.size l = true →
      marks l.length k listed = marks n 0 (Array.replicate ops.size false) →
      (∀ x : LaterX b w0, wpQuiet P ops (fun w' => ∃ y : Later x.at_, w' = y.at_) (fun a' => a' = A) l a) → wpAnyX b P md ops Q w0 (l.length + m) listed a w0
  | [], k, listed, a, _, _, _, hmk, h => by
    have e : a = A := h ⟨w0, Gx.refl b w0⟩
    rw [e, show listed = marks n 0 (Array.replicate ops.size false) from hmk, List.length_nil, Nat.zero_add]
    exact hr
  | o :: l, k, listed, a, hl, hB, hsl, hmk, h => by
    have h0 : ops[k]? = some o := by simpa using (hl 0 (by simp)).symm
    simp only [List.length_cons, headB, Bool.and_eq_true] at hB
    obtain ⟨hrd, hfr, hB'⟩ := hB
    simp only [slotsB, Bool.and_eq_true] at hsl
    obtain ⟨hd1, hsl'⟩ := hsl
    have hput : ∀ v, slotsB (a.put o.dst v).tmps.size l = true := fun v => by
      rw [show (a.put o.dst v).tmps.size = a.tmps.size by cases o.dst <;> simp [Act.put]]; exact hsl'
    have hl' : ∀ j, j < l.length → l[j]? = ops[k + 1 + j]? := fun j hj => by
      have := hl (j + 1) (by simp; omega)
      simpa [Nat.add_assoc, Nat.add_comm 1 j] using this
    have hfin : ∀ v, YieldsX b P ops w0 o v a → (∀ x : LaterX b w0, wpQuiet P ops (fun w' => ∃ y : Later x.at_, w' = y.at_) (fun a' => a' = A) l (a.put o.dst v)) → wpAnyX b P md ops Q w0 (l.length + 1 + m) listed a w0 := fun v hy hq => by
      rw [show l.length + 1 + m = (l.length + m) + 1 by omega]
      exact wpAnyX_first h0 (Region.noSelect_spec hs) (fun c a w => hQ c a _ _ w) (l.length + m) listed a w0 (Gx.refl b _) (Region.free_spec h0 hfr) (by simpa using hrd) hy
        (head_walkx hs hQ hr l (k + 1) _ _ hl' hB' (hput v) hmk hq)
    rw [List.length_cons]
    cases hod : o.dst with
    | none => rw [hod] at hd1; cases hd1
    | some d =>
      rw [hod] at hd1
      simp only [Bool.and_eq_true, decide_eq_true_eq] at hd1
      obtain ⟨hdn, hda⟩ := hd1
      cases hw : Region.wanted o (yielded ops a.tmps) with
      | true =>
        have hq : ∀ x : LaterX b w0, ∃ v, (∀ w, (∃ y : Later x.at_, w = y.at_) → o.quietAt P a (fun w' => ∃ y : Later x.at_, w' = y.at_) w v) ∧ wpQuiet P ops (fun w' => ∃ y : Later x.at_, w' = y.at_) (fun a' => a' = A) l (a.put o.dst v) := fun x => by
          have := h x
          unfold wpQuiet at this
          rw [if_pos hw] at this
          exact this
        have hval : ∀ (x : LaterX b w0) (v : Value), wpQuiet P ops (fun w' => ∃ y : Later x.at_, w' = y.at_) (fun a' => a' = A) l (a.put o.dst v) → v = A.tmps.getD d undef := fun x v hv => by
          rw [quiet_keeps d l _ hda hv, hod]
          simp [Act.put, hdn]
        refine hfin (A.tmps.getD d undef) (.inl ⟨hw, fun w hg => ?_⟩) fun x => ?_
        · obtain ⟨v, h1, h2⟩ := hq ⟨w, hg⟩
          rw [← hval _ v h2]
          exact quietAt_gr (h1 w ⟨⟨w, Below.refl _ _⟩, rfl⟩)
        · obtain ⟨v, _, h2⟩ := hq x
          have e := hval x v h2
          rw [← e]
          exact h2
      | false =>
        refine hfin undef (.inr ⟨hw, rfl⟩) fun x => ?_
        have := h x
        unfold wpQuiet at this
        rw [if_neg (by rw [hw]; exact Bool.false_ne_true)] at this
        exact this

/-- the region: its first n operations by one walk, the rest from any later world -/
theorem region_headx (b n : Nat) {id : Nat} {a : Act} {w : World} {l : List Oper} (A : Act) (hm : P.follows .mixedOrders = true) (hs : Region.noSelect l.toArray = true)
    (hB : headB .any l.toArray n 0 (Array.replicate l.length false) = true) (hn : n ≤ l.length) (hd : slotsB a.tmps.size (l.take n) = true)
    (hQ : ∀ c a d v w, Q (.panic c) (Act.put a d v) w → Q (.panic c) a w)
    (h : ∀ x : LaterX b w.drew, wpQuiet P l.toArray (fun w' => ∃ y : Later x.at_, w' = y.at_) (fun a' => a' = A) (l.take n) a)
    (hr : wpAnyX b P .any l.toArray Q w.drew (l.length - n) (marks n 0 (Array.replicate l.length false)) A w.drew) : (Code.region id l.toArray true).wp P Q a w := by
  refine wp_region_any hm (wpAnyX.any _ _ _ _ (b := b) (w0 := w.drew) ?_)
  have hlen : (l.take n).length = n := by rw [List.length_take]; omega
  have := head_walkx (b := b) (P := P) (md := .any) (Q := Q) (n := n) (m := l.length - n) hs hQ (by simpa using hr) (l.take n) 0 (Array.replicate l.length false) a
    (fun j hj => by rw [Nat.zero_add, List.getElem?_take]; rw [if_pos (by omega)]; simp) (by rw [hlen]; exact hB) hd (by rw [hlen]; simp) h
  rw [hlen, show n + (l.length - n) = l.length by omega] at this
  simpa using this

/-- one of those that may come up -/
theorem wpAnyX_all {rs : List Nat} {fuel : Nat} {listed : Array Bool} {a : Act} {w : World} (hr : Region.ready md ops listed = rs) (hne : rs ≠ [])
    (h : ∀ w2, Gr w w2 → ∀ i ∈ rs, wpOp P ops Q i (fun a' w' => Gx b w0 w' ∧ wpAnyX b P md ops Q w0 fuel (listed.setIfInBounds i true) a' w') a w2) : wpAnyX b P md ops Q w0 (fuel + 1) listed a w :=
  fun w2 h2 => ⟨fun h0 => absurd (hr ▸ h0) hne, hr ▸ h w2 h2⟩
theorem wpAnyX_done {listed : Array Bool} {a : Act} {w : World} (hr : Region.ready md ops listed = []) (h : ∀ w2, Gr w w2 → Q .normal a w2) : wpAnyX b P md ops Q w0 0 listed a w :=
  fun w2 h2 => ⟨hr, h w2 h2⟩
end
end Go.Proofs.Ytmpneifjjnfckaa
