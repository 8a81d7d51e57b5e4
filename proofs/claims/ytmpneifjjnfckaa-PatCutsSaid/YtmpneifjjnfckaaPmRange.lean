/-
  The statement 'for x := range seq { .. }' over an iterator that keeps rows of its own in memory between two rounds: what the caller owes is its invariant, which hangs on memory below the loop's own, and one walk of its body.
-/
import Derived.Test.YtmpneifjjnfckaaPmIter
namespace Go.Proofs.Ytmpneifjjnfckaa
open Go.RowKit Go.Shelf

/-- what a body keeps: all but the variable r -/
structure Kr (r : Nat) (w w' : World) : Prop where
  os : w'.os = w.os
  tape : w'.tape = w.tape
  output : w'.output = w.output
  size : w.heap.size ≤ w'.heap.size
  block : ∀ k, k < w.heap.size → k ≠ r → w'.heap[k]? = w.heap[k]?
theorem Kr.refl (r : Nat) (w : World) : Kr r w w := ⟨rfl, rfl, rfl, Nat.le_refl _, fun _ _ _ => rfl⟩
theorem Kr.set (r i : Nat) (w : World) (u : Value) : Kr r w (w.setCell ⟨r, i, none⟩ u) := ⟨rfl, rfl, rfl, by simp [World.setCell], fun k _ hr => Below.heap_setCell _ _ _ _ hr⟩

theorem Kr.kx {l r : Nat} {w w' : World} {o o' : Obj} (h : Kr r (w.putObj l o) w') : Kx l r w (w'.putObj l o') :=
  ⟨h.os, h.tape, h.output, by have := h.size; simp at this ⊢; exact this, fun k hk hl hr => by
    rw [World.putObj_heap_other hl, h.block k (by simpa using hk) hr, World.putObj_heap_other hl]⟩

/-- how a body may be left -/
def rangeEnd (r : Nat) (go : Nat → Bool) (I : List Nat → World → Prop) (Ix : Code → List Nat → World → Prop) (pre : List Nat) (x : Nat) (W : World) : Exit → Act → World → Prop
  | .normal, _, W' => go x = true ∧ Kr r W W' ∧ I (pre ++ [x]) W'
  | .ret, _, W' => go x = false ∧ Kr r W W' ∧ Ix .ret (pre ++ [x]) W'
  | .exit id, _, W' => go x = false ∧ Kr r W W' ∧ Ix (.exit id) (pre ++ [x]) W'
  | _, _, _ => False

theorem below_put {M l : Nat} {W W' : World} {o : Obj} (h : Below M W W') (hl : l < M) (k : W.heap[l]? = some o) : W'.heap[l]? = some o := (h.block l hl).trans k

/-- the iterator's contract, as the law asks it -/
def IterOk (P : Program) (m gf l r M N : Nat) (lb : Array Value) (go : Nat → Bool) (xs : List Nat) (W1 : World) : Prop :=
  ∀ (J Jx : List Nat → World → Prop), (∀ pre W W', J pre W → Below M W W' → J pre W') → (∀ pre W W', Jx pre W → Below M W W' → Jx pre W') →
    (∀ pre (x : Nat) W, J pre W → x ≤ N → YieldAt Fence.wide m P l #[.int .i64 (x : Int)] W fun e W' => e = .returned (.bool (go x)) ∧ Kx l r W W' ∧ (go x = true → J (pre ++ [x]) W') ∧ (go x = false → Jx (pre ++ [x]) W')) →
    J [] W1 → Calls P gf (#[.func (.yield l) #[] #[]] ++ lb) W1 fun e W' => (∃ v, e = .returned v) ∧ ((J xs W' ∧ ∀ x ∈ xs, go x = true) ∨ ∃ pre x, pre ++ [x] <+: xs ∧ (∀ y ∈ pre, go y = true) ∧ go x = false ∧ Jx (pre ++ [x]) W')

theorem wp_rangeIt {P : Program} {g : Operand} {ps : Array Tmp} {assign body : Code} {Q : Exit → Act → World → Prop} {a : Act} {w : World} (m : Nat)
    {gf : Nat} {lb : Array Value} (hg : a.eval g = .func (.func gf) #[] lb) (eg : ∀ args w, (callFunc gf args).run P w = .ok (.enter gf args) w) (hps : ps.size = 1)
    (r N : Nat) (hr : r < w.heap.size) (go : Nat → Bool) (xs : List Nat) (I : List Nat → World → Prop) (Ix : Code → List Nat → World → Prop)
    (hit : ∀ W1, Below w.heap.size w W1 → W1.heap.size = w.heap.size + 1 + 1 → IterOk P m gf (w.heap.size + 1) r (w.heap.size + 1 + 1) N lb go xs W1)
    (hI : ∀ pre W W', I pre W → Below w.heap.size W W' → I pre W') (hIx : ∀ c pre W W', Ix c pre W → Below w.heap.size W W' → Ix c pre W')
    (h0 : I [] w) (a₁ : Nat → Act)
    (hassign : ∀ (l x : Nat) (W : World) (K : Act → World → Prop), K (a₁ x) W → assign.wpIn (Fence.wide.inRound l) m P (Exit.then K (fun _ _ _ => False)) { tmps := (ps.zip #[.int .i64 (x : Int)]).foldl (fun t (p, v) => t.setIfInBounds p v) a.tmps, defers := [] } W)
    (hbody : ∀ (l : Nat) (pre : List Nat) (x : Nat) (W : World), I pre W → x ≤ N → body.wpIn (Fence.wide.inRound l) m P (rangeEnd r go I Ix pre x W) (a₁ x) W)
    (hdone : ∀ W, I xs W → (∀ x ∈ xs, go x = true) → Below w.heap.size W W → W.heap[w.heap.size]? = some (.deferred (some [])) → Q .normal { a with defers := { target := .collected w.heap.size, args := #[] } :: a.defers } W)
    (hstop : ∀ c pre x W, pre ++ [x] <+: xs → (∀ y ∈ pre, go y = true) → go x = false → Ix c (pre ++ [x]) W → W.heap[w.heap.size]? = some (.deferred (some [])) → c.wp P Q { a with defers := { target := .collected w.heap.size, args := #[] } :: a.defers } W) :
    (Code.rangeFunc g ps assign body).wp P Q a w := by
  refine (wpIn_wide (n := m)).1 (wpIn_rangeFunc ?_)
  intro fn hfn
  show ∃ (l : Nat) (mark : List Deferred) (w₁ : World) (d : Deferred) (w₁' : World) (f : FuncId) (args : Array Value) (w₂ : World),
      (Instr.enterLoop fn a.tmps ps assign body none).run P w = .ok (l, mark) w₁ ∧ _
  obtain ⟨rec, hrec⟩ : ∃ rec : LoopState → Option Code → Loop, rec = fun st pe => { state := st, pending := pe, fn, tmps := a.tmps, params := ps, assign, body, defers := w.heap.size } := ⟨_, rfl⟩
  obtain ⟨W1, hW1⟩ : ∃ W1, (w.alloc (.deferred (some []))).alloc (.loop (rec .ready none)) = W1 := ⟨_, rfl⟩
  have hL1 : W1.heap[w.heap.size + 1]? = some (.loop (rec .ready none)) := by
    rw [← hW1]; have := World.alloc_heap_new (w.alloc (.deferred (some []))) (.loop (rec .ready none)); rwa [World.size_alloc] at this
  have hK1 : W1.heap[w.heap.size]? = some (.deferred (some [])) := by
    rw [← hW1]; exact (Below.heap_alloc _ _ _ (by simp)).trans (World.alloc_heap_new w _)
  have hz1 : W1.heap.size = w.heap.size + 1 + 1 := by rw [← hW1]; simp
  have hb1 : Below w.heap.size w W1 := by rw [← hW1]; exact bel_alloc (bel_alloc (Below.refl _ _) _) _
  have keepI : ∀ {pre : List Nat} {W : World} (o : Obj), I pre W → I pre (W.putObj (w.heap.size + 1) o) := fun o h => hI _ _ _ h ⟨rfl, rfl, rfl, by simp, fun k hk => World.putObj_heap_other (by omega)⟩
  have keepIx : ∀ {c : Code} {pre : List Nat} {W : World} (o : Obj), Ix c pre W → Ix c pre (W.putObj (w.heap.size + 1) o) := fun o h => hIx _ _ _ _ h ⟨rfl, rfl, rfl, by simp, fun k hk => World.putObj_heap_other (by omega)⟩
  have hsz : ∀ {W : World} {o : Obj}, W.heap[w.heap.size + 1]? = some o → w.heap.size + 1 < W.heap.size := fun h => (Array.getElem?_eq_some_iff.1 h).1
  refine ⟨w.heap.size + 1, [{ target := .collected w.heap.size, args := #[] }], W1, { target := .fn (.func gf) lb, args := #[.func (.yield (w.heap.size + 1)) #[] #[]] }, W1, gf,
    #[.func (.yield (w.heap.size + 1)) #[] #[]] ++ lb, W1, ?_, ?_, fun _ _ => trivial, ?_, fun h => (by cases h), ?_⟩
  · rw [← hW1, hrec]; exact run_enterLoop_outer _ _ _ _ _
  · simp only [resolve, hg]
    simp [go_sem]
  · simp [invoke, go_sem, eg]
  · refine callsIn_wide.2 ((hit W1 hb1 hz1
      (fun pre W => I pre W ∧ W.heap[w.heap.size + 1]? = some (.loop (rec .ready none)) ∧ W.heap[w.heap.size]? = some (.deferred (some [])))
      (fun pre W => ∃ c, Ix c pre W ∧ W.heap[w.heap.size + 1]? = some (.loop (rec .done (some c))) ∧ W.heap[w.heap.size]? = some (.deferred (some [])))
      (fun pre W W' hs hb => ⟨hI _ _ _ hs.1 (hb.mono (by omega)), below_put hb (by omega) hs.2.1, below_put hb (by omega) hs.2.2⟩)
      (fun pre W W' ⟨c, hc, h1, h2⟩ hb => ⟨c, hIx _ _ _ _ hc (hb.mono (by omega)), below_put hb (by omega) h1, below_put hb (by omega) h2⟩)
      ?_ ⟨hI _ _ _ h0 hb1, hL1, hK1⟩).mono ?_)
    · rintro pre x W ⟨hi, hl, hk⟩ hxN
      have hlt := hsz hl
      have hy := run_yield (P := P) (args := #[.int .i64 (x : Int)]) hl (by rw [hrec]; simp [hps])
      rw [hrec] at hy
      refine ⟨fn, _, assign, body, hy, roundIn_of_wpIn hfn (hassign _ x W _ ⟨_, run_beginRound hl (by rw [hrec]), ?_⟩)⟩
      obtain ⟨WB, hWB⟩ : ∃ WB, W.putObj (w.heap.size + 1) (.loop { rec .ready none with state := .busy }) = WB := ⟨_, rfl⟩
      have hl2 : WB.heap[w.heap.size + 1]? = some (.loop { rec .ready none with state := .busy }) := by rw [← hWB]; exact World.putObj_heap_same hlt
      have hk2 : WB.heap[w.heap.size]? = some (.deferred (some [])) := by rw [← hWB]; exact (World.putObj_heap_other (by omega)).trans hk
      have hi2 : I pre WB := by rw [← hWB]; exact keepI _ hi
      rw [hWB]
      refine wpIn_mono (hbody _ pre x WB hi2 hxN) ?_
      have fin : ∀ (jump : Option Code) (W3 : World), Kr r WB W3 →
          (Instr.endRound (w.heap.size + 1) jump).run P W3 = .ok (.bool jump.isNone) (W3.putObj (w.heap.size + 1) (.loop (rec (if jump.isNone then .ready else .done) jump))) ∧
          Kx (w.heap.size + 1) r W (W3.putObj (w.heap.size + 1) (.loop (rec (if jump.isNone then .ready else .done) jump))) ∧
          (W3.putObj (w.heap.size + 1) (.loop (rec (if jump.isNone then .ready else .done) jump))).heap[w.heap.size + 1]? = some (.loop (rec (if jump.isNone then .ready else .done) jump)) ∧
          (W3.putObj (w.heap.size + 1) (.loop (rec (if jump.isNone then .ready else .done) jump))).heap[w.heap.size]? = some (.deferred (some [])) := fun jump W3 hk3 => by
        have hl3 := (hk3.block _ (hsz hl2) (by omega)).trans hl2
        have hrun := run_endRound (P := P) jump hl3
        have hd3 := (hk3.block _ (by have := hsz hl2; omega) (by omega)).trans hk2
        refine ⟨?_, ?_, World.putObj_heap_same (hsz hl3), (World.putObj_heap_other (by omega)).trans hd3⟩
        · rw [hrec] at hrun ⊢; exact hrun
        · rw [← hWB] at hk3; exact hk3.kx
      rintro e a3 W3 hp
      cases e with
      | normal =>
        obtain ⟨hgo, hkr, hI3⟩ := hp
        obtain ⟨h1, h2, h3, h4⟩ := fin none W3 hkr
        exact ⟨_, _, h1, by rw [hgo]; rfl, h2, fun _ => ⟨keepI _ hI3, h3, h4⟩, fun h => (by rw [hgo] at h; cases h)⟩
      | ret =>
        obtain ⟨hgo, hkr, hI3⟩ := hp
        obtain ⟨h1, h2, h3, h4⟩ := fin (some .ret) W3 hkr
        exact ⟨_, _, h1, by rw [hgo]; rfl, h2, fun h => (by rw [hgo] at h; cases h), fun _ => ⟨_, keepIx _ hI3, h3, h4⟩⟩
      | exit id =>
        obtain ⟨hgo, hkr, hI3⟩ := hp
        obtain ⟨h1, h2, h3, h4⟩ := fin (some (.exit id)) W3 hkr
        exact ⟨_, _, h1, by rw [hgo]; rfl, h2, fun h => (by rw [hgo] at h; cases h), fun _ => ⟨_, keepIx _ hI3, h3, h4⟩⟩
      | goto t => exact hp.elim
      | panic c => exact hp.elim
      | outgrown => exact hp.elim
    · rintro e W' ⟨⟨v, rfl⟩, ⟨⟨hi, hl, hk⟩, hall⟩ | ⟨pre, x, hpre, hall, hgo, c, hc, hl, hk⟩⟩
      · have he := run_endLoop (P := P) hl (by rw [hrec]; simp)
        rw [hrec] at he
        exact ⟨none, _, he, hdone _ (keepI _ hi) hall (Below.refl _ _) ((World.putObj_heap_other (by omega)).trans hk)⟩
      · have he := run_endLoop (P := P) hl (by rw [hrec]; simp)
        rw [hrec] at he
        exact ⟨some c, _, he, wpIn_wide.2 (hstop c pre x _ hpre hall hgo (keepIx _ hc) ((World.putObj_heap_other (by omega)).trans hk))⟩
end Go.Proofs.Ytmpneifjjnfckaa
