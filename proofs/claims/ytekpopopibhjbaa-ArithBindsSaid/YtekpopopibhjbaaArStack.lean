/-
  A row of numbers that a call owns, as a stack (StkAt); plain steps of Eval.
-/
import Derived.Test.YtekpopopibhjbaaArDone
import Derived.Test.YtekpopopibhjbaaPmRow
namespace Go.Proofs.Ytekpopopibhjbaa
open Go.RowKit

def intW (n : Int) : Value := .int .i64 n
theorem info_int : (Try.prog.info? 3).map (fun i => (i.zero, i.size, i.bytes)) = some (some (.int .i64 0), 1, 8) := by kernel_rfl
/-- the numbers st, the last first, in a row of the call's own -/
def StkAt (w : World) (B : Nat) (lv : Value) (st : List Int) : Prop := w.ownsRow B 3 1 lv st.length (st.reverse.map intW)

theorem own_take {w : World} {base : Nat} {e : TypeId} {g n m cap : Nat} {xs : List Value} (h : w.ownsRow base e 1 (.slice (some ⟨g, 0, none⟩) n cap) n xs) (hm : m ≤ n) : w.ownsRow base e 1 (.slice (some ⟨g, 0, none⟩) m cap) m (xs.take m) := by
  have hl := h.1
  refine ⟨by rw [List.length_take]; omega, .inr ?_⟩
  rcases h.2 with ⟨h0, _⟩ | ⟨g', cap', cur, hv, hb, hg, hnc, hcm, hcs, ht⟩
  · cases h0
  · injection hv with h1 _ h3
    injection h1 with h1
    injection h1 with h1 _ _
    subst h1
    subst h3
    refine ⟨g, cap, cur, rfl, hb, hg, by omega, hcm, hcs, ?_⟩
    rw [← ht, List.take_take, Nat.mul_one, Nat.mul_one, Nat.min_eq_left hm]
theorem StkAt.nil (w : World) (B : Nat) : StkAt w B (.slice none 0 0) [] := World.ownsRow_nil _ _ _ _
theorem StkAt.after {w w' : World} {B : Nat} {lv : Value} {st : List Int} (h : StkAt w B lv st) (hb : Below w.heap.size w w') : StkAt w' B lv st := own_aft h hb
/-- none, or a block's first cells -/
theorem StkAt.form {w : World} {B : Nat} {lv : Value} {st : List Int} (h : StkAt w B lv st) : (lv = .slice none 0 0 ∧ st = []) ∨ ∃ g cap, lv = .slice (some ⟨g, 0, none⟩) st.length cap ∧ st.length ≤ cap ∧ cap ≤ maxLen := by
  rcases h.2 with ⟨h1, h2⟩ | ⟨g, cap, cur, h1, h2, h3, h4, h5, _⟩
  · exact .inl ⟨h1, List.eq_nil_of_length_eq_zero h2⟩
  · exact .inr ⟨g, cap, h1, h4, h5⟩
theorem StkAt.form2 {w : World} {B : Nat} {lv : Value} {st : List Int} (h : StkAt w B lv st) : ∃ ao c, lv = .slice ao st.length c := by
  rcases h.form with ⟨h1, h2⟩ | ⟨g, cp, h1, _⟩
  · exact ⟨none, 0, by rw [h1, h2]; rfl⟩
  · exact ⟨_, _, h1⟩
theorem wpList_append_runI {P : Program} {ops : Array Oper} {rest : List Oper} {o : Oper} {a : Act} {w : World} {Q : Exit → Act → World → Prop} (hw : Region.wanted o (yielded ops a.tmps) = true) (s x : Operand) (t : TypeId)
    (ho : o.op = .call { callee := .builtin .append, args := #[s, x], argTypes := #[t, t] }) (v xv v' : Value) (w' : World) (hs : a.eval s = v) (hx : a.eval x = xv)
    (hr : (Builtin.append_ #[t, t] o.type #[v, xv]).run P w = .ok v' w') (h : wpList P ops Q rest (a.put o.dst v') w') : wpList P ops Q (o :: rest) a w := by
  simp only [wpList, hw, if_true]
  unfold Oper.wp execOp
  simp only [ho, resolve, invoke, builtin, Sem.run_bind, Sem.run_pure, Result.andThen_ok, List.map_toArray, List.map_cons, List.map_nil, hs, hx, hr]
  exact .inl h
theorem stk_cell {w : World} {B g cap : Nat} {st : List Int} (h : StkAt w B (.slice (some ⟨g, 0, none⟩) st.length cap) st) {j : Nat} {x : Int} (hj : st.reverse[j]? = some x) : w.cell? ⟨g, j, none⟩ = some (.int .i64 x) := by
  have hl : j < st.length := by
    have := (List.getElem?_eq_some_iff.1 hj).1
    simpa using this
  unfold StkAt at h
  rw [h.cellAt j (by omega), List.getElem?_map, hj]
  rfl
/-- the last a are gone -/
theorem StkAt.drop {w : World} {B g cap : Nat} {st : List Int} (h : StkAt w B (.slice (some ⟨g, 0, none⟩) st.length cap) st) (a m : Nat) (hm : m + a = st.length) : StkAt w B (.slice (some ⟨g, 0, none⟩) m cap) (st.drop a) := by
  have h2 := own_take (m := m) h (by omega)
  have hl : (st.drop a).length = m := by simp; omega
  unfold StkAt
  rw [hl]
  have e : (st.drop a).reverse = st.reverse.take m := by
    rw [List.reverse_drop, show st.length - a = m by omega]
  rw [e, List.map_take]
  exact h2
structure PushedInt (w : World) (B : Nat) (rv : Value) (st : List Int) (x : Int) (lv : Value) (w2 : World) : Prop where
  run : (Builtin.append_ #[44, 44] 44 #[rv, .slice (some ⟨w.heap.size, 0, none⟩) 1 1]).run Try.prog (w.alloc (.cells #[.int .i64 x] 3)) = .ok lv w2
  stk : StkAt w2 B lv (x :: st)
  bel : Below B w w2
theorem StkAt.push {w : World} {B : Nat} {rv : Value} {st : List Int} (h : StkAt w B rv st) (x : Int) (hl : st.length ≤ 2000000) (hB : B ≤ w.heap.size) : ∃ g cap w2, PushedInt w B rv st x (.slice (some ⟨g, 0, none⟩) (st.length + 1) cap) w2 := by
  obtain ⟨i0, hi, hz0, hz1, hz2⟩ := info_parts info_int
  have hrow : (w.alloc (.cells #[.int .i64 x] 3)).ownsRow B 3 1 rv st.length (st.reverse.map intW) := World.ownsRow.alloc h _
  have hrl := World.ownsRow.lt h
  obtain ⟨v', w2, h1, h2, h3, _⟩ := run_append_own (P := Try.prog) (w.alloc (.cells #[.int .i64 x] 3)) B 44 44 3 i0 _ 1 8 Try.underlying44 hi hz0 hz1 hz2 rfl (by decide) rv _ _ hrow ⟨w.heap.size, 0, none⟩ 1 1 [.int .i64 x] rfl (fun j u hj => by
      match j, hj with
      | 0, hj => simp at hj; subst hj; simp [Addr.add]) (fun u hu => by
      simp only [List.mem_cons, List.not_mem_nil, or_false] at hu
      subst hu; rfl) (by unfold maxLen; omega) (by omega) (by simp; omega)
  have hf : ∃ g cap, v' = .slice (some ⟨g, 0, none⟩) (st.length + 1) cap := by
    rcases h2.2 with ⟨_, h0⟩ | ⟨g1, cap, cur, hv, _⟩
    · omega
    · exact ⟨g1, cap, hv⟩
  obtain ⟨g, cap, rfl⟩ := hf
  refine ⟨g, cap, w2, h1, ?_, ((Below.refl B w).alloc hB _).grown h3 (by simp; omega) (fun k hk => (hrl k hk).1)⟩
  unfold StkAt
  rw [List.length_cons, List.reverse_cons, List.map_append]
  exact h2

section
variable {val : List UInt8 → List UInt8} {o : AOp} {l : List AOp} {st : List Int} {x e : Int}
theorem run_ok {st' : List Int} (h : stepP val st o = (st', 0)) : runP val (o :: l) st = runP val l st' := by
  simp [runP, h]
theorem run_err (h : (stepP val st o).2 = e) (he : e ≠ 0) : runP val (o :: l) st = ([], e) := by
  simp [runP, h, he]
theorem step_bad (h : (asksP o.kind).2 = false) : (stepP val st o).2 = 6 := by
  unfold asksP at h
  unfold stepP
  by_cases h1 : o.kind = 1
  · simp [h1] at h
  by_cases h2 : o.kind = 2
  · simp [h2] at h
  by_cases h3 : 3 ≤ o.kind ∧ o.kind ≤ 5
  · simp [h1, h2, h3] at h
  by_cases h4 : 6 ≤ o.kind ∧ o.kind ≤ 18
  · rw [if_neg (by omega), if_neg h3, if_pos h4] at h; simp at h
  · rw [if_neg h1, if_neg h2, if_neg h3, if_neg h4]
theorem asks_cases (k : Nat) : ((asksP k).2 = false) ∨ (k = 1 ∧ asksP k = (0, true)) ∨ (k = 2 ∧ asksP k = (0, true)) ∨ (3 ≤ k ∧ k ≤ 5 ∧ asksP k = (1, true)) ∨ (6 ≤ k ∧ k ≤ 18 ∧ asksP k = (2, true)) := by
  unfold asksP
  by_cases h1 : k = 1
  · right; left; simp [h1]
  by_cases h2 : k = 2
  · right; right; left; simp [h2]
  by_cases h3 : 3 ≤ k ∧ k ≤ 5
  · right; right; right; left; simp [h1, h2, h3]
  by_cases h4 : 6 ≤ k ∧ k ≤ 18
  · right; right; right; right; rw [if_neg (by omega), if_neg h3, if_pos h4]; simp [h4]
  · left; rw [if_neg (by omega), if_neg h3, if_neg h4]
theorem step_few1 (h : 3 ≤ o.kind ∧ o.kind ≤ 5) (hs : st.length < 1) : (stepP val st o).2 = 6 := by
  cases st with
  | nil => unfold stepP; rw [if_neg (by omega), if_neg (by omega), if_pos h]
  | cons a r => simp at hs
theorem step_few2 (h : 6 ≤ o.kind ∧ o.kind ≤ 18) (hs : st.length < 2) : (stepP val st o).2 = 6 := by
  unfold stepP
  rw [if_neg (by omega), if_neg (by omega), if_neg (by omega), if_pos h]
  cases st with
  | nil => rfl
  | cons a r =>
    cases r with
    | nil => rfl
    | cons b r => simp only [List.length_cons] at hs; omega
theorem step_num (h : o.kind = 1) : stepP val st o = (o.n :: st, 0) := by
  unfold stepP; rw [if_pos h]
theorem step_name_ok (h : o.kind = 2) (hv : valN (val o.name) = some x) : stepP val st o = (x :: st, 0) := by
  unfold stepP; rw [if_neg (by omega), if_pos h, hv]
theorem step_name_err (h : o.kind = 2) (hv : valN (val o.name) = none) : (stepP val st o).2 = 13 := by
  unfold stepP; rw [if_neg (by omega), if_pos h, hv]
theorem step_one {a : Int} {r : List Int} (h : 3 ≤ o.kind ∧ o.kind ≤ 5) : stepP val (a :: r) o = (oneP o.kind a :: r, 0) := by
  unfold stepP; rw [if_neg (by omega), if_neg (by omega), if_pos h]
theorem step_two_ok {a b : Int} {r : List Int} (h : 6 ≤ o.kind ∧ o.kind ≤ 18) (ht : (twoP o.kind a b).2 = 0) : stepP val (b :: a :: r) o = ((twoP o.kind a b).1 :: r, 0) := by
  unfold stepP; rw [if_neg (by omega), if_neg (by omega), if_neg (by omega), if_pos h]; simp only [ht, if_true]
theorem step_two_err {a b : Int} {r : List Int} (h : 6 ≤ o.kind ∧ o.kind ≤ 18) (ht : (twoP o.kind a b).2 ≠ 0) : (stepP val (b :: a :: r) o).2 = (twoP o.kind a b).2 := by
  unfold stepP; rw [if_neg (by omega), if_neg (by omega), if_neg (by omega), if_pos h]; simp only [ht, if_false]
theorem ite_err {c : Prop} [Decidable c] {x y : Int × Int} (hx : x.2 = 0 ∨ x.2 = 12) (hy : y.2 = 0 ∨ y.2 = 12) : (if c then x else y).2 = 0 ∨ (if c then x else y).2 = 12 := by
  split <;> assumption
theorem two_err (k : Nat) (a b : Int) : (twoP k a b).2 = 0 ∨ ((twoP k a b).2 = 12) := by
  unfold twoP
  refine ite_err (.inl rfl) (ite_err (ite_err (.inr rfl) (.inl rfl)) (ite_err (ite_err (.inr rfl) (.inl rfl)) ?_))
  repeat (refine ite_err (.inl rfl) ?_)
  exact .inl rfl
end
end Go.Proofs.Ytekpopopibhjbaa
