/-
  The contract of the document's Match (conchref1): it returns whether the pattern matches the text.
-/
import Derived.Test.YtmpneifjjnfckaaRefPatTwo
import Derived.Test.YtmpneifjjnfckaaTailBase
import Derived.Laws.MakeOwn
import Derived.OwnWalk
import Derived.Deep.Cut
namespace Go.Proofs.Ytmpneifjjnfckaa
open Go.RowKit

/-- a row of bools in memory -/
def rowV (N : Nat) (f : Nat → Bool) : Array Value := ((List.range N).map fun j => Value.bool (f j)).toArray
theorem rowV_get {N k : Nat} {f : Nat → Bool} (hk : k < N) : (rowV N f)[k]? = some (.bool (f k)) := by
  unfold rowV
  simp [hk]
theorem rowV_congr {N : Nat} {f g : Nat → Bool} (h : ∀ j, j < N → f j = g j) : rowV N f = rowV N g := by
  unfold rowV
  congr 1
  exact List.map_congr_left fun j hj => by rw [h j (List.mem_range.1 hj)]
theorem rowV_set (N k : Nat) (f : Nat → Bool) (x : Bool) : (rowV N f).setIfInBounds k (.bool x) = rowV N (fun j => if j = k then x else f j) := by
  unfold rowV
  apply Array.ext_getElem?
  intro i
  rw [Array.getElem?_setIfInBounds]
  by_cases hi : i < N
  · by_cases hk : k = i
    · subst hk; simp [hi]
    · simp [hi, hk, Ne.symm hk]
  · by_cases hk : k = i
    · subst hk; simp [hi]
    · simp [hi, hk]
theorem rowV_zero (N : Nat) : Array.replicate N (Value.bool false) = rowV N (fun _ => false) := by
  unfold rowV
  apply Array.ext_getElem?
  intro i
  by_cases hi : i < N
  · simp [hi]
  · simp [hi]

theorem info_bool : (Try.prog.info? 4).map (fun i => (i.zero, i.size, i.bytes)) = some (some (.bool false), 1, 1) := by kernel_rfl
theorem make_bools (N : Nat) (hN : N ≤ 1048577) (W : World) : (Instr.makeSlice 23 (.int .i64 (N : Int)) (.int .i64 (N : Int))).run Try.prog W = .ok (.slice (some ⟨W.heap.size, 0, none⟩) N N) (W.alloc (.cells (rowV N fun _ => false) 4)) := by
  obtain ⟨i, hi, hz0, hz1, hz2⟩ := info_parts info_bool
  have h := run_makeSlice (P := Try.prog) W 23 4 i (.bool false) Try.underlying23 hi hz0 .i64 .i64 (N : Int) (N : Int) (by omega) (Int.le_refl _) (by rw [hz1]; simp; omega) (by rw [hz2]; omega) (by omega)
  rw [h, Int.toNat_natCast, hz1, Nat.mul_one]
  congr 3
  rw [← rowV_zero]
  apply Array.ext_getElem?
  intro j
  by_cases hj : j < N
  · simp [madeCells, Value.cells, hj, Nat.mod_one]
  · simp [madeCells, Value.cells, hj]

-- by gen_refmatch.py from here on
def anyB (A : Nat → Bool) (k : Nat) : Bool := (List.range k).any A
theorem anyB_succ (A : Nat → Bool) (k : Nat) : anyB A (k + 1) = (anyB A k || A k) := by
  unfold anyB
  rw [List.range_succ, List.any_append]
  simp
theorem anyB_iff (A : Nat → Bool) (k : Nat) : anyB A k = true ↔ ∃ j, j < k ∧ A j = true := by
  unfold anyB
  rw [List.any_eq_true]
  exact ⟨fun ⟨j, h1, h2⟩ => ⟨j, List.mem_range.1 h1, h2⟩, fun ⟨j, h1, h2⟩ => ⟨j, List.mem_range.2 h1, h2⟩⟩
/-- the next row, as far as k -/
def stepTo (T : Tok) (S : List UInt8) (A : Nat → Bool) (k j : Nat) : Bool := match T with
  | .star => decide (j < k) && anyB A (j + 1)
  | .one f => match j with
    | 0 => false
    | j + 1 => decide (j < k) && (A j && f (S.getD j 0))
theorem stepTo_zero (T : Tok) (S : List UInt8) (A : Nat → Bool) (j : Nat) : stepTo T S A 0 j = false := by
  unfold stepTo
  cases T with
  | star => simp
  | one f => cases j <;> simp
theorem star_write {S : List UInt8} {A B : Nat → Bool} {N k : Nat} {x : Bool} (h : ∀ j, j < N → B j = stepTo .star S A k j) (hx : x = anyB A (k + 1)) : ∀ j, j < N → (if j = k then x else B j) = stepTo .star S A (k + 1) j := by
  intro j hj
  by_cases hjk : j = k
  · subst hjk
    rw [if_pos rfl, hx]
    simp [stepTo]
  · rw [if_neg hjk, h j hj]
    simp only [stepTo]
    congr 1
    exact decide_eq_decide.2 (by omega)
theorem one_write {f : UInt8 → Bool} {S : List UInt8} {A B : Nat → Bool} {N k : Nat} {x : Bool} (h : ∀ j, j < N → B j = stepTo (.one f) S A k j) (hA : A k = true) (hx : x = f (S.getD k 0)) : ∀ j, j < N → (if j = k + 1 then x else B j) = stepTo (.one f) S A (k + 1) j := by
  intro j hj
  by_cases hjk : j = k + 1
  · subst hjk
    rw [if_pos rfl, hx]
    simp [stepTo, hA]
  · rw [if_neg hjk, h j hj]
    cases j with
    | zero => rfl
    | succ j =>
      simp only [stepTo]
      congr 1
      exact decide_eq_decide.2 (by omega)
theorem one_left {f : UInt8 → Bool} {S : List UInt8} {A B : Nat → Bool} {N k : Nat} (h : ∀ j, j < N → B j = stepTo (.one f) S A k j) (hA : A k = false ∨ N ≤ k + 1) : ∀ j, j < N → B j = stepTo (.one f) S A (k + 1) j := by
  intro j hj
  rw [h j hj]
  cases j with
  | zero => rfl
  | succ j =>
    simp only [stepTo]
    by_cases hjk : j = k
    · subst hjk
      rcases hA with hA | hA
      · simp [hA]
      · omega
    · congr 1
      exact decide_eq_decide.2 (by omega)
theorem step_all {T : Tok} {S : List UInt8} {A B : Nat → Bool} {N : Nat} {done : List Tok} (hN : N = S.length + 1) (hB : ∀ j, j < N → B j = stepTo T S A N j) (hA : ∀ j, j < N → A j = mtch done (S.take j)) : ∀ j, j < N → B j = mtch (done ++ [T]) (S.take j) := by
  intro j hj
  rw [hB j hj]
  cases T with
  | star =>
    simp only [stepTo]
    rw [decide_eq_true hj, Bool.true_and, Bool.eq_iff_iff, anyB_iff, snoc_star]
    constructor
    · rintro ⟨i, hi, h⟩
      exact ⟨i, by omega, by rw [← hA i (by omega)]; exact h⟩
    · rintro ⟨i, hi, h⟩
      exact ⟨i, by omega, by rw [hA i (by omega)]; exact h⟩
  | one f =>
    cases j with
    | zero => rw [snoc_one_zero]; rfl
    | succ j =>
      have hjl : j < S.length := by omega
      simp only [stepTo]
      rw [decide_eq_true (by omega : j < N), Bool.true_and, snoc_one done f S j S[j] (List.getElem?_eq_getElem hjl), hA j (by omega), List.getD_eq_getElem?_getD, List.getElem?_eq_getElem hjl]
      rfl
theorem first_row {S : List UInt8} {N : Nat} (hN : N = S.length + 1) : ∀ j, j < N → (if j = 0 then true else false) = mtch [] (S.take j) := by
  intro j hj
  by_cases h0 : j = 0
  · subst h0; rfl
  · rw [if_neg h0]
    unfold mtch
    cases S with
    | nil => simp at hN; omega
    | cons c S => cases j with
      | zero => exact absurd rfl h0
      | succ j => rfl
theorem sget (s : ByteArray) (k : Nat) (h : k < s.size) : s.data.toList.getD k 0 = s[k] := by
  have h2 : k < s.data.toList.length := by simpa using h
  rw [List.getD_eq_getElem?_getD, List.getElem?_eq_getElem h2]
  simp [ByteArray.getElem_eq_getElem_data]

set_option maxHeartbeats 32000000 in
set_option maxRecDepth 100000 in
theorem refMatch_is (t : ByteArray) (ht : t.size ≤ 1048576) (L : Value) (v : List Bool) (s : ByteArray) (hs : s.size ≤ 1048576) (w : World) (hL : LiveAt w L v) : Calls Try.prog 12 #[patV t L, .string s] w (Gives w (.bool (patB t.data.toList v s.data.toList))) := by
  obtain ⟨wA, hwA, hb1, hP1⟩ := lay_pat w t L
  have hL0 := Lib.hid hL
  clear hL
  obtain ⟨N, hN, hN1⟩ : ∃ N : Nat, (s.size : Int) + 1 = (N : Int) ∧ N = s.size + 1 := ⟨s.size + 1, by omega, rfl⟩
  have HN := Lib.hid hN1
  clear hN1
  have hN9 : 0 < N := by omega
  have hN8 : N ≤ 1048577 := by omega
  have hmk := make_bools N hN8
  obtain ⟨b0, hb0⟩ : ∃ b0, wA.heap.size = b0 := ⟨_, rfl⟩
  have hb09 : w.heap.size < b0 := by have := hP1.lt; omega
  have hA2 := BlkAt.new_at wA (rowV N fun _ => false) 4 b0 hb0
  have hP2 := hP1.alloc (.cells (rowV N fun _ => false) 4)
  have hb2 := bel_alloc hb1 (.cells (rowV N fun _ => false) 4)
  obtain ⟨U0, hU0⟩ : ∃ U0, wA.alloc (.cells (rowV N fun _ => false) 4) = U0 := ⟨_, rfl⟩
  rw [hU0] at hA2 hP2 hb2
  have HU0 := Lib.hid hU0
  clear hU0
  unfold patV
  go_enter Try.func12, Try.ntmps12
  go_upto_region 2 with fail
  rw [HU0.out]
  clear HU0 hwA hb0 hb1 hP1
  have cA := hA2.cell 0 (rowV_get hN9)
  have fA := hA2.frozen 0
  have hA3 := hA2.set 0 (.bool true)
  rw [rowV_set] at hA3
  have hP3 := hP2.far (a := ⟨b0, 0, none⟩) (by show w.heap.size ≠ b0; omega) (.bool true)
  have hb3 := bel_set hb2 ⟨b0, 0, none⟩ (by show w.heap.size ≤ b0; omega) (.bool true)
  go_wp2
  clear cA fA hA2 hP2 hb2
  go_loopw [5, 6] (fun a z wr => ∃ (ba i n : Nat) (A : Nat → Bool) (done : List Tok), a = .slice (some ⟨ba, 0, none⟩) N N ∧ z = .int .i64 (i : Int) ∧ i ≤ t.size ∧ w.heap.size < ba ∧ BlkAt wr ba (rowV N A) 4 ∧ BlkAt wr w.heap.size #[.string t, L] 25 ∧ Below w.heap.size w wr ∧ Hid (t.size ≤ i + n ∧ toks t.data.toList v = done ++ toksF t.data.toList v n i ∧ ∀ j, j < N → A j = mtch done (s.data.toList.take j))) (fun _ z _ => t.size - (intOf z).toNat)
  case atStart => exact ⟨b0, 0, t.size, _, [], rfl, rfl, Nat.zero_le _, hb09, hA3, hP3, hb3, Lib.hid ⟨by omega, by unfold toks; rw [len_list]; rfl, first_row (by rw [HN.out, len_list])⟩⟩
  case round =>
    obtain ⟨ba, i, n, A, done, rfl, rfl, hi9, hba9, hA4, hP4, hb4, HR⟩ := hrel
    clear hA3 hP3 hb3
    by_cases hi : i < t.size
    · obtain ⟨bn, hbn⟩ : ∃ bn, wr.heap.size = bn := ⟨_, rfl⟩
      have hab : ba ≠ bn := by have := hA4.lt; omega
      have hpb : w.heap.size ≠ bn := by have := hP4.lt; omega
      have hwb : w.heap.size ≤ bn := by have := hP4.lt; omega
      rcases Bool.eq_false_or_eq_true (isB t.data.toList v i 42) with h42 | h42
      · have HT : Hid (tokAt t.data.toList v i = .star) := Lib.hid (by unfold tokAt; rw [h42]; rfl)
        have hbr := brB_other h42 (by decide)
        have HNx : Hid (nextAt t.data.toList v i = i + 1) := Lib.hid (by unfold nextAt; rw [hbr])
        have hK := refBracket_is t ht L v i (by omega)
        rw [hbr] at hK
        have hI1 := refIs_is t L v i 42
        rw [h42] at hI1
        have hI2 := refIs_is t L v i 63
        unfold patV at hK hI1 hI2
        simp only [brI] at hK
        have HK := Lib.hid hK
        have H42 := Lib.hid hI1
        clear hK hI1 hI2 h42 hbr
        have hB5 := BlkAt.new_at wr (rowV N fun _ => false) 4 bn hbn
        have hP5 := hP4.alloc (.cells (rowV N fun _ => false) 4)
        have hA5 := hA4.alloc (.cells (rowV N fun _ => false) 4)
        have hb5 := bel_alloc hb4 (.cells (rowV N fun _ => false) 4)
        obtain ⟨U, hU⟩ : ∃ U, wr.alloc (.cells (rowV N fun _ => false) 4) = U := ⟨_, rfl⟩
        rw [hU] at hB5 hP5 hA5 hb5
        have HU := Lib.hid hU
        clear hU
        have c0 := hP4.cell 0 (v := .string t) rfl
        go_upto_region 6 with fail
        rw [HU.out]
        clear HU c0 hP4 hA4 hb4 hbn
        have c0 := hP5.cell 0 (v := .string t) rfl
        have c1 := hP5.cell 1 (v := L) rfl
        go_wp2_with fail
        clear c0 c1
        refine (HK.out _ (hL0.out.after hb5)).mono ?_
        rintro ending x5 ⟨rfl, j5⟩
        have hP6 := hP5.after j5
        have hA6 := hA5.after j5
        have hB6 := hB5.after j5
        have hb6 := bel_step hb5 j5
        clear hP5 hA5 hB5 hb5 j5
        go_wp2
        go_loopw [9, 10] (fun g z wq => ∃ (k : Nat) (B : Nat → Bool), k ≤ N ∧ z = .int .i64 (k : Int) ∧ g = .bool (anyB A k) ∧ BlkAt wq bn (rowV N B) 4 ∧ BlkAt wq ba (rowV N A) 4 ∧ BlkAt wq w.heap.size #[.string t, L] 25 ∧ Below w.heap.size w wq ∧ Hid (∀ j, j < N → B j = stepTo .star s.data.toList A k j)) (fun _ z _ => N - (intOf z).toNat)
        case atStart => exact ⟨0, fun _ => false, Nat.zero_le _, rfl, rfl, hB6, hA6, hP6, hb6, Lib.hid (fun j _ => (stepTo_zero _ _ _ _).symm)⟩
        case round =>
          obtain ⟨k, B, hkN, rfl, rfl, hB7, hA7, hP7, hb7, HB⟩ := hrel
          clear hB6 hA6 hP6 hb6
          by_cases hk : k < N
          · have hkle : k ≤ s.size := by omega
            cases hg : anyB A k with
            | true =>
              have HG := Lib.hid hg
              clear hg
              have cA := hA7.cell k (rowV_get hk)
              have HX : Hid (true = anyB A (k + 1)) := Lib.hid (by rw [anyB_succ, HG.out]; rfl)
              have c0 := hP7.cell 0 (v := .string t) rfl
              have c1 := hP7.cell 1 (v := L) rfl
              go_wp2_with fail
              clear c0 c1
              refine (H42.out _ (hL0.out.after hb7)).mono ?_
              rintro ending x7 ⟨rfl, j7⟩
              have hP8 := hP7.after j7
              have hA8 := hA7.after j7
              have hB8 := hB7.after j7
              have hb8 := bel_step hb7 j7
              clear hP7 hA7 hB7 hb7 j7
              have cB := hB8.cell (k) (rowV_get (N := N) (by omega))
              have fB := hB8.frozen (k)
              have hB9 := hB8.set (k) (.bool true)
              rw [rowV_set] at hB9
              have hA9 := hA8.far (a := ⟨bn, k, none⟩) hab (.bool true)
              have hP9 := hP8.far (a := ⟨bn, k, none⟩) hpb (.bool true)
              have hb9 := bel_set hb8 ⟨bn, k, none⟩ hwb (.bool true)
              go_wp2
              clear hB8 hA8 hP8 hb8 cB fB
              go_roundw
              case rel => exact ⟨k + 1, _, by omega, by go_num, by rw [← HX.out], hB9, hA9, hP9, hb9, Lib.hid (star_write HB.out HX.out)⟩
              case measure => simp [intOf]; omega
            | false =>
              have HG := Lib.hid hg
              clear hg
              have cA := hA7.cell k (rowV_get hk)
              have HX : Hid ((A k) = anyB A (k + 1)) := Lib.hid (by rw [anyB_succ, HG.out]; rfl)
              have c0 := hP7.cell 0 (v := .string t) rfl
              have c1 := hP7.cell 1 (v := L) rfl
              go_wp2_with fail
              clear c0 c1
              refine (H42.out _ (hL0.out.after hb7)).mono ?_
              rintro ending x7 ⟨rfl, j7⟩
              have hP8 := hP7.after j7
              have hA8 := hA7.after j7
              have hB8 := hB7.after j7
              have hb8 := bel_step hb7 j7
              clear hP7 hA7 hB7 hb7 j7
              have cB := hB8.cell (k) (rowV_get (N := N) (by omega))
              have fB := hB8.frozen (k)
              have hB9 := hB8.set (k) (.bool (A k))
              rw [rowV_set] at hB9
              have hA9 := hA8.far (a := ⟨bn, k, none⟩) hab (.bool (A k))
              have hP9 := hP8.far (a := ⟨bn, k, none⟩) hpb (.bool (A k))
              have hb9 := bel_set hb8 ⟨bn, k, none⟩ hwb (.bool (A k))
              go_wp2
              clear hB8 hA8 hP8 hb8 cB fB
              go_roundw
              case rel => exact ⟨k + 1, _, by omega, by go_num, by rw [← HX.out], hB9, hA9, hP9, hb9, Lib.hid (star_write HB.out HX.out)⟩
              case measure => simp [intOf]; omega
          · have hkN2 : k = N := by omega
            have hnk : ¬ k ≤ s.size := by omega
            have HB2 : Hid (∀ j, j < N → B j = stepTo .star s.data.toList A N j) := Lib.hid (fun j hj => (HB.out j hj).trans (by rw [hkN2]))
            clear HB hkN2
            obtain ⟨m, hst, hm9⟩ := toksF_step (t := t.data.toList) (v := v) (n := n) (i := i) (by rw [len_list]; exact hi) (by rw [len_list]; exact HR.out.1)
            have HR2 : Hid (toks t.data.toList v = (done ++ [.star]) ++ toksF t.data.toList v m (i + 1)) := Lib.hid (by rw [HR.out.2.1, hst, HT.out, HNx.out]; simp)
            have HM : Hid (t.size ≤ (i + 1) + m) := Lib.hid (by rw [HNx.out, len_list] at hm9; exact hm9)
            have HA2 := Lib.hid (step_all (by rw [HN.out, len_list]) HB2.out HR.out.2.2)
            clear hst hm9 HR HB2 HT HNx
            have hmx : max (i : Int) (-1) = (i : Int) := by omega
            go_wp2
            go_roundw
            case rel => exact ⟨bn, i + 1, m, B, done ++ [.star], rfl, by go_num, by omega, by omega, hB7, hP7, hb7, Lib.hid ⟨HM.out, HR2.out, HA2.out⟩⟩
            case measure => simp [intOf]; omega
      · rcases Bool.eq_false_or_eq_true (isB t.data.toList v i 63) with h63 | h63
        · have HT : Hid (tokAt t.data.toList v i = (.one fun _ => true)) := Lib.hid (by unfold tokAt; rw [h42, h63]; rfl)
          have hbr := brB_other h63 (by decide)
          have HNx : Hid (nextAt t.data.toList v i = i + 1) := Lib.hid (by unfold nextAt; rw [hbr])
          have hK := refBracket_is t ht L v i (by omega)
          rw [hbr] at hK
          have hI1 := refIs_is t L v i 42
          rw [h42] at hI1
          have hI2 := refIs_is t L v i 63
          rw [h63] at hI2
          unfold patV at hK hI1 hI2
          simp only [brI] at hK
          have HK := Lib.hid hK
          have H42 := Lib.hid hI1
          have H63 := Lib.hid hI2
          clear hK hI1 hI2 h42 hbr h63
          have hB5 := BlkAt.new_at wr (rowV N fun _ => false) 4 bn hbn
          have hP5 := hP4.alloc (.cells (rowV N fun _ => false) 4)
          have hA5 := hA4.alloc (.cells (rowV N fun _ => false) 4)
          have hb5 := bel_alloc hb4 (.cells (rowV N fun _ => false) 4)
          obtain ⟨U, hU⟩ : ∃ U, wr.alloc (.cells (rowV N fun _ => false) 4) = U := ⟨_, rfl⟩
          rw [hU] at hB5 hP5 hA5 hb5
          have HU := Lib.hid hU
          clear hU
          have c0 := hP4.cell 0 (v := .string t) rfl
          go_upto_region 6 with fail
          rw [HU.out]
          clear HU c0 hP4 hA4 hb4 hbn
          have c0 := hP5.cell 0 (v := .string t) rfl
          have c1 := hP5.cell 1 (v := L) rfl
          go_wp2_with fail
          clear c0 c1
          refine (HK.out _ (hL0.out.after hb5)).mono ?_
          rintro ending x5 ⟨rfl, j5⟩
          have hP6 := hP5.after j5
          have hA6 := hA5.after j5
          have hB6 := hB5.after j5
          have hb6 := bel_step hb5 j5
          clear hP5 hA5 hB5 hb5 j5
          go_wp2
          go_loopw [9, 10] (fun g z wq => ∃ (k : Nat) (B : Nat → Bool), k ≤ N ∧ z = .int .i64 (k : Int) ∧ g = .bool (anyB A k) ∧ BlkAt wq bn (rowV N B) 4 ∧ BlkAt wq ba (rowV N A) 4 ∧ BlkAt wq w.heap.size #[.string t, L] 25 ∧ Below w.heap.size w wq ∧ Hid (∀ j, j < N → B j = stepTo (.one fun _ => true) s.data.toList A k j)) (fun _ z _ => N - (intOf z).toNat)
          case atStart => exact ⟨0, fun _ => false, Nat.zero_le _, rfl, rfl, hB6, hA6, hP6, hb6, Lib.hid (fun j _ => (stepTo_zero _ _ _ _).symm)⟩
          case round =>
            obtain ⟨k, B, hkN, rfl, rfl, hB7, hA7, hP7, hb7, HB⟩ := hrel
            clear hB6 hA6 hP6 hb6
            by_cases hk : k < N
            · have hkle : k ≤ s.size := by omega
              cases hg : anyB A k with
              | true =>
                have HG := Lib.hid hg
                clear hg
                have cA := hA7.cell k (rowV_get hk)
                have HX : Hid (true = anyB A (k + 1)) := Lib.hid (by rw [anyB_succ, HG.out]; rfl)
                have c0 := hP7.cell 0 (v := .string t) rfl
                have c1 := hP7.cell 1 (v := L) rfl
                go_wp2_with fail
                clear c0 c1
                refine (H42.out _ (hL0.out.after hb7)).mono ?_
                rintro ending x7 ⟨rfl, j7⟩
                have hP8 := hP7.after j7
                have hA8 := hA7.after j7
                have hB8 := hB7.after j7
                have hb8 := bel_step hb7 j7
                clear hP7 hA7 hB7 hb7 j7
                by_cases hks : k < s.size
                · have eK : ((k : Int) == (s.size : Int)) = false := by rw [beq_eq_false_iff_ne]; omega
                  have cA := hA8.cell k (rowV_get hk)
                  rcases Bool.eq_false_or_eq_true (A k) with hAk | hAk
                  · rw [hAk] at cA
                    have HAK := Lib.hid hAk
                    clear hAk
                    have c0 := hP8.cell 0 (v := .string t) rfl
                    have c1 := hP8.cell 1 (v := L) rfl
                    go_wp2_with fail
                    clear c0 c1
                    refine (H63.out _ (hL0.out.after hb8)).mono ?_
                    rintro ending x8 ⟨rfl, j8⟩
                    have hP9 := hP8.after j8
                    have hA9 := hA8.after j8
                    have hB9 := hB8.after j8
                    have hb9 := bel_step hb8 j8
                    clear hP8 hA8 hB8 hb8 j8
                    have cB := hB9.cell (k + 1) (rowV_get (N := N) (by omega))
                    have fB := hB9.frozen (k + 1)
                    have hB10 := hB9.set (k + 1) (.bool true)
                    rw [rowV_set] at hB10
                    have hA10 := hA9.far (a := ⟨bn, k + 1, none⟩) hab (.bool true)
                    have hP10 := hP9.far (a := ⟨bn, k + 1, none⟩) hpb (.bool true)
                    have hb10 := bel_set hb9 ⟨bn, k + 1, none⟩ hwb (.bool true)
                    go_wp2
                    clear hB9 hA9 hP9 hb9 cB fB
                    go_roundw
                    case rel => exact ⟨k + 1, _, by omega, by go_num, by first | rw [← HX.out] | rw [← HX.out, HAK.out], hB10, hA10, hP10, hb10, Lib.hid (one_write HB.out HAK.out rfl)⟩
                    case measure => simp [intOf]; omega
                  · rw [hAk] at cA
                    have HAK := Lib.hid hAk
                    clear hAk
                    go_wp2
                    go_roundw
                    case rel => exact ⟨k + 1, B, by omega, by go_num, by first | rw [← HX.out] | rw [← HX.out, HAK.out], hB8, hA8, hP8, hb8, Lib.hid (one_left HB.out (.inl HAK.out))⟩
                    case measure => simp [intOf]; omega
                · have eK : ((k : Int) == (s.size : Int)) = true := by rw [beq_iff_eq]; omega
                  go_wp2
                  go_roundw
                  case rel => exact ⟨k + 1, B, by omega, by go_num, by first | rw [← HX.out] | rw [← HX.out, HAK.out], hB8, hA8, hP8, hb8, Lib.hid (one_left HB.out (.inr (by omega)))⟩
                  case measure => simp [intOf]; omega
              | false =>
                have HG := Lib.hid hg
                clear hg
                have cA := hA7.cell k (rowV_get hk)
                have HX : Hid ((A k) = anyB A (k + 1)) := Lib.hid (by rw [anyB_succ, HG.out]; rfl)
                have c0 := hP7.cell 0 (v := .string t) rfl
                have c1 := hP7.cell 1 (v := L) rfl
                go_wp2_with fail
                clear c0 c1
                refine (H42.out _ (hL0.out.after hb7)).mono ?_
                rintro ending x7 ⟨rfl, j7⟩
                have hP8 := hP7.after j7
                have hA8 := hA7.after j7
                have hB8 := hB7.after j7
                have hb8 := bel_step hb7 j7
                clear hP7 hA7 hB7 hb7 j7
                by_cases hks : k < s.size
                · have eK : ((k : Int) == (s.size : Int)) = false := by rw [beq_eq_false_iff_ne]; omega
                  have cA := hA8.cell k (rowV_get hk)
                  rcases Bool.eq_false_or_eq_true (A k) with hAk | hAk
                  · rw [hAk] at cA
                    have HAK := Lib.hid hAk
                    clear hAk
                    have c0 := hP8.cell 0 (v := .string t) rfl
                    have c1 := hP8.cell 1 (v := L) rfl
                    go_wp2_with fail
                    clear c0 c1
                    refine (H63.out _ (hL0.out.after hb8)).mono ?_
                    rintro ending x8 ⟨rfl, j8⟩
                    have hP9 := hP8.after j8
                    have hA9 := hA8.after j8
                    have hB9 := hB8.after j8
                    have hb9 := bel_step hb8 j8
                    clear hP8 hA8 hB8 hb8 j8
                    have cB := hB9.cell (k + 1) (rowV_get (N := N) (by omega))
                    have fB := hB9.frozen (k + 1)
                    have hB10 := hB9.set (k + 1) (.bool true)
                    rw [rowV_set] at hB10
                    have hA10 := hA9.far (a := ⟨bn, k + 1, none⟩) hab (.bool true)
                    have hP10 := hP9.far (a := ⟨bn, k + 1, none⟩) hpb (.bool true)
                    have hb10 := bel_set hb9 ⟨bn, k + 1, none⟩ hwb (.bool true)
                    go_wp2
                    clear hB9 hA9 hP9 hb9 cB fB
                    go_roundw
                    case rel => exact ⟨k + 1, _, by omega, by go_num, by first | rw [← HX.out] | rw [← HX.out, HAK.out], hB10, hA10, hP10, hb10, Lib.hid (one_write HB.out HAK.out rfl)⟩
                    case measure => simp [intOf]; omega
                  · rw [hAk] at cA
                    have HAK := Lib.hid hAk
                    clear hAk
                    go_wp2
                    go_roundw
                    case rel => exact ⟨k + 1, B, by omega, by go_num, by first | rw [← HX.out] | rw [← HX.out, HAK.out], hB8, hA8, hP8, hb8, Lib.hid (one_left HB.out (.inl HAK.out))⟩
                    case measure => simp [intOf]; omega
                · have eK : ((k : Int) == (s.size : Int)) = true := by rw [beq_iff_eq]; omega
                  go_wp2
                  go_roundw
                  case rel => exact ⟨k + 1, B, by omega, by go_num, by first | rw [← HX.out] | rw [← HX.out, HAK.out], hB8, hA8, hP8, hb8, Lib.hid (one_left HB.out (.inr (by omega)))⟩
                  case measure => simp [intOf]; omega
            · have hkN2 : k = N := by omega
              have hnk : ¬ k ≤ s.size := by omega
              have HB2 : Hid (∀ j, j < N → B j = stepTo (.one fun _ => true) s.data.toList A N j) := Lib.hid (fun j hj => (HB.out j hj).trans (by rw [hkN2]))
              clear HB hkN2
              obtain ⟨m, hst, hm9⟩ := toksF_step (t := t.data.toList) (v := v) (n := n) (i := i) (by rw [len_list]; exact hi) (by rw [len_list]; exact HR.out.1)
              have HR2 : Hid (toks t.data.toList v = (done ++ [(.one fun _ => true)]) ++ toksF t.data.toList v m (i + 1)) := Lib.hid (by rw [HR.out.2.1, hst, HT.out, HNx.out]; simp)
              have HM : Hid (t.size ≤ (i + 1) + m) := Lib.hid (by rw [HNx.out, len_list] at hm9; exact hm9)
              have HA2 := Lib.hid (step_all (by rw [HN.out, len_list]) HB2.out HR.out.2.2)
              clear hst hm9 HR HB2 HT HNx
              have hmx : max (i : Int) (-1) = (i : Int) := by omega
              go_wp2
              go_roundw
              case rel => exact ⟨bn, i + 1, m, B, done ++ [(.one fun _ => true)], rfl, by go_num, by omega, by omega, hB7, hP7, hb7, Lib.hid ⟨HM.out, HR2.out, HA2.out⟩⟩
              case measure => simp [intOf]; omega
        · cases hbr : brB t.data.toList v i with
          | some e =>
            have HT : Hid (tokAt t.data.toList v i = (.one fun c => amB t.data.toList v i e c.toNat)) := Lib.hid (by unfold tokAt; rw [h42, h63, hbr]; rfl)
            have HNx : Hid (nextAt t.data.toList v i = e + 1) := Lib.hid (by unfold nextAt; rw [hbr])
            obtain ⟨he1, he2, _⟩ := brB_in hbr
            rw [len_list] at he2
            have hK := refBracket_is t ht L v i (by omega)
            rw [hbr] at hK
            have hI1 := refIs_is t L v i 42
            rw [h42] at hI1
            have hI2 := refIs_is t L v i 63
            rw [h63] at hI2
            unfold patV at hK hI1 hI2
            simp only [brI] at hK
            have HK := Lib.hid hK
            have H42 := Lib.hid hI1
            have H63 := Lib.hid hI2
            clear hK hI1 hI2 h42 hbr h63
            have hB5 := BlkAt.new_at wr (rowV N fun _ => false) 4 bn hbn
            have hP5 := hP4.alloc (.cells (rowV N fun _ => false) 4)
            have hA5 := hA4.alloc (.cells (rowV N fun _ => false) 4)
            have hb5 := bel_alloc hb4 (.cells (rowV N fun _ => false) 4)
            obtain ⟨U, hU⟩ : ∃ U, wr.alloc (.cells (rowV N fun _ => false) 4) = U := ⟨_, rfl⟩
            rw [hU] at hB5 hP5 hA5 hb5
            have HU := Lib.hid hU
            clear hU
            have c0 := hP4.cell 0 (v := .string t) rfl
            go_upto_region 6 with fail
            rw [HU.out]
            clear HU c0 hP4 hA4 hb4 hbn
            have c0 := hP5.cell 0 (v := .string t) rfl
            have c1 := hP5.cell 1 (v := L) rfl
            go_wp2_with fail
            clear c0 c1
            refine (HK.out _ (hL0.out.after hb5)).mono ?_
            rintro ending x5 ⟨rfl, j5⟩
            have hP6 := hP5.after j5
            have hA6 := hA5.after j5
            have hB6 := hB5.after j5
            have hb6 := bel_step hb5 j5
            clear hP5 hA5 hB5 hb5 j5
            go_wp2
            go_loopw [9, 10] (fun g z wq => ∃ (k : Nat) (B : Nat → Bool), k ≤ N ∧ z = .int .i64 (k : Int) ∧ g = .bool (anyB A k) ∧ BlkAt wq bn (rowV N B) 4 ∧ BlkAt wq ba (rowV N A) 4 ∧ BlkAt wq w.heap.size #[.string t, L] 25 ∧ Below w.heap.size w wq ∧ Hid (∀ j, j < N → B j = stepTo (.one fun c => amB t.data.toList v i e c.toNat) s.data.toList A k j)) (fun _ z _ => N - (intOf z).toNat)
            case atStart => exact ⟨0, fun _ => false, Nat.zero_le _, rfl, rfl, hB6, hA6, hP6, hb6, Lib.hid (fun j _ => (stepTo_zero _ _ _ _).symm)⟩
            case round =>
              obtain ⟨k, B, hkN, rfl, rfl, hB7, hA7, hP7, hb7, HB⟩ := hrel
              clear hB6 hA6 hP6 hb6
              by_cases hk : k < N
              · have hkle : k ≤ s.size := by omega
                cases hg : anyB A k with
                | true =>
                  have HG := Lib.hid hg
                  clear hg
                  have cA := hA7.cell k (rowV_get hk)
                  have HX : Hid (true = anyB A (k + 1)) := Lib.hid (by rw [anyB_succ, HG.out]; rfl)
                  have c0 := hP7.cell 0 (v := .string t) rfl
                  have c1 := hP7.cell 1 (v := L) rfl
                  go_wp2_with fail
                  clear c0 c1
                  refine (H42.out _ (hL0.out.after hb7)).mono ?_
                  rintro ending x7 ⟨rfl, j7⟩
                  have hP8 := hP7.after j7
                  have hA8 := hA7.after j7
                  have hB8 := hB7.after j7
                  have hb8 := bel_step hb7 j7
                  clear hP7 hA7 hB7 hb7 j7
                  by_cases hks : k < s.size
                  · have eK : ((k : Int) == (s.size : Int)) = false := by rw [beq_eq_false_iff_ne]; omega
                    have cA := hA8.cell k (rowV_get hk)
                    rcases Bool.eq_false_or_eq_true (A k) with hAk | hAk
                    · rw [hAk] at cA
                      have HAK := Lib.hid hAk
                      clear hAk
                      have c0 := hP8.cell 0 (v := .string t) rfl
                      have c1 := hP8.cell 1 (v := L) rfl
                      go_wp2_with fail
                      clear c0 c1
                      refine (H63.out _ (hL0.out.after hb8)).mono ?_
                      rintro ending x8 ⟨rfl, j8⟩
                      have hP9 := hP8.after j8
                      have hA9 := hA8.after j8
                      have hB9 := hB8.after j8
                      have hb9 := bel_step hb8 j8
                      clear hP8 hA8 hB8 hb8 j8
                      have hAm := refAmong_is t ht L v i e s[k].toNat (by omega) (by omega)
                      have HY : Hid (amB t.data.toList v i e s[k].toNat = amB t.data.toList v i e (s.data.toList.getD k 0).toNat) := Lib.hid (by rw [sget s k hks])
                      generalize amB t.data.toList v i e s[k].toNat = y at *
                      unfold patV at hAm
                      have HAm := Lib.hid hAm
                      clear hAm
                      have i0 : (0 : Int) ≤ (k : Int) := by omega
                      have i1 : (k : Int) < (s.size : Int) := by omega
                      have i2 : (k : Int) + 1 < (N : Int) := by omega
                      have hLq := hL0.out.after hb9
                      go_wp2
                      have L0 : ∀ q : Later x8, q.at_.cell? ⟨w.heap.size, 0, none⟩ = some (.string t) := fun q => (hP9.after q.below).cell 0 rfl
                      have L1 : ∀ q : Later x8, q.at_.cell? ⟨w.heap.size, 1, none⟩ = some L := fun q => (hP9.after q.below).cell 1 rfl
                      refine region_tail 11 (by kernel_rfl) (by kernel_rfl) ?_
                      simp only [List.take_succ_cons, List.take_zero, List.drop_succ_cons, List.drop_zero]
                      repeat (go_big_quiet_step (fail))
                      go_big_quiet_step (exact later (HAm.out _ (hLq.after (Later.below _))))
                      repeat (go_big_quiet_step (fail))
                      refine wpQuiet_nil ?_
                      rintro _ ⟨q, rfl⟩
                      clear L0 L1 hLq
                      have j9 := q.below
                      generalize q.at_ = x9 at *
                      have hP10 := hP9.after j9
                      have hA10 := hA9.after j9
                      have hB10 := hB9.after j9
                      have hb10 := bel_step hb9 j9
                      clear hP9 hA9 hB9 hb9 j9
                      have cB := hB10.cell (k + 1) (rowV_get (N := N) (by omega))
                      have fB := hB10.frozen (k + 1)
                      have hB11 := hB10.set (k + 1) (.bool y)
                      rw [rowV_set] at hB11
                      have hA11 := hA10.far (a := ⟨bn, k + 1, none⟩) hab (.bool y)
                      have hP11 := hP10.far (a := ⟨bn, k + 1, none⟩) hpb (.bool y)
                      have hb11 := bel_set hb10 ⟨bn, k + 1, none⟩ hwb (.bool y)
                      go_wp2
                      clear hB10 hA10 hP10 hb10 cB fB
                      go_roundw
                      case rel => exact ⟨k + 1, _, by omega, by go_num, by first | rw [← HX.out] | rw [← HX.out, HAK.out], hB11, hA11, hP11, hb11, Lib.hid (one_write HB.out HAK.out HY.out)⟩
                      case measure => simp [intOf]; omega
                    · rw [hAk] at cA
                      have HAK := Lib.hid hAk
                      clear hAk
                      go_wp2
                      go_roundw
                      case rel => exact ⟨k + 1, B, by omega, by go_num, by first | rw [← HX.out] | rw [← HX.out, HAK.out], hB8, hA8, hP8, hb8, Lib.hid (one_left HB.out (.inl HAK.out))⟩
                      case measure => simp [intOf]; omega
                  · have eK : ((k : Int) == (s.size : Int)) = true := by rw [beq_iff_eq]; omega
                    go_wp2
                    go_roundw
                    case rel => exact ⟨k + 1, B, by omega, by go_num, by first | rw [← HX.out] | rw [← HX.out, HAK.out], hB8, hA8, hP8, hb8, Lib.hid (one_left HB.out (.inr (by omega)))⟩
                    case measure => simp [intOf]; omega
                | false =>
                  have HG := Lib.hid hg
                  clear hg
                  have cA := hA7.cell k (rowV_get hk)
                  have HX : Hid ((A k) = anyB A (k + 1)) := Lib.hid (by rw [anyB_succ, HG.out]; rfl)
                  have c0 := hP7.cell 0 (v := .string t) rfl
                  have c1 := hP7.cell 1 (v := L) rfl
                  go_wp2_with fail
                  clear c0 c1
                  refine (H42.out _ (hL0.out.after hb7)).mono ?_
                  rintro ending x7 ⟨rfl, j7⟩
                  have hP8 := hP7.after j7
                  have hA8 := hA7.after j7
                  have hB8 := hB7.after j7
                  have hb8 := bel_step hb7 j7
                  clear hP7 hA7 hB7 hb7 j7
                  by_cases hks : k < s.size
                  · have eK : ((k : Int) == (s.size : Int)) = false := by rw [beq_eq_false_iff_ne]; omega
                    have cA := hA8.cell k (rowV_get hk)
                    rcases Bool.eq_false_or_eq_true (A k) with hAk | hAk
                    · rw [hAk] at cA
                      have HAK := Lib.hid hAk
                      clear hAk
                      have c0 := hP8.cell 0 (v := .string t) rfl
                      have c1 := hP8.cell 1 (v := L) rfl
                      go_wp2_with fail
                      clear c0 c1
                      refine (H63.out _ (hL0.out.after hb8)).mono ?_
                      rintro ending x8 ⟨rfl, j8⟩
                      have hP9 := hP8.after j8
                      have hA9 := hA8.after j8
                      have hB9 := hB8.after j8
                      have hb9 := bel_step hb8 j8
                      clear hP8 hA8 hB8 hb8 j8
                      have hAm := refAmong_is t ht L v i e s[k].toNat (by omega) (by omega)
                      have HY : Hid (amB t.data.toList v i e s[k].toNat = amB t.data.toList v i e (s.data.toList.getD k 0).toNat) := Lib.hid (by rw [sget s k hks])
                      generalize amB t.data.toList v i e s[k].toNat = y at *
                      unfold patV at hAm
                      have HAm := Lib.hid hAm
                      clear hAm
                      have i0 : (0 : Int) ≤ (k : Int) := by omega
                      have i1 : (k : Int) < (s.size : Int) := by omega
                      have i2 : (k : Int) + 1 < (N : Int) := by omega
                      have hLq := hL0.out.after hb9
                      go_wp2
                      have L0 : ∀ q : Later x8, q.at_.cell? ⟨w.heap.size, 0, none⟩ = some (.string t) := fun q => (hP9.after q.below).cell 0 rfl
                      have L1 : ∀ q : Later x8, q.at_.cell? ⟨w.heap.size, 1, none⟩ = some L := fun q => (hP9.after q.below).cell 1 rfl
                      refine region_tail 11 (by kernel_rfl) (by kernel_rfl) ?_
                      simp only [List.take_succ_cons, List.take_zero, List.drop_succ_cons, List.drop_zero]
                      repeat (go_big_quiet_step (fail))
                      go_big_quiet_step (exact later (HAm.out _ (hLq.after (Later.below _))))
                      repeat (go_big_quiet_step (fail))
                      refine wpQuiet_nil ?_
                      rintro _ ⟨q, rfl⟩
                      clear L0 L1 hLq
                      have j9 := q.below
                      generalize q.at_ = x9 at *
                      have hP10 := hP9.after j9
                      have hA10 := hA9.after j9
                      have hB10 := hB9.after j9
                      have hb10 := bel_step hb9 j9
                      clear hP9 hA9 hB9 hb9 j9
                      have cB := hB10.cell (k + 1) (rowV_get (N := N) (by omega))
                      have fB := hB10.frozen (k + 1)
                      have hB11 := hB10.set (k + 1) (.bool y)
                      rw [rowV_set] at hB11
                      have hA11 := hA10.far (a := ⟨bn, k + 1, none⟩) hab (.bool y)
                      have hP11 := hP10.far (a := ⟨bn, k + 1, none⟩) hpb (.bool y)
                      have hb11 := bel_set hb10 ⟨bn, k + 1, none⟩ hwb (.bool y)
                      go_wp2
                      clear hB10 hA10 hP10 hb10 cB fB
                      go_roundw
                      case rel => exact ⟨k + 1, _, by omega, by go_num, by first | rw [← HX.out] | rw [← HX.out, HAK.out], hB11, hA11, hP11, hb11, Lib.hid (one_write HB.out HAK.out HY.out)⟩
                      case measure => simp [intOf]; omega
                    · rw [hAk] at cA
                      have HAK := Lib.hid hAk
                      clear hAk
                      go_wp2
                      go_roundw
                      case rel => exact ⟨k + 1, B, by omega, by go_num, by first | rw [← HX.out] | rw [← HX.out, HAK.out], hB8, hA8, hP8, hb8, Lib.hid (one_left HB.out (.inl HAK.out))⟩
                      case measure => simp [intOf]; omega
                  · have eK : ((k : Int) == (s.size : Int)) = true := by rw [beq_iff_eq]; omega
                    go_wp2
                    go_roundw
                    case rel => exact ⟨k + 1, B, by omega, by go_num, by first | rw [← HX.out] | rw [← HX.out, HAK.out], hB8, hA8, hP8, hb8, Lib.hid (one_left HB.out (.inr (by omega)))⟩
                    case measure => simp [intOf]; omega
              · have hkN2 : k = N := by omega
                have hnk : ¬ k ≤ s.size := by omega
                have HB2 : Hid (∀ j, j < N → B j = stepTo (.one fun c => amB t.data.toList v i e c.toNat) s.data.toList A N j) := Lib.hid (fun j hj => (HB.out j hj).trans (by rw [hkN2]))
                clear HB hkN2
                obtain ⟨m, hst, hm9⟩ := toksF_step (t := t.data.toList) (v := v) (n := n) (i := i) (by rw [len_list]; exact hi) (by rw [len_list]; exact HR.out.1)
                have HR2 : Hid (toks t.data.toList v = (done ++ [(.one fun c => amB t.data.toList v i e c.toNat)]) ++ toksF t.data.toList v m (e + 1)) := Lib.hid (by rw [HR.out.2.1, hst, HT.out, HNx.out]; simp)
                have HM : Hid (t.size ≤ e + 1 + m) := Lib.hid (by rw [HNx.out, len_list] at hm9; exact hm9)
                have HA2 := Lib.hid (step_all (by rw [HN.out, len_list]) HB2.out HR.out.2.2)
                clear hst hm9 HR HB2 HT HNx
                have hmx : max (i : Int) (e : Int) = (e : Int) := by omega
                go_wp2
                go_roundw
                case rel => exact ⟨bn, e + 1, m, B, done ++ [(.one fun c => amB t.data.toList v i e c.toNat)], rfl, by go_num, by omega, by omega, hB7, hP7, hb7, Lib.hid ⟨HM.out, HR2.out, HA2.out⟩⟩
                case measure => simp [intOf]; omega
          | none =>
            have HT : Hid (tokAt t.data.toList v i = (.one fun c => decide (c.toNat = byt t.data.toList i))) := Lib.hid (by unfold tokAt; rw [h42, h63, hbr]; rfl)
            have HNx : Hid (nextAt t.data.toList v i = i + 1) := Lib.hid (by unfold nextAt; rw [hbr])
            have hK := refBracket_is t ht L v i (by omega)
            rw [hbr] at hK
            have hI1 := refIs_is t L v i 42
            rw [h42] at hI1
            have hI2 := refIs_is t L v i 63
            rw [h63] at hI2
            unfold patV at hK hI1 hI2
            simp only [brI] at hK
            have HK := Lib.hid hK
            have H42 := Lib.hid hI1
            have H63 := Lib.hid hI2
            clear hK hI1 hI2 h42 hbr h63
            have hB5 := BlkAt.new_at wr (rowV N fun _ => false) 4 bn hbn
            have hP5 := hP4.alloc (.cells (rowV N fun _ => false) 4)
            have hA5 := hA4.alloc (.cells (rowV N fun _ => false) 4)
            have hb5 := bel_alloc hb4 (.cells (rowV N fun _ => false) 4)
            obtain ⟨U, hU⟩ : ∃ U, wr.alloc (.cells (rowV N fun _ => false) 4) = U := ⟨_, rfl⟩
            rw [hU] at hB5 hP5 hA5 hb5
            have HU := Lib.hid hU
            clear hU
            have c0 := hP4.cell 0 (v := .string t) rfl
            go_upto_region 6 with fail
            rw [HU.out]
            clear HU c0 hP4 hA4 hb4 hbn
            have c0 := hP5.cell 0 (v := .string t) rfl
            have c1 := hP5.cell 1 (v := L) rfl
            go_wp2_with fail
            clear c0 c1
            refine (HK.out _ (hL0.out.after hb5)).mono ?_
            rintro ending x5 ⟨rfl, j5⟩
            have hP6 := hP5.after j5
            have hA6 := hA5.after j5
            have hB6 := hB5.after j5
            have hb6 := bel_step hb5 j5
            clear hP5 hA5 hB5 hb5 j5
            go_wp2
            go_loopw [9, 10] (fun g z wq => ∃ (k : Nat) (B : Nat → Bool), k ≤ N ∧ z = .int .i64 (k : Int) ∧ g = .bool (anyB A k) ∧ BlkAt wq bn (rowV N B) 4 ∧ BlkAt wq ba (rowV N A) 4 ∧ BlkAt wq w.heap.size #[.string t, L] 25 ∧ Below w.heap.size w wq ∧ Hid (∀ j, j < N → B j = stepTo (.one fun c => decide (c.toNat = byt t.data.toList i)) s.data.toList A k j)) (fun _ z _ => N - (intOf z).toNat)
            case atStart => exact ⟨0, fun _ => false, Nat.zero_le _, rfl, rfl, hB6, hA6, hP6, hb6, Lib.hid (fun j _ => (stepTo_zero _ _ _ _).symm)⟩
            case round =>
              obtain ⟨k, B, hkN, rfl, rfl, hB7, hA7, hP7, hb7, HB⟩ := hrel
              clear hB6 hA6 hP6 hb6
              by_cases hk : k < N
              · have hkle : k ≤ s.size := by omega
                cases hg : anyB A k with
                | true =>
                  have HG := Lib.hid hg
                  clear hg
                  have cA := hA7.cell k (rowV_get hk)
                  have HX : Hid (true = anyB A (k + 1)) := Lib.hid (by rw [anyB_succ, HG.out]; rfl)
                  have c0 := hP7.cell 0 (v := .string t) rfl
                  have c1 := hP7.cell 1 (v := L) rfl
                  go_wp2_with fail
                  clear c0 c1
                  refine (H42.out _ (hL0.out.after hb7)).mono ?_
                  rintro ending x7 ⟨rfl, j7⟩
                  have hP8 := hP7.after j7
                  have hA8 := hA7.after j7
                  have hB8 := hB7.after j7
                  have hb8 := bel_step hb7 j7
                  clear hP7 hA7 hB7 hb7 j7
                  by_cases hks : k < s.size
                  · have eK : ((k : Int) == (s.size : Int)) = false := by rw [beq_eq_false_iff_ne]; omega
                    have cA := hA8.cell k (rowV_get hk)
                    rcases Bool.eq_false_or_eq_true (A k) with hAk | hAk
                    · rw [hAk] at cA
                      have HAK := Lib.hid hAk
                      clear hAk
                      have c0 := hP8.cell 0 (v := .string t) rfl
                      have c1 := hP8.cell 1 (v := L) rfl
                      go_wp2_with fail
                      clear c0 c1
                      refine (H63.out _ (hL0.out.after hb8)).mono ?_
                      rintro ending x8 ⟨rfl, j8⟩
                      have hP9 := hP8.after j8
                      have hA9 := hA8.after j8
                      have hB9 := hB8.after j8
                      have hb9 := bel_step hb8 j8
                      clear hP8 hA8 hB8 hb8 j8
                      have i0 : (0 : Int) ≤ (k : Int) := by omega
                      have i1 : (k : Int) < (s.size : Int) := by omega
                      have i2 : (k : Int) + 1 < (N : Int) := by omega
                      have i3 : (i : Int) < (t.size : Int) := by omega
                      have i4 : (0 : Int) ≤ (i : Int) := by omega
                      obtain ⟨y, hy⟩ : ∃ y, ((s[k].toNat : Int) == (t[i].toNat : Int)) = y := ⟨_, rfl⟩
                      have HY : Hid (y = decide ((s.data.toList.getD k 0).toNat = byt t.data.toList i)) := Lib.hid (by rw [← hy, sget s k hks, byt_at t i hi, Bool.eq_iff_iff, beq_iff_eq, decide_eq_true_iff]; omega)
                      go_wp2
                      have L0 : ∀ q : Later x8, q.at_.cell? ⟨w.heap.size, 0, none⟩ = some (.string t) := fun q => (hP9.after q.below).cell 0 rfl
                      refine region_tail 12 (by kernel_rfl) (by kernel_rfl) ?_
                      simp only [List.take_succ_cons, List.take_zero, List.drop_succ_cons, List.drop_zero]
                      repeat (go_big_quiet_step (fail))
                      refine wpQuiet_nil ?_
                      rintro _ ⟨q, rfl⟩
                      clear L0
                      have j9 := q.below
                      generalize q.at_ = x9 at *
                      have hP10 := hP9.after j9
                      have hA10 := hA9.after j9
                      have hB10 := hB9.after j9
                      have hb10 := bel_step hb9 j9
                      clear hP9 hA9 hB9 hb9 j9
                      have cB := hB10.cell (k + 1) (rowV_get (N := N) (by omega))
                      have fB := hB10.frozen (k + 1)
                      have hB11 := hB10.set (k + 1) (.bool y)
                      rw [rowV_set] at hB11
                      have hA11 := hA10.far (a := ⟨bn, k + 1, none⟩) hab (.bool y)
                      have hP11 := hP10.far (a := ⟨bn, k + 1, none⟩) hpb (.bool y)
                      have hb11 := bel_set hb10 ⟨bn, k + 1, none⟩ hwb (.bool y)
                      go_wp2
                      clear hB10 hA10 hP10 hb10 cB fB
                      go_roundw
                      case rel => exact ⟨k + 1, _, by omega, by go_num, by first | rw [← HX.out] | rw [← HX.out, HAK.out], hB11, hA11, hP11, hb11, Lib.hid (one_write HB.out HAK.out HY.out)⟩
                      case measure => simp [intOf]; omega
                    · rw [hAk] at cA
                      have HAK := Lib.hid hAk
                      clear hAk
                      go_wp2
                      go_roundw
                      case rel => exact ⟨k + 1, B, by omega, by go_num, by first | rw [← HX.out] | rw [← HX.out, HAK.out], hB8, hA8, hP8, hb8, Lib.hid (one_left HB.out (.inl HAK.out))⟩
                      case measure => simp [intOf]; omega
                  · have eK : ((k : Int) == (s.size : Int)) = true := by rw [beq_iff_eq]; omega
                    go_wp2
                    go_roundw
                    case rel => exact ⟨k + 1, B, by omega, by go_num, by first | rw [← HX.out] | rw [← HX.out, HAK.out], hB8, hA8, hP8, hb8, Lib.hid (one_left HB.out (.inr (by omega)))⟩
                    case measure => simp [intOf]; omega
                | false =>
                  have HG := Lib.hid hg
                  clear hg
                  have cA := hA7.cell k (rowV_get hk)
                  have HX : Hid ((A k) = anyB A (k + 1)) := Lib.hid (by rw [anyB_succ, HG.out]; rfl)
                  have c0 := hP7.cell 0 (v := .string t) rfl
                  have c1 := hP7.cell 1 (v := L) rfl
                  go_wp2_with fail
                  clear c0 c1
                  refine (H42.out _ (hL0.out.after hb7)).mono ?_
                  rintro ending x7 ⟨rfl, j7⟩
                  have hP8 := hP7.after j7
                  have hA8 := hA7.after j7
                  have hB8 := hB7.after j7
                  have hb8 := bel_step hb7 j7
                  clear hP7 hA7 hB7 hb7 j7
                  by_cases hks : k < s.size
                  · have eK : ((k : Int) == (s.size : Int)) = false := by rw [beq_eq_false_iff_ne]; omega
                    have cA := hA8.cell k (rowV_get hk)
                    rcases Bool.eq_false_or_eq_true (A k) with hAk | hAk
                    · rw [hAk] at cA
                      have HAK := Lib.hid hAk
                      clear hAk
                      have c0 := hP8.cell 0 (v := .string t) rfl
                      have c1 := hP8.cell 1 (v := L) rfl
                      go_wp2_with fail
                      clear c0 c1
                      refine (H63.out _ (hL0.out.after hb8)).mono ?_
                      rintro ending x8 ⟨rfl, j8⟩
                      have hP9 := hP8.after j8
                      have hA9 := hA8.after j8
                      have hB9 := hB8.after j8
                      have hb9 := bel_step hb8 j8
                      clear hP8 hA8 hB8 hb8 j8
                      have i0 : (0 : Int) ≤ (k : Int) := by omega
                      have i1 : (k : Int) < (s.size : Int) := by omega
                      have i2 : (k : Int) + 1 < (N : Int) := by omega
                      have i3 : (i : Int) < (t.size : Int) := by omega
                      have i4 : (0 : Int) ≤ (i : Int) := by omega
                      obtain ⟨y, hy⟩ : ∃ y, ((s[k].toNat : Int) == (t[i].toNat : Int)) = y := ⟨_, rfl⟩
                      have HY : Hid (y = decide ((s.data.toList.getD k 0).toNat = byt t.data.toList i)) := Lib.hid (by rw [← hy, sget s k hks, byt_at t i hi, Bool.eq_iff_iff, beq_iff_eq, decide_eq_true_iff]; omega)
                      go_wp2
                      have L0 : ∀ q : Later x8, q.at_.cell? ⟨w.heap.size, 0, none⟩ = some (.string t) := fun q => (hP9.after q.below).cell 0 rfl
                      refine region_tail 12 (by kernel_rfl) (by kernel_rfl) ?_
                      simp only [List.take_succ_cons, List.take_zero, List.drop_succ_cons, List.drop_zero]
                      repeat (go_big_quiet_step (fail))
                      refine wpQuiet_nil ?_
                      rintro _ ⟨q, rfl⟩
                      clear L0
                      have j9 := q.below
                      generalize q.at_ = x9 at *
                      have hP10 := hP9.after j9
                      have hA10 := hA9.after j9
                      have hB10 := hB9.after j9
                      have hb10 := bel_step hb9 j9
                      clear hP9 hA9 hB9 hb9 j9
                      have cB := hB10.cell (k + 1) (rowV_get (N := N) (by omega))
                      have fB := hB10.frozen (k + 1)
                      have hB11 := hB10.set (k + 1) (.bool y)
                      rw [rowV_set] at hB11
                      have hA11 := hA10.far (a := ⟨bn, k + 1, none⟩) hab (.bool y)
                      have hP11 := hP10.far (a := ⟨bn, k + 1, none⟩) hpb (.bool y)
                      have hb11 := bel_set hb10 ⟨bn, k + 1, none⟩ hwb (.bool y)
                      go_wp2
                      clear hB10 hA10 hP10 hb10 cB fB
                      go_roundw
                      case rel => exact ⟨k + 1, _, by omega, by go_num, by first | rw [← HX.out] | rw [← HX.out, HAK.out], hB11, hA11, hP11, hb11, Lib.hid (one_write HB.out HAK.out HY.out)⟩
                      case measure => simp [intOf]; omega
                    · rw [hAk] at cA
                      have HAK := Lib.hid hAk
                      clear hAk
                      go_wp2
                      go_roundw
                      case rel => exact ⟨k + 1, B, by omega, by go_num, by first | rw [← HX.out] | rw [← HX.out, HAK.out], hB8, hA8, hP8, hb8, Lib.hid (one_left HB.out (.inl HAK.out))⟩
                      case measure => simp [intOf]; omega
                  · have eK : ((k : Int) == (s.size : Int)) = true := by rw [beq_iff_eq]; omega
                    go_wp2
                    go_roundw
                    case rel => exact ⟨k + 1, B, by omega, by go_num, by first | rw [← HX.out] | rw [← HX.out, HAK.out], hB8, hA8, hP8, hb8, Lib.hid (one_left HB.out (.inr (by omega)))⟩
                    case measure => simp [intOf]; omega
              · have hkN2 : k = N := by omega
                have hnk : ¬ k ≤ s.size := by omega
                have HB2 : Hid (∀ j, j < N → B j = stepTo (.one fun c => decide (c.toNat = byt t.data.toList i)) s.data.toList A N j) := Lib.hid (fun j hj => (HB.out j hj).trans (by rw [hkN2]))
                clear HB hkN2
                obtain ⟨m, hst, hm9⟩ := toksF_step (t := t.data.toList) (v := v) (n := n) (i := i) (by rw [len_list]; exact hi) (by rw [len_list]; exact HR.out.1)
                have HR2 : Hid (toks t.data.toList v = (done ++ [(.one fun c => decide (c.toNat = byt t.data.toList i))]) ++ toksF t.data.toList v m (i + 1)) := Lib.hid (by rw [HR.out.2.1, hst, HT.out, HNx.out]; simp)
                have HM : Hid (t.size ≤ (i + 1) + m) := Lib.hid (by rw [HNx.out, len_list] at hm9; exact hm9)
                have HA2 := Lib.hid (step_all (by rw [HN.out, len_list]) HB2.out HR.out.2.2)
                clear hst hm9 HR HB2 HT HNx
                have hmx : max (i : Int) (-1) = (i : Int) := by omega
                go_wp2
                go_roundw
                case rel => exact ⟨bn, i + 1, m, B, done ++ [(.one fun c => decide (c.toNat = byt t.data.toList i))], rfl, by go_num, by omega, by omega, hB7, hP7, hb7, Lib.hid ⟨HM.out, HR2.out, HA2.out⟩⟩
                case measure => simp [intOf]; omega
    · have hF : A s.size = patB t.data.toList v s.data.toList := by
        rw [HR.out.2.2 s.size (by omega)]
        unfold patB
        rw [HR.out.2.1, toksF_end (by rw [len_list]; omega), List.append_nil, List.take_of_length_le (by rw [len_list]; exact Nat.le_refl _)]
      have cA := hA4.cell s.size (rowV_get (by omega))
      rw [hF] at cA
      have c0 := hP4.cell 0 (v := .string t) rfl
      have HE := Lib.hid hb4
      have hNs : (s.size : Int) < (N : Int) := by omega
      clear hF hb4
      generalize patB t.data.toList v s.data.toList = r at *
      go_wp2
      go_ret
      exact ⟨rfl, HE.out⟩
end Go.Proofs.Ytmpneifjjnfckaa
