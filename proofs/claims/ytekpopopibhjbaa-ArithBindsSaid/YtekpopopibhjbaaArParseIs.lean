/-
  The contract of package arith's Parse.
-/
import Derived.Test.YtekpopopibhjbaaArSum
namespace Go.Proofs.Ytekpopopibhjbaa
open Go.RowKit

theorem opsCells_get : ∀ (l : List AOp) (j : Nat) (o : AOp), l[j]? = some o → (opsCells l)[3 * j]? = some (.int .i64 o.kind) ∧ (opsCells l)[3 * j + 1]? = some (.int .i64 o.n) ∧ (opsCells l)[3 * j + 2]? = some (strV o.name)
  | [], j, o, h => by simp at h
  | p :: l, 0, o, h => by
    simp only [List.getElem?_cons_zero, Option.some.injEq] at h
    subst h
    exact ⟨rfl, rfl, rfl⟩
  | p :: l, j + 1, o, h => by
    simp only [List.getElem?_cons_succ] at h
    have ih := opsCells_get l j o h
    have e : opsCells (p :: l) = opCells p ++ opsCells l := rfl
    rw [e]
    have h3 : (opCells p).length = 3 := rfl
    rw [List.getElem?_append_right (by omega), List.getElem?_append_right (by omega), List.getElem?_append_right (by omega), h3, show 3 * (j + 1) - 3 = 3 * j by omega, show 3 * (j + 1) + 1 - 3 = 3 * j + 1 by omega, show 3 * (j + 1) + 2 - 3 = 3 * j + 2 by omega]
    exact ih
theorem OpsAt.of_owns {w : World} {base : Nat} {v : Value} {ops : List AOp} (h : w.ownsRow base 46 3 v ops.length (opsCells ops)) (hl : ops.length ≤ 1048576) : OpsAt w v ops := by
  rcases id h.2 with ⟨h1, h2⟩ | ⟨g, cap, cur, h1, h2, h3, h4, h5, h6, h7⟩
  · exact ⟨none, 0, by rw [h1, h2], hl, by omega, fun hp => by omega⟩
  · refine ⟨some ⟨g, 0, none⟩, cap, h1, hl, h4, fun _ => ⟨g, rfl, fun j o hj => ?_⟩⟩
    have hlt : j < ops.length := (List.getElem?_eq_some_iff.1 hj).1
    have ho : w.ownsRow base 46 3 (.slice (some ⟨g, 0, none⟩) ops.length cap) ops.length (opsCells ops) := h1 ▸ h
    obtain ⟨e0, e1, e2⟩ := opsCells_get ops j o hj
    exact ⟨by rw [ho.cellAt (3 * j) (by omega), e0], by rw [ho.cellAt (3 * j + 1) (by omega), e1], by rw [ho.cellAt (3 * j + 2) (by omega), e2]⟩
theorem OpsAt.nil (w : World) : OpsAt w (.slice none 0 0) [] := ⟨none, 0, rfl, by decide, by decide, fun h => absurd h (by decide)⟩
theorem parse_ok {l : List UInt8} {i : Nat} {o : List AOp} (h : rdP l (4 * l.length + 4) 0 1 0 0 [] = (i, o, 0)) (hi : ¬ i < l.length) : parseP l = okR o := by
  unfold parseP
  rw [h]
  simp only [hi, if_false]
theorem parse_more {l : List UInt8} {i : Nat} {o : List AOp} (h : rdP l (4 * l.length + 4) 0 1 0 0 [] = (i, o, 0)) (hi : i < l.length) : parseP l = ⟨[], (i : Int), 6⟩ := by
  unfold parseP
  rw [h]
  simp only [hi, if_true]
theorem parse_err {l : List UInt8} {i e : Nat} {o : List AOp} (h : rdP l (4 * l.length + 4) 0 1 0 0 [] = (i, o, e + 1)) : parseP l = ⟨[], (i : Int), ((e + 1 : Nat) : Int)⟩ := by
  unfold parseP
  rw [h]
  rfl

set_option maxHeartbeats 4000000 in
set_option maxRecDepth 100000 in
theorem parse_is (s : ByteArray) (hs : s.size ≤ 1000000) (w : World) : Calls Try.prog 9 #[.string s] w (ParseLeft w (parseP s.data.toList)) := by
  have hR0 : RdAt (w.alloc (.cells #[.string s, .int .i64 0, .slice none 0 0] 42)) w.heap.size s 0 [] (.slice none 0 0) := ⟨BlkAt.new w _ _, World.ownsRow_nil _ _ _ _⟩
  have hl : s.data.toList.length = s.size := by simp
  have HA := Lib.hid ((reads s hs (4 * s.data.toList.length + 4)).1 w.heap.size 1 0 0 [] _ _ (Nat.le_refl _) (by omega) (by omega) (by omega) (Nat.le_refl _) (by omega) hR0)
  have hok := rd_ok s.data.toList (4 * s.data.toList.length + 4) 0 1 0 0 [] (.inl (Nat.le_refl _)) (by omega)
  obtain ⟨⟨i, o, e⟩, hr⟩ : ∃ r, rdP s.data.toList (4 * s.data.toList.length + 4) 0 1 0 0 [] = r := ⟨_, rfl⟩
  rw [hr] at HA hok
  simp only [List.length_nil] at hok
  have hi : i ≤ s.size := by omega
  have ho : o.length ≤ 1048576 := by omega
  obtain ⟨R, hR⟩ : ∃ R, parseP s.data.toList = R := ⟨_, rfl⟩
  rw [hR]
  have hb0 := bel_alloc (Below.refl _ w) (.cells #[.string s, .int .i64 0, .slice none 0 0] 42)
  clear hR0 hok
  cases e with
  | succ e =>
    have HX : Hid (R = ⟨[], (i : Int), ((e + 1 : Nat) : Int)⟩) := Lib.hid (by rw [← hR, parse_err hr])
    have hne := nz_int e
    have hne2 : (((e + 1 : Nat) : Int) == 0) = false := by rw [beq_eq_false_iff_ne]; omega
    generalize e + 1 = e' at *
    clear hR hr
    go_enter Try.func9, Try.ntmps9
    go_wp2_with fail
    refine HA.out.mono ?_
    rintro ending w1 ⟨v1, rfl, h1, hb1⟩
    simp only at h1
    clear HA
    have hb := hb0.trans hb1
    have c1 := h1.blk.cell 1 (v := .int .i64 (i : Int)) rfl
    clear hb0 hb1
    go_wp2
    go_quiet (fail)
    go_wp2
    go_ret3
    rw [HX.out]
    exact ⟨_, rfl, OpsAt.nil _, belN hb _⟩
  | zero =>
    by_cases hlt : i < s.size
    · have HX : Hid (R = ⟨[], (i : Int), 6⟩) := Lib.hid (by rw [← hR, parse_more hr (by omega)])
      have dl : decide ((i : Int) < (s.size : Int)) = true := decide_eq_true (by omega)
      clear hR hr
      go_enter Try.func9, Try.ntmps9
      go_wp2_with fail
      refine HA.out.mono ?_
      rintro ending w1 ⟨v1, rfl, h1, hb1⟩
      simp only at h1
      clear HA
      have hb := hb0.trans hb1
      have c1 := h1.blk.cell 1 (v := .int .i64 (i : Int)) rfl
      clear hb0 hb1
      go_wp2
      go_quiet (fail)
      go_wp2
      go_ret3
      rw [HX.out]
      exact ⟨_, rfl, OpsAt.nil _, belN hb _⟩
    · have HX : Hid (R = okR o) := Lib.hid (by rw [← hR, parse_ok hr (by omega)])
      have dl : decide ((i : Int) < (s.size : Int)) = false := decide_eq_false (by omega)
      clear hR hr
      go_enter Try.func9, Try.ntmps9
      go_wp2_with fail
      refine HA.out.mono ?_
      rintro ending w1 ⟨v1, rfl, h1, hb1⟩
      simp only at h1
      clear HA
      have hb := hb0.trans hb1
      have c1 := h1.blk.cell 1 (v := .int .i64 (i : Int)) rfl
      have c2 := h1.blk.cell 2 (v := v1) rfl
      clear hb0 hb1
      go_wp2
      go_ret3
      rw [HX.out]
      exact ⟨_, rfl, OpsAt.of_owns h1.row ho, hb⟩
end Go.Proofs.Ytekpopopibhjbaa
