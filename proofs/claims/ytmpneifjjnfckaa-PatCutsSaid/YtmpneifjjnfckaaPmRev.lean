/-
  Contracts of Go's slices.Reverse at the slices that package pat turns round.
-/
import Derived.Test.YtmpneifjjnfckaaPmLength
namespace Go.Proofs.Ytmpneifjjnfckaa
open Go.RowKit

/-- i at each end are turned -/
def RevTo {α : Type} (E : List α) (i : Nat) (es : List α) : Prop := es.length = E.length ∧ ∀ k, k < E.length → es[k]? = if k < i ∨ E.length - 1 - i < k then E[E.length - 1 - k]? else E[k]?
theorem RevTo.zero {α : Type} (E : List α) : RevTo E 0 E := ⟨rfl, fun k hk => by rw [if_neg (by omega)]⟩
theorem RevTo.step {α : Type} {E es : List α} {i j : Nat} (h : RevTo E i es) (hj : E.length - 1 - i = j) (hij : i < j) (hi' : i < es.length) (hj' : j < es.length) : RevTo E (i + 1) ((es.set i es[j]).set j es[i]) := by
  refine ⟨by simp [h.1], fun k hk => ?_⟩
  have h1 := h.1
  have ei : E[i]? = some es[i] := by
    have := h.2 i (by omega)
    rw [if_neg (by omega), List.getElem?_eq_getElem hi'] at this
    exact this.symm
  have ej : E[j]? = some es[j] := by
    have := h.2 j (by omega)
    rw [if_neg (by omega), List.getElem?_eq_getElem hj'] at this
    exact this.symm
  rw [List.getElem?_set, List.getElem?_set]
  by_cases hkj : j = k
  · rw [if_pos hkj, if_pos (by simp; omega), if_pos (by omega), show E.length - 1 - k = i by omega, ei]
  · rw [if_neg hkj]
    by_cases hki : i = k
    · rw [if_pos hki, if_pos hi', if_pos (by omega), show E.length - 1 - k = j by omega, ej]
    · rw [if_neg hki, h.2 k hk]
      by_cases hc : k < i ∨ E.length - 1 - i < k
      · rw [if_pos hc, if_pos (by omega)]
      · rw [if_neg hc, if_neg (by omega)]
theorem RevTo.done {α : Type} {E es : List α} {i : Nat} (h : RevTo E i es) (hi : ¬ i < E.length - 1 - i) : es = E.reverse := by
  apply List.ext_getElem?
  intro k
  by_cases hk : k < E.length
  · rw [h.2 k hk, List.getElem?_reverse hk]
    by_cases hc : k < i ∨ E.length - 1 - i < k
    · rw [if_pos hc]
    · rw [if_neg hc, show E.length - 1 - k = k by omega]
  · rw [List.getElem?_eq_none (by have := h.1; omega), List.getElem?_eq_none (by simp; omega)]

/-- what Reverse leaves: the row turned round; nothing else has turned -/
def RevLeft (w : World) (base : Nat) (e : TypeId) (size : Nat) (v : Value) (n : Nat) (row : List Value) (ending : Ending) (w' : World) : Prop := (∃ u, ending = .returned u) ∧ w'.ownsRow base e size v n row ∧ w.grownBy w' v.ownBlock

theorem grow2 {a b c : World} {r : Option Nat} (h : a.grownBy b r) (k : b.grownBy c r) : a.grownBy c r :=
  ⟨k.os.trans h.os, k.tape.trans h.tape, k.output.trans h.output, Nat.le_trans h.size k.size, fun i hi hr => (k.block i (Nat.lt_of_lt_of_le hi h.size) hr).trans (h.block i hi hr)⟩
theorem grow_drew {a b : World} {r : Option Nat} (h : a.grownBy b r) : a.grownBy b.drew r := ⟨h.os, h.tape, h.output, h.size, h.block⟩
theorem rowG_set (es : List Bool) (i : Nat) (b : Bool) : (rowG es).set i (.bool b) = rowG (es.set i b) := by unfold rowG; rw [List.map_set]
def byteV (b : UInt8) : Value := .int .u8 (b.toNat : Int)
def rowB (bs : List UInt8) : List Value := bs.map byteV
theorem rowB_set (es : List UInt8) (i : Nat) (b : UInt8) : (rowB es).set i (byteV b) = rowB (es.set i b) := by unfold rowB; rw [List.map_set]
theorem rowS_set : ∀ (fs : List (Nat → Bool)) (i : Nat) (f : Nat → Bool), (((((rowS fs).set (i * 4) (.int .u64 (wd f 0 : Nat))).set (i * 4 + 1) (.int .u64 (wd f 1 : Nat))).set (i * 4 + 2) (.int .u64 (wd f 2 : Nat))).set (i * 4 + 3) (.int .u64 (wd f 3 : Nat))) = rowS (fs.set i f)
  | [], _, _ => by simp [rowS]
  | g :: fs, 0, f => by simp [rowS, cell4]
  | g :: fs, i + 1, f => by
    have e : ∀ (k : Nat) (u : Value) (l : List Value), (cell4 g ++ l).set (4 + k) u = cell4 g ++ l.set k u := fun k u l => by
      rw [List.set_append_right _ _ (by simp [cell4])]
      simp [cell4]
    have ih := rowS_set fs i f
    unfold rowS at ih ⊢
    rw [List.set_cons_succ, List.flatMap_cons, List.flatMap_cons, ← ih, show (i + 1) * 4 = 4 + i * 4 by omega, show 4 + i * 4 + 1 = 4 + (i * 4 + 1) by omega, show 4 + i * 4 + 2 = 4 + (i * 4 + 2) by omega, show 4 + i * 4 + 3 = 4 + (i * 4 + 3) by omega, e, e, e, e]

set_option maxHeartbeats 16000000 in
set_option maxRecDepth 100000 in
theorem revBools_is (base g cap : Nat) (gs : List (Bool)) (hgs : gs.length ≤ 1048577) (w : World) (h : w.ownsRow base 4 1 (.slice (some ⟨g, 0, none⟩) gs.length cap) gs.length (rowG gs)) :
    Calls Try.prog 37 #[(.slice (some ⟨g, 0, none⟩) gs.length cap)] w (RevLeft w base 4 1 (.slice (some ⟨g, 0, none⟩) gs.length cap) gs.length (rowG gs.reverse)) := by
  go_enter Try.func37, Try.ntmps37
  go_wp2
  go_loopw [2, 3] (fun x y wr => ∃ (i : Nat) (es : List (Bool)), i ≤ gs.length ∧ x = .int .i64 (i : Int) ∧ y = .int .i64 ((gs.length : Int) - 1 - (i : Int)) ∧ wr.ownsRow base 4 1 (.slice (some ⟨g, 0, none⟩) gs.length cap) gs.length (rowG es) ∧ w.grownBy wr (some g) ∧ Hid (RevTo gs i es)) (fun x _ _ => gs.length + 1 - (intOf x).toNat)
  case atStart => exact ⟨0, gs, Nat.zero_le _, rfl, by simp, h, World.grownBy.refl _ _, Lib.hid (RevTo.zero gs)⟩
  case round =>
    clear h
    obtain ⟨i, es, hi, rfl, rfl, hO, hg, HR⟩ := hrel
    by_cases hlt : (i : Int) < (gs.length : Int) - 1 - (i : Int)
    · obtain ⟨j, hj⟩ : ∃ j, gs.length - 1 - i = j := ⟨_, rfl⟩
      have ej : (gs.length : Int) - 1 - (i : Int) = (j : Int) := by omega
      rw [ej] at hlt
      rw [ej]
      have hij : i < j := by omega
      have hjl : j < gs.length := by omega
      have hil : i < gs.length := by omega
      have hes := HR.out.1
      have hje : j < es.length := by omega
      have hie : i < es.length := by omega
      have HR2 : Hid (RevTo gs (i + 1) ((es.set i es[j]).set j es[i])) := Lib.hid (HR.out.step hj hij hie hje)
      have HN : Hid ((j : Int) - 1 = (gs.length : Int) - 1 - ((i + 1 : Nat) : Int)) := Lib.hid (by omega)
      have hjI : (j : Int) < (gs.length : Int) := by omega
      have hiI : (i : Int) < (gs.length : Int) := by omega
      have ci : wr.cell? ⟨g, i, none⟩ = some (.bool es[i]) := by
        rw [hO.cellAt i (by omega)]; unfold rowG; rw [List.getElem?_map, List.getElem?_eq_getElem hie]; rfl
      have fi : wr.frozen? ⟨g, i, none⟩ = false := hO.frozenAt i
      have cj : wr.cell? ⟨g, j, none⟩ = some (.bool es[j]) := by
        rw [hO.cellAt j (by omega)]; unfold rowG; rw [List.getElem?_map, List.getElem?_eq_getElem hje]; rfl
      have fj : wr.frozen? ⟨g, j, none⟩ = false := hO.frozenAt j
      clear ej hes
      generalize es[i] = bi at *
      generalize es[j] = bj at *
      have hO2 : ((wr.setCell ⟨g, i, none⟩ (.bool bj)).setCell ⟨g, j, none⟩ (.bool bi)).drew.ownsRow base 4 1 (.slice (some ⟨g, 0, none⟩) gs.length cap) gs.length (rowG ((es.set i bj).set j bi)) := by
        have := ((hO.stored (i) (.bool bj)).1.stored (j) (.bool bi)).1
        rw [rowG_set, rowG_set] at this
        exact this
      have hg2 : w.grownBy ((wr.setCell ⟨g, i, none⟩ (.bool bj)).setCell ⟨g, j, none⟩ (.bool bi)).drew (some g) := grow_drew (grow2 (grow2 hg (hO.stored (i) (.bool bj)).2) ((hO.stored (i) (.bool bj)).1.stored (j) (.bool bi)).2)
      have HO := Lib.hid (And.intro hO2 hg2)
      clear hO2 hg2 hO hg
      go_wp2
      go_region
      go_wp2
      go_roundw
      case rel => exact ⟨i + 1, _, by omega, by go_num, by rw [← HN.out], HO.out.1, HO.out.2, HR2⟩
      case measure => simp [intOf]; omega
    · have HE : Hid (es = gs.reverse) := Lib.hid (HR.out.done (by omega))
      have hld : decide ((i : Int) < (gs.length : Int) - 1 - (i : Int)) = false := decide_eq_false hlt
      go_wp2
      refine bodyPost_end (results_none rfl _ _ _) rfl ?_
      exact ⟨⟨_, rfl⟩, by rw [← HE.out]; exact hO, hg⟩

set_option maxHeartbeats 16000000 in
set_option maxRecDepth 100000 in
theorem revBytes_is (base g cap : Nat) (bs : List (UInt8)) (hgs : bs.length ≤ 1048577) (w : World) (h : w.ownsRow base 5 1 (.slice (some ⟨g, 0, none⟩) bs.length cap) bs.length (rowB bs)) :
    Calls Try.prog 38 #[(.slice (some ⟨g, 0, none⟩) bs.length cap)] w (RevLeft w base 5 1 (.slice (some ⟨g, 0, none⟩) bs.length cap) bs.length (rowB bs.reverse)) := by
  go_enter Try.func38, Try.ntmps38
  go_wp2
  go_loopw [2, 3] (fun x y wr => ∃ (i : Nat) (es : List (UInt8)), i ≤ bs.length ∧ x = .int .i64 (i : Int) ∧ y = .int .i64 ((bs.length : Int) - 1 - (i : Int)) ∧ wr.ownsRow base 5 1 (.slice (some ⟨g, 0, none⟩) bs.length cap) bs.length (rowB es) ∧ w.grownBy wr (some g) ∧ Hid (RevTo bs i es)) (fun x _ _ => bs.length + 1 - (intOf x).toNat)
  case atStart => exact ⟨0, bs, Nat.zero_le _, rfl, by simp, h, World.grownBy.refl _ _, Lib.hid (RevTo.zero bs)⟩
  case round =>
    clear h
    obtain ⟨i, es, hi, rfl, rfl, hO, hg, HR⟩ := hrel
    by_cases hlt : (i : Int) < (bs.length : Int) - 1 - (i : Int)
    · obtain ⟨j, hj⟩ : ∃ j, bs.length - 1 - i = j := ⟨_, rfl⟩
      have ej : (bs.length : Int) - 1 - (i : Int) = (j : Int) := by omega
      rw [ej] at hlt
      rw [ej]
      have hij : i < j := by omega
      have hjl : j < bs.length := by omega
      have hil : i < bs.length := by omega
      have hes := HR.out.1
      have hje : j < es.length := by omega
      have hie : i < es.length := by omega
      have HR2 : Hid (RevTo bs (i + 1) ((es.set i es[j]).set j es[i])) := Lib.hid (HR.out.step hj hij hie hje)
      have HN : Hid ((j : Int) - 1 = (bs.length : Int) - 1 - ((i + 1 : Nat) : Int)) := Lib.hid (by omega)
      have hjI : (j : Int) < (bs.length : Int) := by omega
      have hiI : (i : Int) < (bs.length : Int) := by omega
      have ci : wr.cell? ⟨g, i, none⟩ = some (.int .u8 ((es[i]).toNat : Int)) := by
        rw [hO.cellAt i (by omega)]; unfold rowB; rw [List.getElem?_map, List.getElem?_eq_getElem hie]; rfl
      have fi : wr.frozen? ⟨g, i, none⟩ = false := hO.frozenAt i
      have cj : wr.cell? ⟨g, j, none⟩ = some (.int .u8 ((es[j]).toNat : Int)) := by
        rw [hO.cellAt j (by omega)]; unfold rowB; rw [List.getElem?_map, List.getElem?_eq_getElem hje]; rfl
      have fj : wr.frozen? ⟨g, j, none⟩ = false := hO.frozenAt j
      clear ej hes
      generalize es[i] = bi at *
      generalize es[j] = bj at *
      have hO2 : ((wr.setCell ⟨g, i, none⟩ (.int .u8 ((bj).toNat : Int))).setCell ⟨g, j, none⟩ (.int .u8 ((bi).toNat : Int))).drew.ownsRow base 5 1 (.slice (some ⟨g, 0, none⟩) bs.length cap) bs.length (rowB ((es.set i bj).set j bi)) := by
        have := ((hO.stored (i) (.int .u8 ((bj).toNat : Int))).1.stored (j) (.int .u8 ((bi).toNat : Int))).1
        rw [show Value.int .u8 (bj.toNat : Int) = byteV bj from rfl, show Value.int .u8 (bi.toNat : Int) = byteV bi from rfl, rowB_set, rowB_set] at this
        exact this
      have hg2 : w.grownBy ((wr.setCell ⟨g, i, none⟩ (.int .u8 ((bj).toNat : Int))).setCell ⟨g, j, none⟩ (.int .u8 ((bi).toNat : Int))).drew (some g) := grow_drew (grow2 (grow2 hg (hO.stored (i) (.int .u8 ((bj).toNat : Int))).2) ((hO.stored (i) (.int .u8 ((bj).toNat : Int))).1.stored (j) (.int .u8 ((bi).toNat : Int))).2)
      have HO := Lib.hid (And.intro hO2 hg2)
      clear hO2 hg2 hO hg
      go_wp2
      go_region
      go_wp2
      go_roundw
      case rel => exact ⟨i + 1, _, by omega, by go_num, by rw [← HN.out], HO.out.1, HO.out.2, HR2⟩
      case measure => simp [intOf]; omega
    · have HE : Hid (es = bs.reverse) := Lib.hid (HR.out.done (by omega))
      have hld : decide ((i : Int) < (bs.length : Int) - 1 - (i : Int)) = false := decide_eq_false hlt
      go_wp2
      refine bodyPost_end (results_none rfl _ _ _) rfl ?_
      exact ⟨⟨_, rfl⟩, by rw [← HE.out]; exact hO, hg⟩

end Go.Proofs.Ytmpneifjjnfckaa
