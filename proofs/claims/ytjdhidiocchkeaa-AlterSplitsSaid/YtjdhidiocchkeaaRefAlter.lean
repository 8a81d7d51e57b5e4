/-
  Contracts of the document's answers to layer alter (conchref1: used, other, Given, Read, CutShape, MayGlob, Default, Other), over the translation. (By wip/tools/gen_refalter.py.)
-/
import Derived.Test.YtjdhidiocchkeaaAlterTwo
import Derived.Test.YtjdhidiocchkeaaRefJoin
namespace Go.Proofs.Ytjdhidiocchkeaa
open Go.RowKit

set_option maxHeartbeats 4000000 in
set_option maxRecDepth 100000 in
theorem refUsed_is (x : Sh) (c : Bool) (w : World) : Calls Try.prog 61 #[shV x, .bool c] w (Gives w (shV (usedR x c))) := by
  obtain ⟨u, e, h, k, l⟩ := x
  obtain ⟨wA, hwA, hbA, hA, hZ⟩ := lay_oneZ w ⟨u, e, h, k, l⟩
  have HE : Hid (usedR ⟨u, e, h, k, l⟩ c = if c then (if (if k then empB l else false) then zeroSh else ⟨false, false, h, k, l⟩) else ⟨false, e, h, k, l⟩) := Lib.hid rfl
  generalize usedR ⟨u, e, h, k, l⟩ c = y at *
  simp only [shV] at hwA ⊢
  have hA2 : ShAt (wA.setCell ⟨w.heap.size, 0, none⟩ (.bool false)) w.heap.size ⟨false, e, h, k, l⟩ := hA.setU false
  have hZ2 := hZ.far (a := ⟨w.heap.size, 0, none⟩) (by simp) (.bool false)
  have hb2 := bel_set hbA ⟨w.heap.size, 0, none⟩ (Nat.le_refl _) (.bool false)
  obtain ⟨U, hU⟩ : ∃ U, wA.setCell ⟨w.heap.size, 0, none⟩ (.bool false) = U := ⟨_, rfl⟩
  rw [hU] at hA2 hZ2 hb2
  have HU := Lib.hid hU
  clear hU
  go_enter Try.func61, Try.ntmps61
  obtain ⟨c0, c1, c2, c3, c4, c5, c6, c7⟩ := hA.cells
  obtain ⟨f0, f1, f2, f3, f4, f5, f6, f7⟩ := hA.frozens
  dsimp only at c0 c1 c2 c3 c4 c5 c6 c7
  go_upto_region 2 with fail
  rw [HU.out]
  clear hwA HU hA hZ hbA
  clear c0 c1 c2 c3 c4 c5 c6 c7 f0 f1 f2 f3 f4 f5 f6 f7
  obtain ⟨c0, c1, c2, c3, c4, c5, c6, c7⟩ := hA2.cells
  obtain ⟨f0, f1, f2, f3, f4, f5, f6, f7⟩ := hA2.frozens
  dsimp only at c0 c1 c2 c3 c4 c5 c6 c7
  obtain ⟨d0, d1, d2, d3, d4, d5, d6, d7⟩ := hZ2.cells
  obtain ⟨g0, g1, g2, g3, g4, g5, g6, g7⟩ := hZ2.frozens
  cases c with
  | false =>
    obtain rfl : y = ⟨false, e, h, k, l⟩ := HE.out
    clear HE
    go_wp2
    refine bodyPost_ret (v := shV ⟨false, e, h, k, l⟩) ?_ rfl ⟨rfl, bel_putSh hb2 (by omega) ⟨false, e, h, k, l⟩⟩
    exact results_cell_row rfl _ _ _ _ _ _ _ rfl (hZ2.put ⟨false, e, h, k, l⟩) Try.underlying26 rfl (by kernel_rfl)
  | true =>
    cases k with
    | false =>
      obtain rfl : y = ⟨false, false, h, false, l⟩ := HE.out
      clear HE
      go_wp2
      refine bodyPost_ret (v := shV ⟨false, false, h, false, l⟩) ?_ rfl ⟨rfl, bel_putSh (bel_set hb2 ⟨w.heap.size, 1, none⟩ (Nat.le_refl _) (.bool false)) (by omega) ⟨false, false, h, false, l⟩⟩
      exact results_cell_row rfl _ _ _ _ _ _ _ rfl ((hZ2.far (a := ⟨w.heap.size, 1, none⟩) (by simp) (.bool false)).put ⟨false, false, h, false, l⟩) Try.underlying26 rfl (by kernel_rfl)
    | true =>
      cases hq : empB l with
      | true =>
        obtain rfl : y = zeroSh := HE.out.trans (by rw [hq]; rfl)
        clear HE
        unfold empB at hq
        go_wp2
        refine bodyPost_ret (v := shV zeroSh) ?_ rfl ⟨rfl, bel_putZ hb2 (by omega)⟩
        exact results_cell_row rfl _ _ _ _ _ _ _ rfl (hZ2.putZ) Try.underlying26 rfl (by kernel_rfl)
      | false =>
        obtain rfl : y = ⟨false, false, h, true, l⟩ := HE.out.trans (by rw [hq]; rfl)
        clear HE
        unfold empB at hq
        go_wp2
        refine bodyPost_ret (v := shV ⟨false, false, h, true, l⟩) ?_ rfl ⟨rfl, bel_putSh (bel_set hb2 ⟨w.heap.size, 1, none⟩ (Nat.le_refl _) (.bool false)) (by omega) ⟨false, false, h, true, l⟩⟩
        exact results_cell_row rfl _ _ _ _ _ _ _ rfl ((hZ2.far (a := ⟨w.heap.size, 1, none⟩) (by simp) (.bool false)).put ⟨false, false, h, true, l⟩) Try.underlying26 rfl (by kernel_rfl)

set_option maxHeartbeats 4000000 in
set_option maxRecDepth 100000 in
theorem refOth_is (x : Sh) (c : Bool) (w : World) : Calls Try.prog 59 #[shV x, .bool c] w (Gives w (.bool (othB x c))) := by
  obtain ⟨u, e, h, k, l⟩ := x
  simp only [shV, othB]
  cases u <;> cases c <;>
  · go_enter Try.func59, Try.ntmps59
    go_wp2
    go_ret
    exact ⟨rfl, bel_alloc (Below.refl _ _) _⟩

set_option maxHeartbeats 4000000 in
set_option maxRecDepth 100000 in
theorem refGiven_is (x : Sh) (c : Bool) (w : World) : Calls Try.prog 28 #[shV x, .bool c] w (Gives w (shV (usedR x c))) := by
  obtain ⟨wA, hwA, hbA, hA, hZ⟩ := lay_oneZ w x
  have HU := Lib.hid (refUsed_is x c)
  generalize usedR x c = y at *
  simp only [shV] at HU ⊢
  go_enter Try.func28, Try.ntmps28
  obtain ⟨c0, c1, c2, c3, c4, c5, c6, c7⟩ := hA.cells
  go_wp2_with fail
  clear hwA c0 c1 c2 c3 c4 c5 c6 c7
  refine (HU.out _).mono ?_
  rintro ending w1 ⟨rfl, hb1⟩
  have hZ1 := hZ.after hb1
  have hB1 := bel_step hbA hb1
  obtain ⟨d0, d1, d2, d3, d4, d5, d6, d7⟩ := hZ1.cells
  obtain ⟨g0, g1, g2, g3, g4, g5, g6, g7⟩ := hZ1.frozens
  go_wp2
  refine bodyPost_ret (v := shV y) ?_ rfl ⟨rfl, bel_putSh hB1 (by omega) y⟩
  exact results_cell_row rfl _ _ _ _ _ _ _ rfl (hZ1.put y) Try.underlying26 rfl (by kernel_rfl)

set_option maxHeartbeats 4000000 in
set_option maxRecDepth 100000 in
theorem refRead_is (x : Sh) (w : World) : Calls Try.prog 19 #[shV x] w (Gives w (shV (readR x))) := by
  obtain ⟨u, e, h, k, l⟩ := x
  obtain ⟨wA, hwA, hbA, hA, hZ⟩ := lay_oneZ w ⟨u, e, h, k, l⟩
  cases u with
  | false =>
    rw [show readR ⟨false, e, h, k, l⟩ = ⟨false, e, h, k, l⟩ from rfl]
    simp only [shV] at hwA ⊢
    go_enter Try.func19, Try.ntmps19
    obtain ⟨c0, c1, c2, c3, c4, c5, c6, c7⟩ := hA.cells
    dsimp only at c0 c1 c2 c3 c4 c5 c6 c7
    obtain ⟨d0, d1, d2, d3, d4, d5, d6, d7⟩ := hZ.cells
    obtain ⟨g0, g1, g2, g3, g4, g5, g6, g7⟩ := hZ.frozens
    go_wp2
    refine bodyPost_ret (v := shV ⟨false, e, h, k, l⟩) ?_ rfl ⟨rfl, bel_putSh hbA (by omega) ⟨false, e, h, k, l⟩⟩
    exact results_cell_row rfl _ _ _ _ _ _ _ rfl (hZ.put ⟨false, e, h, k, l⟩) Try.underlying26 rfl (by kernel_rfl)
  | true =>
    have hC := refCould_is ⟨true, e, h, k, l⟩
    have HE : Hid (readR ⟨true, e, h, k, l⟩ = if couldB ⟨true, e, h, k, l⟩ then ⟨false, true, h, false, ⟨#[]⟩⟩ else litSh ⟨#[]⟩) := Lib.hid rfl
    generalize readR ⟨true, e, h, k, l⟩ = o at *
    generalize couldB ⟨true, e, h, k, l⟩ = z at *
    have HL := Lib.hid (refLit_is ⟨#[]⟩ (by decide))
    have HO := Lib.hid (refLoose_is ⟨true, e, h, k, l⟩)
    generalize litSh ⟨#[]⟩ = y1 at *
    simp only [shV, looseSh] at hwA hC HL HO ⊢
    have HC := Lib.hid hC
    clear hC
    go_enter Try.func19, Try.ntmps19
    obtain ⟨c0, c1, c2, c3, c4, c5, c6, c7⟩ := hA.cells
    dsimp only at c0 c1 c2 c3 c4 c5 c6 c7
    go_wp2_with fail
    clear hwA
    clear c0 c1 c2 c3 c4 c5 c6 c7
    refine (HC.out _).mono ?_
    rintro ending w2 ⟨rfl, hb2⟩
    have hA2 := hA.after hb2
    have hZ2 := hZ.after hb2
    have hB2 := bel_step hbA hb2
    clear hA hZ hbA hb2 HC
    cases z with
    | false =>
      obtain rfl : o = y1 := HE.out
      clear HE HO
      go_wp2_with fail
      refine (HL.out _).mono ?_
      rintro ending w3 ⟨rfl, hb3⟩
      have hZ3 := hZ2.after hb3
      have hB3 := bel_step hB2 hb3
      obtain ⟨d0, d1, d2, d3, d4, d5, d6, d7⟩ := hZ3.cells
      obtain ⟨g0, g1, g2, g3, g4, g5, g6, g7⟩ := hZ3.frozens
      go_wp2
      refine bodyPost_ret (v := shV o) ?_ rfl ⟨rfl, bel_putSh hB3 (by omega) o⟩
      exact results_cell_row rfl _ _ _ _ _ _ _ rfl (hZ3.put o) Try.underlying26 rfl (by kernel_rfl)
    | true =>
      obtain rfl : o = ⟨false, true, h, false, ⟨#[]⟩⟩ := HE.out
      clear HE HL
      obtain ⟨c0, c1, c2, c3, c4, c5, c6, c7⟩ := hA2.cells
      dsimp only at c0 c1 c2 c3 c4 c5 c6 c7
      go_wp2_with fail
      clear c0 c1 c2 c3 c4 c5 c6 c7
      refine (HO.out _).mono ?_
      rintro ending w3 ⟨rfl, hb3⟩
      have hZ3 := hZ2.after hb3
      have hB3 := bel_step hB2 hb3
      have hlt := hZ3.lt
      clear hb3 hA2 hZ2 hB2
      have hN := ShAt.new w3 ⟨true, e, h, false, ⟨#[]⟩⟩
      have hZ4 := hZ3.alloc (.cells #[.bool true, .bool e, .int .u64 (wd h 0 : Nat), .int .u64 (wd h 1 : Nat), .int .u64 (wd h 2 : Nat), .int .u64 (wd h 3 : Nat), .bool false, .string ⟨#[]⟩] 26)
      have hB4 := bel_alloc hB3 (.cells #[.bool true, .bool e, .int .u64 (wd h 0 : Nat), .int .u64 (wd h 1 : Nat), .int .u64 (wd h 2 : Nat), .int .u64 (wd h 3 : Nat), .bool false, .string ⟨#[]⟩] 26)
      dsimp only at hN
      obtain ⟨b, hb⟩ : ∃ b, w3.heap.size = b := ⟨_, rfl⟩
      have hne : w.heap.size + 1 ≠ b := by omega
      have hle : w.heap.size ≤ b := by omega
      obtain ⟨U, hU⟩ : ∃ U, w3.alloc (.cells #[.bool true, .bool e, .int .u64 (wd h 0 : Nat), .int .u64 (wd h 1 : Nat), .int .u64 (wd h 2 : Nat), .int .u64 (wd h 3 : Nat), .bool false, .string ⟨#[]⟩] 26) = U := ⟨_, rfl⟩
      rw [hU] at hN hZ4 hB4
      rw [hb] at hN
      have HU := Lib.hid hU
      clear hU
      go_upto_region 6 with fail
      rw [HU.out]
      clear HU hZ3 hB3 hlt hb
      obtain ⟨n0, n1, n2, n3, n4, n5, n6, n7⟩ := hN.cells
      obtain ⟨f0, f1, f2, f3, f4, f5, f6, f7⟩ := hN.frozens
      obtain ⟨d0, d1, d2, d3, d4, d5, d6, d7⟩ := hZ4.cells
      obtain ⟨g0, g1, g2, g3, g4, g5, g6, g7⟩ := hZ4.frozens
      dsimp only at n0 n1 n2 n3 n4 n5 n6 n7
      go_wp2
      refine bodyPost_ret (v := shV ⟨false, true, h, false, ⟨#[]⟩⟩) ?_ rfl ⟨rfl, bel_putSh (bel_set (bel_set hB4 ⟨b, 0, none⟩ hle (.bool false)) ⟨b, 1, none⟩ hle (.bool true)) (by omega) ⟨false, true, h, false, ⟨#[]⟩⟩⟩
      exact results_cell_row rfl _ _ _ _ _ _ _ rfl (((hZ4.far (a := ⟨b, 0, none⟩) hne (.bool false)).far (a := ⟨b, 1, none⟩) hne (.bool true)).put ⟨false, true, h, false, ⟨#[]⟩⟩) Try.underlying26 rfl (by kernel_rfl)

set_option maxHeartbeats 4000000 in
set_option maxRecDepth 100000 in
theorem refCut_is (x : Sh) (w : World) : Calls Try.prog 23 #[shV x] w (Gives w (shV (cutR x))) := by
  obtain ⟨u, e, h, k, l⟩ := x
  obtain ⟨wA, hwA, hbA, hA, hZ⟩ := lay_oneZ w ⟨u, e, h, k, l⟩
  have hN := refNone_is ⟨u, e, h, k, l⟩
  have HE : Hid (cutR ⟨u, e, h, k, l⟩ = if noneB ⟨u, e, h, k, l⟩ then ⟨u, e, h, k, l⟩ else if (if k then empB l else false) then ⟨u, e, h, k, l⟩ else ⟨false, true, h, false, ⟨#[]⟩⟩) := Lib.hid rfl
  generalize cutR ⟨u, e, h, k, l⟩ = y at *
  generalize noneB ⟨u, e, h, k, l⟩ = z at *
  simp only [shV] at hwA hN ⊢
  have HN := Lib.hid hN
  clear hN
  go_enter Try.func23, Try.ntmps23
  obtain ⟨c0, c1, c2, c3, c4, c5, c6, c7⟩ := hA.cells
  dsimp only at c0 c1 c2 c3 c4 c5 c6 c7
  go_wp2_with fail
  clear hwA
  clear c0 c1 c2 c3 c4 c5 c6 c7
  refine (HN.out _).mono ?_
  rintro ending w1 ⟨rfl, hb1⟩
  have hA1 := hA.after hb1
  have hZ1 := hZ.after hb1
  have hB1 := bel_step hbA hb1
  clear hA hZ hbA hb1 HN
  obtain ⟨c0, c1, c2, c3, c4, c5, c6, c7⟩ := hA1.cells
  dsimp only at c0 c1 c2 c3 c4 c5 c6 c7
  cases z with
  | true =>
    obtain rfl : y = ⟨u, e, h, k, l⟩ := HE.out
    clear HE
    obtain ⟨d0, d1, d2, d3, d4, d5, d6, d7⟩ := hZ1.cells
    obtain ⟨g0, g1, g2, g3, g4, g5, g6, g7⟩ := hZ1.frozens
    go_wp2
    refine bodyPost_ret (v := shV ⟨u, e, h, k, l⟩) ?_ rfl ⟨rfl, bel_putSh hB1 (by omega) ⟨u, e, h, k, l⟩⟩
    exact results_cell_row rfl _ _ _ _ _ _ _ rfl (hZ1.put ⟨u, e, h, k, l⟩) Try.underlying26 rfl (by kernel_rfl)
  | false =>
    cases k with
    | false =>
      obtain rfl : y = ⟨false, true, h, false, ⟨#[]⟩⟩ := HE.out
      clear HE
      obtain ⟨d0, d1, d2, d3, d4, d5, d6, d7⟩ := hZ1.cells
      obtain ⟨g0, g1, g2, g3, g4, g5, g6, g7⟩ := hZ1.frozens
      go_wp2
      refine bodyPost_ret (v := shV ⟨false, true, h, false, ⟨#[]⟩⟩) ?_ rfl ⟨rfl, bel_putSh hB1 (by omega) ⟨false, true, h, false, ⟨#[]⟩⟩⟩
      exact results_cell_row rfl _ _ _ _ _ _ _ rfl (hZ1.put ⟨false, true, h, false, ⟨#[]⟩⟩) Try.underlying26 rfl (by kernel_rfl)
    | true =>
      cases hq : empB l with
      | true =>
        obtain rfl : y = ⟨u, e, h, true, l⟩ := HE.out.trans (by rw [hq]; rfl)
        clear HE
        unfold empB at hq
        obtain ⟨d0, d1, d2, d3, d4, d5, d6, d7⟩ := hZ1.cells
        obtain ⟨g0, g1, g2, g3, g4, g5, g6, g7⟩ := hZ1.frozens
        go_wp2
        refine bodyPost_ret (v := shV ⟨u, e, h, true, l⟩) ?_ rfl ⟨rfl, bel_putSh hB1 (by omega) ⟨u, e, h, true, l⟩⟩
        exact results_cell_row rfl _ _ _ _ _ _ _ rfl (hZ1.put ⟨u, e, h, true, l⟩) Try.underlying26 rfl (by kernel_rfl)
      | false =>
        obtain rfl : y = ⟨false, true, h, false, ⟨#[]⟩⟩ := HE.out.trans (by rw [hq]; rfl)
        clear HE
        unfold empB at hq
        obtain ⟨d0, d1, d2, d3, d4, d5, d6, d7⟩ := hZ1.cells
        obtain ⟨g0, g1, g2, g3, g4, g5, g6, g7⟩ := hZ1.frozens
        go_wp2
        refine bodyPost_ret (v := shV ⟨false, true, h, false, ⟨#[]⟩⟩) ?_ rfl ⟨rfl, bel_putSh hB1 (by omega) ⟨false, true, h, false, ⟨#[]⟩⟩⟩
        exact results_cell_row rfl _ _ _ _ _ _ _ rfl (hZ1.put ⟨false, true, h, false, ⟨#[]⟩⟩) Try.underlying26 rfl (by kernel_rfl)

set_option maxHeartbeats 4000000 in
set_option maxRecDepth 100000 in
theorem refGlob_is (x : Sh) (w : World) : Calls Try.prog 32 #[shV x] w (Gives w (.bool (globB x))) := by
  have hO := refOf_is ⟨#[42, 63, 91]⟩ (by decide)
  rw [show (⟨#[42, 63, 91]⟩ : ByteArray).data.toList = signs from rfl] at hO
  have HO := Lib.hid hO
  have HM := Lib.hid (refAnd_is x.h (ofS signs))
  have HN := Lib.hid (refNo_is (andS x.h (ofS signs)))
  clear hO
  obtain ⟨wA, hwA, hbA, hA⟩ := lay_one w x
  unfold globB meetB
  generalize sameS (andS x.h (ofS signs)) noS = z at *
  generalize andS x.h (ofS signs) = r at *
  generalize ofS signs = p at *
  simp only [setV, shV] at HO HM HN ⊢
  go_enter Try.func32, Try.ntmps32
  go_wp2
  clear hwA
  obtain ⟨L0, L1, L2, L3, L4, L5, L6, L7⟩ := hA.laters
  refine region_later (by kernel_rfl) (by kernel_rfl) ?_
  repeat (go_big_quiet_step (fail))
  go_big_quiet_step (exact later (HO.out _))
  repeat (go_big_quiet_step (fail))
  go_big_quiet_step (exact later (HM.out _))
  repeat (go_big_quiet_step (fail))
  go_big_quiet_step (exact later (HN.out _))
  repeat (go_big_quiet_step (fail))
  refine wpQuiet_nil ?_
  rintro _ ⟨y, rfl⟩
  go_wp2
  go_ret
  exact ⟨rfl, bel_step hbA y.below⟩

set_option maxHeartbeats 4000000 in
set_option maxRecDepth 100000 in
theorem refDefault_is (x y : Sh) (c : Bool) (w : World) : Calls Try.prog 25 #[shV x, shV y, .bool c] w (Gives w (shV (defR x y c))) := by
  obtain ⟨wA, hwA, hbA, hA, hB, hZ⟩ := lay_three w x y
  have hO := refOth_is x c
  have HU := Lib.hid (refUsed_is x c)
  have HJ := Lib.hid (refJoin_is (usedR x c) y)
  obtain ⟨r, hr⟩ : ∃ r, defR x y c = r := ⟨_, rfl⟩
  rw [hr]
  unfold defR at hr
  generalize joinR (usedR x c) y = j at *
  generalize usedR x c = v at *
  generalize othB x c = o at *
  have HE := Lib.hid hr
  clear hr
  simp only [shV] at hO HU HJ ⊢
  have HO := Lib.hid hO
  clear hO
  go_enter Try.func25, Try.ntmps25
  obtain ⟨c0, c1, c2, c3, c4, c5, c6, c7⟩ := hA.cells
  go_wp2_with fail
  clear hwA c0 c1 c2 c3 c4 c5 c6 c7
  refine (HO.out _).mono ?_
  rintro ending w1 ⟨rfl, hb1⟩
  have hA1 := hA.after hb1
  have hB1 := hB.after hb1
  have hZ1 := hZ.after hb1
  have hb := bel_step hbA hb1
  clear hA hB hZ hbA hb1 HO
  cases o with
  | false =>
    obtain rfl : v = r := HE.out
    clear HE
    obtain ⟨c0, c1, c2, c3, c4, c5, c6, c7⟩ := hA1.cells
    go_wp2_with fail
    clear c0 c1 c2 c3 c4 c5 c6 c7
    refine (HU.out _).mono ?_
    rintro ending w2 ⟨rfl, hb2⟩
    have hZ2 := hZ1.after hb2
    have hB2 := bel_step hb hb2
    obtain ⟨d0, d1, d2, d3, d4, d5, d6, d7⟩ := hZ2.cells
    obtain ⟨g0, g1, g2, g3, g4, g5, g6, g7⟩ := hZ2.frozens
    go_wp2
    refine bodyPost_ret (v := shV v) ?_ rfl ⟨rfl, bel_putSh hB2 (by omega) v⟩
    exact results_cell_row rfl _ _ _ _ _ _ _ rfl (hZ2.put v) Try.underlying26 rfl (by kernel_rfl)
  | true =>
    obtain rfl : j = r := HE.out
    clear HE
    go_wp2
    obtain ⟨L0, L1, L2, L3, L4, L5, L6, L7⟩ := hA1.laters
    obtain ⟨M0, M1, M2, M3, M4, M5, M6, M7⟩ := hB1.laters
    refine region_tail 5 (by kernel_rfl) (by kernel_rfl) ?_
    simp only [List.take_succ_cons, List.take_zero, List.drop_succ_cons, List.drop_zero]
    repeat (go_big_quiet_step (fail))
    go_big_quiet_step (exact later (HU.out _))
    repeat (go_big_quiet_step (fail))
    go_big_quiet_step (exact later (HJ.out _))
    repeat (go_big_quiet_step (fail))
    refine wpQuiet_nil ?_
    rintro _ ⟨z, rfl⟩
    have hZ2 := hZ1.after z.below
    have hB2 := bel_step hb z.below
    clear L0 L1 L2 L3 L4 L5 L6 L7 M0 M1 M2 M3 M4 M5 M6 M7
    obtain ⟨d0, d1, d2, d3, d4, d5, d6, d7⟩ := hZ2.cells
    obtain ⟨g0, g1, g2, g3, g4, g5, g6, g7⟩ := hZ2.frozens
    go_wp2
    refine bodyPost_ret (v := shV j) ?_ rfl ⟨rfl, bel_putSh hB2 (by omega) j⟩
    exact results_cell_row rfl _ _ _ _ _ _ _ rfl (hZ2.put j) Try.underlying26 rfl (by kernel_rfl)

set_option maxHeartbeats 4000000 in
set_option maxRecDepth 100000 in
theorem refOther_is (x y : Sh) (c : Bool) (w : World) : Calls Try.prog 30 #[shV x, shV y, .bool c] w (Gives w (shV (othR x y c))) := by
  obtain ⟨wA, hwA, hbA, hA, hB, hZ⟩ := lay_three w x y
  obtain ⟨b, hb⟩ : ∃ b, wA.heap.size = b := ⟨_, rfl⟩
  have hsz : wA.heap.size = w.heap.size + 1 + 1 + 1 := by rw [← hwA]; simp
  have hY1 := ShAt.zero_at wA b hb
  have hA1 := hA.alloc (.cells #[.bool false, .bool false, .int .u64 0, .int .u64 0, .int .u64 0, .int .u64 0, .bool false, .string ⟨#[]⟩] 26)
  have hB1 := hB.alloc (.cells #[.bool false, .bool false, .int .u64 0, .int .u64 0, .int .u64 0, .int .u64 0, .bool false, .string ⟨#[]⟩] 26)
  have hZ1 := hZ.alloc (.cells #[.bool false, .bool false, .int .u64 0, .int .u64 0, .int .u64 0, .int .u64 0, .bool false, .string ⟨#[]⟩] 26)
  have hb1 := bel_alloc hbA (.cells #[.bool false, .bool false, .int .u64 0, .int .u64 0, .int .u64 0, .int .u64 0, .bool false, .string ⟨#[]⟩] 26)
  have hne : w.heap.size + 1 + 1 ≠ b := by omega
  have hnc : w.heap.size ≠ b := by omega
  have hle : w.heap.size ≤ b := by omega
  obtain ⟨U0, hU0⟩ : ∃ U0, wA.alloc (.cells #[.bool false, .bool false, .int .u64 0, .int .u64 0, .int .u64 0, .int .u64 0, .bool false, .string ⟨#[]⟩] 26) = U0 := ⟨_, rfl⟩
  rw [hU0] at hA1 hB1 hZ1 hY1 hb1
  have HU0 := Lib.hid hU0
  clear hU0
  have HU := Lib.hid (refUsed_is x c)
  have hN := refCould_is (usedR x c)
  have hO := refOth_is x c
  have HL := Lib.hid (refLit_is ⟨#[]⟩ (by decide))
  have hJ := refJoin_is (elseR x y c) (litSh ⟨#[]⟩)
  have HE : Hid (elseR x y c = if couldB (usedR x c) then y else zeroSh) := Lib.hid rfl
  obtain ⟨r, hr⟩ : ∃ r, othR x y c = r := ⟨_, rfl⟩
  rw [hr]
  unfold othR at hr
  generalize joinR (elseR x y c) (litSh ⟨#[]⟩) = j at *
  generalize elseR x y c = s at *
  generalize couldB (usedR x c) = n at *
  generalize usedR x c = v at *
  generalize othB x c = o at *
  generalize litSh ⟨#[]⟩ = y1 at *
  simp only [shV] at HU hN hO HL ⊢
  have HN := Lib.hid hN
  have HO := Lib.hid hO
  have HQ := Lib.hid hr
  clear hN hO hr
  go_enter Try.func30, Try.ntmps30
  go_upto_region 2 with fail
  rw [HU0.out]
  clear hwA HU0 hb hsz hA hB hZ hbA
  obtain ⟨c0, c1, c2, c3, c4, c5, c6, c7⟩ := hA1.cells
  go_wp2_with fail
  clear c0 c1 c2 c3 c4 c5 c6 c7
  refine (HU.out _).mono ?_
  rintro ending w1 ⟨rfl, kb1⟩
  go_wp2_with fail
  refine (HN.out _).mono ?_
  rintro ending w2 ⟨rfl, kb2⟩
  have hA2 := (hA1.after kb1).after kb2
  have hB2 := (hB1.after kb1).after kb2
  have hZ2 := (hZ1.after kb1).after kb2
  have hY2 := (hY1.after kb1).after kb2
  have hb2 := bel_step (bel_step hb1 kb1) kb2
  clear hA1 hB1 hZ1 hY1 hb1 kb1 kb2 HU HN
  cases n with
  | false =>
    obtain rfl : s = zeroSh := HE.out
    clear HE
    rw [shV_zero] at hJ
    simp only [shV] at hJ
    have HJ := Lib.hid hJ
    clear hJ
    have hA3 := hA2
    have hZ3 := hZ2
    have hY3 := hY2
    have hb3 := hb2
    clear hA2 hZ2 hY2 hb2 hB2
    cases o with
    | false =>
      obtain rfl : zeroSh = r := HQ.out
      clear HQ
      obtain ⟨c0, c1, c2, c3, c4, c5, c6, c7⟩ := hA3.cells
      go_wp2_with fail
      clear c0 c1 c2 c3 c4 c5 c6 c7
      refine (HO.out _).mono ?_
      rintro ending w4 ⟨rfl, hb4⟩
      have hA4 := hA3.after hb4
      have hZ4 := hZ3.after hb4
      have hY4 := hY3.after hb4
      have hB4 := bel_step hb3 hb4
      clear hA3 hZ3 hY3 hb3 hb4 HO
      obtain ⟨y0, y1, y2, y3, y4, y5, y6, y7⟩ := hY4.cells
      simp only [zeroSh, wd_no] at y0 y1 y2 y3 y4 y5 y6 y7
      obtain ⟨d0, d1, d2, d3, d4, d5, d6, d7⟩ := hZ4.cells
      obtain ⟨g0, g1, g2, g3, g4, g5, g6, g7⟩ := hZ4.frozens
      go_wp2
      refine bodyPost_ret (v := shV zeroSh) ?_ rfl ⟨rfl, bel_putZ hB4 (by omega)⟩
      exact results_cell_row rfl _ _ _ _ _ _ _ rfl (hZ4.putZ) Try.underlying26 rfl (by kernel_rfl)
    | true =>
      obtain rfl : j = r := HQ.out
      clear HQ
      obtain ⟨c0, c1, c2, c3, c4, c5, c6, c7⟩ := hA3.cells
      go_wp2_with fail
      clear c0 c1 c2 c3 c4 c5 c6 c7
      refine (HO.out _).mono ?_
      rintro ending w4 ⟨rfl, hb4⟩
      have hA4 := hA3.after hb4
      have hZ4 := hZ3.after hb4
      have hY4 := hY3.after hb4
      have hB4 := bel_step hb3 hb4
      clear hA3 hZ3 hY3 hb3 hb4 HO
      go_wp2
      obtain ⟨L0, L1, L2, L3, L4, L5, L6, L7⟩ := hY4.laters
      simp only [zeroSh, wd_no] at L0 L1 L2 L3 L4 L5 L6 L7
      refine region_tail 3 (by kernel_rfl) (by kernel_rfl) ?_
      simp only [List.take_succ_cons, List.take_zero, List.drop_succ_cons, List.drop_zero]
      repeat (go_big_quiet_step (fail))
      go_big_quiet_step (exact later (HL.out _))
      repeat (go_big_quiet_step (fail))
      go_big_quiet_step (exact later (HJ.out _))
      repeat (go_big_quiet_step (fail))
      refine wpQuiet_nil ?_
      rintro _ ⟨z, rfl⟩
      have hZ5 := hZ4.after z.below
      have hB5 := bel_step hB4 z.below
      clear L0 L1 L2 L3 L4 L5 L6 L7 hA4 hZ4 hY4 hB4 HL HJ
      obtain ⟨d0, d1, d2, d3, d4, d5, d6, d7⟩ := hZ5.cells
      obtain ⟨g0, g1, g2, g3, g4, g5, g6, g7⟩ := hZ5.frozens
      go_wp2
      refine bodyPost_ret (v := shV j) ?_ rfl ⟨rfl, bel_putSh hB5 (by omega) j⟩
      exact results_cell_row rfl _ _ _ _ _ _ _ rfl (hZ5.put j) Try.underlying26 rfl (by kernel_rfl)
  | true =>
    obtain rfl : s = y := HE.out
    clear HE
    simp only [shV] at hJ
    have HJ := Lib.hid hJ
    clear hJ
    have hY3 := hY2.put s
    have hZ3 := hZ2.putFar (c := b) hne s
    have hA3 := hA2.putFar (c := b) hnc s
    have hb3 := bel_putSh hb2 (b := b) hle s
    obtain ⟨U, hU⟩ : ∃ U, putSh w2 b s = U := ⟨_, rfl⟩
    rw [hU] at hY3 hZ3 hA3 hb3
    unfold putSh at hU
    have HU2 := Lib.hid hU
    clear hU
    obtain ⟨c0, c1, c2, c3, c4, c5, c6, c7⟩ := hB2.cells
    obtain ⟨y0, y1, y2, y3, y4, y5, y6, y7⟩ := hY2.cells
    obtain ⟨f0, f1, f2, f3, f4, f5, f6, f7⟩ := hY2.frozens
    go_upto_region 4 with fail
    rw [HU2.out]
    clear HU2 c0 c1 c2 c3 c4 c5 c6 c7 y0 y1 y2 y3 y4 y5 y6 y7 f0 f1 f2 f3 f4 f5 f6 f7 hA2 hZ2 hY2 hb2 hB2
    cases o with
    | false =>
      obtain rfl : s = r := HQ.out
      clear HQ
      obtain ⟨c0, c1, c2, c3, c4, c5, c6, c7⟩ := hA3.cells
      go_wp2_with fail
      clear c0 c1 c2 c3 c4 c5 c6 c7
      refine (HO.out _).mono ?_
      rintro ending w4 ⟨rfl, hb4⟩
      have hA4 := hA3.after hb4
      have hZ4 := hZ3.after hb4
      have hY4 := hY3.after hb4
      have hB4 := bel_step hb3 hb4
      clear hA3 hZ3 hY3 hb3 hb4 HO
      obtain ⟨y0, y1, y2, y3, y4, y5, y6, y7⟩ := hY4.cells
      obtain ⟨d0, d1, d2, d3, d4, d5, d6, d7⟩ := hZ4.cells
      obtain ⟨g0, g1, g2, g3, g4, g5, g6, g7⟩ := hZ4.frozens
      go_wp2
      refine bodyPost_ret (v := shV s) ?_ rfl ⟨rfl, bel_putSh hB4 (by omega) s⟩
      exact results_cell_row rfl _ _ _ _ _ _ _ rfl (hZ4.put s) Try.underlying26 rfl (by kernel_rfl)
    | true =>
      obtain rfl : j = r := HQ.out
      clear HQ
      obtain ⟨c0, c1, c2, c3, c4, c5, c6, c7⟩ := hA3.cells
      go_wp2_with fail
      clear c0 c1 c2 c3 c4 c5 c6 c7
      refine (HO.out _).mono ?_
      rintro ending w4 ⟨rfl, hb4⟩
      have hA4 := hA3.after hb4
      have hZ4 := hZ3.after hb4
      have hY4 := hY3.after hb4
      have hB4 := bel_step hb3 hb4
      clear hA3 hZ3 hY3 hb3 hb4 HO
      go_wp2
      obtain ⟨L0, L1, L2, L3, L4, L5, L6, L7⟩ := hY4.laters
      refine region_tail 3 (by kernel_rfl) (by kernel_rfl) ?_
      simp only [List.take_succ_cons, List.take_zero, List.drop_succ_cons, List.drop_zero]
      repeat (go_big_quiet_step (fail))
      go_big_quiet_step (exact later (HL.out _))
      repeat (go_big_quiet_step (fail))
      go_big_quiet_step (exact later (HJ.out _))
      repeat (go_big_quiet_step (fail))
      refine wpQuiet_nil ?_
      rintro _ ⟨z, rfl⟩
      have hZ5 := hZ4.after z.below
      have hB5 := bel_step hB4 z.below
      clear L0 L1 L2 L3 L4 L5 L6 L7 hA4 hZ4 hY4 hB4 HL HJ
      obtain ⟨d0, d1, d2, d3, d4, d5, d6, d7⟩ := hZ5.cells
      obtain ⟨g0, g1, g2, g3, g4, g5, g6, g7⟩ := hZ5.frozens
      go_wp2
      refine bodyPost_ret (v := shV j) ?_ rfl ⟨rfl, bel_putSh hB5 (by omega) j⟩
      exact results_cell_row rfl _ _ _ _ _ _ _ rfl (hZ5.put j) Try.underlying26 rfl (by kernel_rfl)
end Go.Proofs.Ytjdhidiocchkeaa
