/-
  Contracts of package shape (joinSet, Join), over the translation.
-/
import Derived.Test.YtjdhidiocchkeaaShapeMay
import Derived.Test.YtjdhidiocchkeaaHead
import Derived.Deep.Cut
namespace Go.Proofs.Ytjdhidiocchkeaa
open Go.RowKit

theorem ShAt.new_at (w : World) (x : Sh) (n : Nat) (h : w.heap.size = n) : ShAt (w.alloc (.cells #[.bool x.u, .bool x.e, .int .u64 (wd x.h 0 : Nat), .int .u64 (wd x.h 1 : Nat), .int .u64 (wd x.h 2 : Nat), .int .u64 (wd x.h 3 : Nat), .bool x.k, .string x.l] 26)) n x := h ▸ ShAt.new w x
theorem ShAt.zero_at (w : World) (n : Nat) (h : w.heap.size = n) : ShAt (w.alloc (.cells #[.bool false, .bool false, .int .u64 0, .int .u64 0, .int .u64 0, .int .u64 0, .bool false, .string ⟨#[]⟩] 26)) n zeroSh := h ▸ ShAt.zero w

/-- two shapes among the arguments -/
theorem lay_two (w : World) (a b : Sh) : ∃ wA, (w.alloc (.cells #[.bool a.u, .bool a.e, .int .u64 (wd a.h 0 : Nat), .int .u64 (wd a.h 1 : Nat), .int .u64 (wd a.h 2 : Nat), .int .u64 (wd a.h 3 : Nat), .bool a.k, .string a.l] 26)).alloc (.cells #[.bool b.u, .bool b.e, .int .u64 (wd b.h 0 : Nat), .int .u64 (wd b.h 1 : Nat), .int .u64 (wd b.h 2 : Nat), .int .u64 (wd b.h 3 : Nat), .bool b.k, .string b.l] 26) = wA ∧ Below w.heap.size w wA ∧ ShAt wA w.heap.size a ∧ ShAt wA (w.heap.size + 1) b :=
  ⟨_, rfl, bel_alloc (bel_alloc (Below.refl _ _) _) _, (ShAt.new _ a).alloc _, ShAt.new_at _ b _ (by simp)⟩
/-- .. and a shape to hand back -/
theorem lay_three (w : World) (a b : Sh) : ∃ wA, ((w.alloc (.cells #[.bool a.u, .bool a.e, .int .u64 (wd a.h 0 : Nat), .int .u64 (wd a.h 1 : Nat), .int .u64 (wd a.h 2 : Nat), .int .u64 (wd a.h 3 : Nat), .bool a.k, .string a.l] 26)).alloc (.cells #[.bool b.u, .bool b.e, .int .u64 (wd b.h 0 : Nat), .int .u64 (wd b.h 1 : Nat), .int .u64 (wd b.h 2 : Nat), .int .u64 (wd b.h 3 : Nat), .bool b.k, .string b.l] 26)).alloc (.cells #[.bool false, .bool false, .int .u64 0, .int .u64 0, .int .u64 0, .int .u64 0, .bool false, .string ⟨#[]⟩] 26) = wA ∧ Below w.heap.size w wA ∧ ShAt wA w.heap.size a ∧ ShAt wA (w.heap.size + 1) b ∧ ShAt wA (w.heap.size + 1 + 1) zeroSh :=
  ⟨_, rfl, bel_alloc (bel_alloc (bel_alloc (Below.refl _ _) _) _) _, ((ShAt.new _ a).alloc _).alloc _, (ShAt.new_at _ b _ (by simp)).alloc _, ShAt.zero_at _ _ (by simp)⟩

set_option maxHeartbeats 2000000 in
set_option maxRecDepth 100000 in
theorem joinSet_is (a b : Sh) (w : World) : Calls Try.prog 65 #[shV a, shV b] w (Gives w (shV (joinSetP a b))) := by
  have hCa := could_is a
  have hCb := could_is b
  obtain ⟨wA, hwA, hbA, hA, hB, hZ⟩ := lay_three w a b
  cases hca : couldB a with
  | false =>
    rw [show joinSetP a b = b by unfold joinSetP; rw [hca]; rfl]
    rw [hca] at hCa
    have HA := Lib.hid hCa
    clear hCa hCb
    simp only [shV] at HA ⊢
    go_enter Try.func65, Try.ntmps65
    obtain ⟨c0, c1, c2, c3, c4, c5, c6, c7⟩ := hA.cells
    go_wp2_with fail
    clear hwA c0 c1 c2 c3 c4 c5 c6 c7
    refine (HA.out _).mono ?_
    rintro e w1 ⟨rfl, hb1⟩
    have hB1 := hB.after hb1
    have hZ1 := hZ.after hb1
    obtain ⟨c0, c1, c2, c3, c4, c5, c6, c7⟩ := hB1.cells
    obtain ⟨d0, d1, d2, d3, d4, d5, d6, d7⟩ := hZ1.cells
    obtain ⟨g0, g1, g2, g3, g4, g5, g6, g7⟩ := hZ1.frozens
    go_wp2
    refine bodyPost_ret (v := shV b) ?_ rfl ⟨rfl, bel_putSh (bel_step hbA hb1) (by omega) b⟩
    exact results_cell_row rfl _ _ _ _ _ _ _ rfl (hZ1.put b) Try.underlying26 rfl (by kernel_rfl)
  | true =>
    rw [hca] at hCa
    cases hcb : couldB b with
    | false =>
      rw [show joinSetP a b = a by unfold joinSetP; rw [hca, hcb]; rfl]
      rw [hcb] at hCb
      have HA := Lib.hid hCa
      have HB := Lib.hid hCb
      clear hCa hCb
      simp only [shV] at HA HB ⊢
      go_enter Try.func65, Try.ntmps65
      obtain ⟨c0, c1, c2, c3, c4, c5, c6, c7⟩ := hA.cells
      go_wp2_with fail
      clear hwA c0 c1 c2 c3 c4 c5 c6 c7
      refine (HA.out _).mono ?_
      rintro e w1 ⟨rfl, hb1⟩
      have hA1 := hA.after hb1
      have hB1 := hB.after hb1
      have hZ1 := hZ.after hb1
      obtain ⟨c0, c1, c2, c3, c4, c5, c6, c7⟩ := hB1.cells
      go_wp2_with fail
      clear c0 c1 c2 c3 c4 c5 c6 c7
      refine (HB.out _).mono ?_
      rintro e w2 ⟨rfl, hb2⟩
      have hA2 := hA1.after hb2
      have hZ2 := hZ1.after hb2
      obtain ⟨c0, c1, c2, c3, c4, c5, c6, c7⟩ := hA2.cells
      obtain ⟨d0, d1, d2, d3, d4, d5, d6, d7⟩ := hZ2.cells
      obtain ⟨g0, g1, g2, g3, g4, g5, g6, g7⟩ := hZ2.frozens
      go_wp2
      refine bodyPost_ret (v := shV a) ?_ rfl ⟨rfl, bel_putSh (bel_step (bel_step hbA hb1) hb2) (by omega) a⟩
      exact results_cell_row rfl _ _ _ _ _ _ _ rfl (hZ2.put a) Try.underlying26 rfl (by kernel_rfl)
    | true =>
      rw [hcb] at hCb
      have HA := Lib.hid hCa
      have HB := Lib.hid hCb
      have HO := Lib.hid (Or_is a.h b.h)
      have HJ : Hid (joinSetP a b = if (if a.k then (if b.k then eqB a.l b.l else false) else false) then ⟨false, a.e || b.e, orS a.h b.h, true, a.l⟩ else ⟨false, a.e || b.e, orS a.h b.h, false, ⟨#[]⟩⟩) := Lib.hid (by unfold joinSetP; rw [hca, hcb]; rfl)
      clear hCa hCb hca hcb
      obtain ⟨j, hj⟩ : ∃ j, joinSetP a b = j := ⟨_, rfl⟩
      rw [hj] at HJ ⊢
      clear hj
      obtain ⟨je, he⟩ : ∃ je, (a.e || b.e) = je := ⟨_, rfl⟩
      rw [he] at HJ
      simp only [shV, setV] at HA HB HO ⊢
      go_enter Try.func65, Try.ntmps65
      obtain ⟨c0, c1, c2, c3, c4, c5, c6, c7⟩ := hA.cells
      go_wp2_with fail
      clear hwA c0 c1 c2 c3 c4 c5 c6 c7
      refine (HA.out _).mono ?_
      rintro e w1 ⟨rfl, hb1⟩
      have hA1 := hA.after hb1
      have hB1 := hB.after hb1
      have hZ1 := hZ.after hb1
      obtain ⟨c0, c1, c2, c3, c4, c5, c6, c7⟩ := hB1.cells
      go_wp2_with fail
      clear c0 c1 c2 c3 c4 c5 c6 c7
      refine (HB.out _).mono ?_
      rintro e w2 ⟨rfl, hb2⟩
      have hA2 := hA1.after hb2
      have hB2 := hB1.after hb2
      have hZ2 := hZ1.after hb2
      have hbw := bel_step (bel_step hbA hb1) hb2
      have hlt := hZ2.lt
      clear hA1 hB1 hZ1 hb1 hb2 hA hB hZ hbA HA HB
      go_wp2
      go_cut [5] from 16 (fun p wx => ∃ X : Nat, p = .pointer (some ⟨X, 0, none⟩) ∧ ShAt wx X ⟨false, je, orS a.h b.h, false, ⟨#[]⟩⟩ ∧ w2.heap.size ≤ X ∧ Below w2.heap.size w2 wx)
      case first =>
        rcases Bool.eq_false_or_eq_true a.e with hae | hae
        · have he2 : true = je := by rw [← he, hae]; rfl
          have HE := Lib.hid hae
          clear hae
          subst he2
          clear he
          refine region_head 12 ?A1 (by kernel_rfl) (by kernel_rfl) (by kernel_rfl) (by decide) (by kernel_rfl) ?hQ ?head ?tail
          case hQ =>
            intro c a d v w1 h
            cases d <;> exact h
          case head =>
            intro x
            simp only [List.take_succ_cons, List.take_zero]
            obtain ⟨A0, A1, A2, A3, A4, A5, A6, A7⟩ := (ShAt.after hA2.drew x.below).laters
            obtain ⟨B0, B1, B2, B3, B4, B5, B6, B7⟩ := (ShAt.after hB2.drew x.below).laters
            have E1 := fun y => (A1 y).trans (by rw [HE.out])
            clear A1
            repeat (go_big_quiet_step (fail))
            go_big_quiet_step (exact later (HO.out _))
            repeat (go_big_quiet_step (fail))
            refine wpQuiet_nil ?_
            rfl
          case tail =>
            change wpAnyU _ _ _ _ _ (1 + 1) _ _ _
            refine wpAnyU_all (rs := [12]) (by kernel_rfl) (by decide) ?_
            intro w3 h3 i hi
            simp only [List.mem_cons, List.not_mem_nil, or_false] at hi
            subst hi
            refine wpOp_plain rfl rfl ?_
            go_simp
            refine ⟨bel_alloc h3 _, ?_⟩
            refine wpAnyU_all (rs := [13]) (by kernel_rfl) (by decide) ?_
            intro w4 h4 i hi
            simp only [List.mem_cons, List.not_mem_nil, or_false] at hi
            subst hi
            have z4 : ShAt w4 w3.heap.size zeroSh := (ShAt.zero w3).after h4
            have r4 : Gr w2.drew w4 := Gr.trans (bel_alloc h3 _) h4
            have k3 : w2.heap.size ≤ w3.heap.size := h3.size
            clear h4 h3
            obtain ⟨d0, d1, d2, d3, d4, d5, d6, d7⟩ := z4.cells
            obtain ⟨g0, g1, g2, g3, g4, g5, g6, g7⟩ := z4.frozens
            refine wpOp_plain rfl rfl ?_
            go_simp
            have r5 := bel_putSh r4 k3 ⟨false, true, orS a.h b.h, false, ⟨#[]⟩⟩
            refine ⟨r5, ?_⟩
            refine wpAnyU_done (by kernel_rfl) ?_
            intro w6 h6
            have x6 : ShAt w6 w3.heap.size ⟨false, true, orS a.h b.h, false, ⟨#[]⟩⟩ := (z4.put _).after h6
            have r7 : Gr w2.drew w6 := Gr.trans r5 h6
            clear h6 r5 r4 z4 d0 d1 d2 d3 d4 d5 d6 d7 g0 g1 g2 g3 g4 g5 g6 g7
            go_wp2
            go_meet
            case rel => exact ⟨w3.heap.size, rfl, x6, k3, r7.undrew⟩
        · have he2 : b.e = je := by rw [← he, hae]; rfl
          have HE := Lib.hid hae
          clear hae
          subst he2
          clear he
          refine region_head 12 ?A2 (by kernel_rfl) (by kernel_rfl) (by kernel_rfl) (by decide) (by kernel_rfl) ?hQ ?head ?tail
          case hQ =>
            intro c a d v w1 h
            cases d <;> exact h
          case head =>
            intro x
            simp only [List.take_succ_cons, List.take_zero]
            obtain ⟨A0, A1, A2, A3, A4, A5, A6, A7⟩ := (ShAt.after hA2.drew x.below).laters
            obtain ⟨B0, B1, B2, B3, B4, B5, B6, B7⟩ := (ShAt.after hB2.drew x.below).laters
            have E1 := fun y => (A1 y).trans (by rw [HE.out])
            clear A1
            repeat (go_big_quiet_step (fail))
            go_big_quiet_step (exact later (HO.out _))
            repeat (go_big_quiet_step (fail))
            refine wpQuiet_nil ?_
            rfl
          case tail =>
            change wpAnyU _ _ _ _ _ (1 + 1) _ _ _
            refine wpAnyU_all (rs := [12]) (by kernel_rfl) (by decide) ?_
            intro w3 h3 i hi
            simp only [List.mem_cons, List.not_mem_nil, or_false] at hi
            subst hi
            refine wpOp_plain rfl rfl ?_
            go_simp
            refine ⟨bel_alloc h3 _, ?_⟩
            refine wpAnyU_all (rs := [13]) (by kernel_rfl) (by decide) ?_
            intro w4 h4 i hi
            simp only [List.mem_cons, List.not_mem_nil, or_false] at hi
            subst hi
            have z4 : ShAt w4 w3.heap.size zeroSh := (ShAt.zero w3).after h4
            have r4 : Gr w2.drew w4 := Gr.trans (bel_alloc h3 _) h4
            have k3 : w2.heap.size ≤ w3.heap.size := h3.size
            clear h4 h3
            obtain ⟨d0, d1, d2, d3, d4, d5, d6, d7⟩ := z4.cells
            obtain ⟨g0, g1, g2, g3, g4, g5, g6, g7⟩ := z4.frozens
            refine wpOp_plain rfl rfl ?_
            go_simp
            have r5 := bel_putSh r4 k3 ⟨false, b.e, orS a.h b.h, false, ⟨#[]⟩⟩
            refine ⟨r5, ?_⟩
            refine wpAnyU_done (by kernel_rfl) ?_
            intro w6 h6
            have x6 : ShAt w6 w3.heap.size ⟨false, b.e, orS a.h b.h, false, ⟨#[]⟩⟩ := (z4.put _).after h6
            have r7 : Gr w2.drew w6 := Gr.trans r5 h6
            clear h6 r5 r4 z4 d0 d1 d2 d3 d4 d5 d6 d7 g0 g1 g2 g3 g4 g5 g6 g7
            go_wp2
            go_meet
            case rel => exact ⟨w3.heap.size, rfl, x6, k3, r7.undrew⟩
      case rest =>
        obtain ⟨X, rfl, hX, hXs, hbx⟩ := hcut
        have hA3 := hA2.after hbx
        have hB3 := hB2.after hbx
        have hZ3 := hZ2.after hbx
        have hb3 := bel_step hbw hbx
        have hn1 : w.heap.size ≠ X := by omega
        have hn2 : w.heap.size + 1 ≠ X := by omega
        have hn3 : w.heap.size + 1 + 1 ≠ X := by omega
        clear hA2 hB2 hZ2 hbw hbx
        obtain ⟨a0, a1, a2, a3, a4, a5, a6, a7⟩ := hA3.cells
        obtain ⟨b0, b1, b2, b3, b4, b5, b6, b7⟩ := hB3.cells
        obtain ⟨x0, x1, x2, x3, x4, x5, x6, x7⟩ := hX.cells
        obtain ⟨y0, y1, y2, y3, y4, y5, y6, y7⟩ := hX.frozens
        obtain ⟨d0, d1, d2, d3, d4, d5, d6, d7⟩ := hZ3.cells
        obtain ⟨g0, g1, g2, g3, g4, g5, g6, g7⟩ := hZ3.frozens
        clear a0 a1 a2 a3 a4 a5 b0 b1 b2 b3 b4 b5
        cases hak : a.k with
        | false =>
          rw [hak] at a6
          have hj : j = ⟨false, je, orS a.h b.h, false, ⟨#[]⟩⟩ := HJ.out.trans (by rw [hak]; rfl)
          subst hj
          go_wp2
          refine bodyPost_ret (v := shV ⟨false, je, orS a.h b.h, false, ⟨#[]⟩⟩) ?_ rfl ⟨rfl, bel_putSh hb3 (by omega) ⟨false, je, orS a.h b.h, false, ⟨#[]⟩⟩⟩
          exact results_cell_row rfl _ _ _ _ _ _ _ rfl (hZ3.put ⟨false, je, orS a.h b.h, false, ⟨#[]⟩⟩) Try.underlying26 rfl (by kernel_rfl)
        | true =>
          rw [hak] at a6
          cases hbk : b.k with
          | false =>
            rw [hbk] at b6
            have hj : j = ⟨false, je, orS a.h b.h, false, ⟨#[]⟩⟩ := HJ.out.trans (by rw [hak, hbk]; rfl)
            subst hj
            go_wp2
            refine bodyPost_ret (v := shV ⟨false, je, orS a.h b.h, false, ⟨#[]⟩⟩) ?_ rfl ⟨rfl, bel_putSh hb3 (by omega) ⟨false, je, orS a.h b.h, false, ⟨#[]⟩⟩⟩
            exact results_cell_row rfl _ _ _ _ _ _ _ rfl (hZ3.put ⟨false, je, orS a.h b.h, false, ⟨#[]⟩⟩) Try.underlying26 rfl (by kernel_rfl)
          | true =>
            rw [hbk] at b6
            cases hq : eqB a.l b.l with
            | false =>
              have hj : j = ⟨false, je, orS a.h b.h, false, ⟨#[]⟩⟩ := HJ.out.trans (by rw [hak, hbk, hq]; rfl)
              unfold eqB at hq
              subst hj
              go_wp2
              refine bodyPost_ret (v := shV ⟨false, je, orS a.h b.h, false, ⟨#[]⟩⟩) ?_ rfl ⟨rfl, bel_putSh hb3 (by omega) ⟨false, je, orS a.h b.h, false, ⟨#[]⟩⟩⟩
              exact results_cell_row rfl _ _ _ _ _ _ _ rfl (hZ3.put ⟨false, je, orS a.h b.h, false, ⟨#[]⟩⟩) Try.underlying26 rfl (by kernel_rfl)
            | true =>
              have hj : j = ⟨false, je, orS a.h b.h, true, a.l⟩ := HJ.out.trans (by rw [hak, hbk, hq]; rfl)
              unfold eqB at hq
              subst hj
              go_wp2
              go_region
              go_wp2
              have hW := (hZ3.far (a := ⟨X, 6, none⟩) hn3 (.bool true)).far (a := ⟨X, 7, none⟩) hn3 (.string a.l)
              refine bodyPost_ret (v := shV ⟨false, je, orS a.h b.h, true, a.l⟩) ?_ rfl ⟨rfl, bel_drew (bel_putSh (bel_set (bel_set hb3 _ (by simp; omega) _) _ (by simp; omega) _) (by omega) ⟨false, je, orS a.h b.h, true, a.l⟩)⟩
              exact results_cell_row rfl _ _ _ _ _ _ _ rfl (hW.put ⟨false, je, orS a.h b.h, true, a.l⟩).drew Try.underlying26 rfl (by kernel_rfl)

set_option maxHeartbeats 2000000 in
set_option maxRecDepth 100000 in
theorem Join_is (a b : Sh) (w : World) : Calls Try.prog 34 #[shV a, shV b] w (Gives w (shV (joinP a b))) := by
  have hCa := None_is a
  have hCb := None_is b
  obtain ⟨wA, hwA, hbA, hA, hB, hZ⟩ := lay_three w a b
  cases hca : noneB a with
  | true =>
    rw [show joinP a b = b by unfold joinP; rw [hca]; rfl]
    rw [hca] at hCa
    have HA := Lib.hid hCa
    clear hCa hCb
    simp only [shV] at HA ⊢
    go_enter Try.func34, Try.ntmps34
    obtain ⟨c0, c1, c2, c3, c4, c5, c6, c7⟩ := hA.cells
    go_wp2_with fail
    clear hwA c0 c1 c2 c3 c4 c5 c6 c7
    refine (HA.out _).mono ?_
    rintro e w1 ⟨rfl, hb1⟩
    have hB1 := hB.after hb1
    have hZ1 := hZ.after hb1
    obtain ⟨c0, c1, c2, c3, c4, c5, c6, c7⟩ := hB1.cells
    obtain ⟨d0, d1, d2, d3, d4, d5, d6, d7⟩ := hZ1.cells
    obtain ⟨g0, g1, g2, g3, g4, g5, g6, g7⟩ := hZ1.frozens
    go_wp2
    refine bodyPost_ret (v := shV b) ?_ rfl ⟨rfl, bel_putSh (bel_step hbA hb1) (by omega) b⟩
    exact results_cell_row rfl _ _ _ _ _ _ _ rfl (hZ1.put b) Try.underlying26 rfl (by kernel_rfl)
  | false =>
    rw [hca] at hCa
    cases hcb : noneB b with
    | true =>
      rw [show joinP a b = a by unfold joinP; rw [hca, hcb]; rfl]
      rw [hcb] at hCb
      have HA := Lib.hid hCa
      have HB := Lib.hid hCb
      clear hCa hCb
      simp only [shV] at HA HB ⊢
      go_enter Try.func34, Try.ntmps34
      obtain ⟨c0, c1, c2, c3, c4, c5, c6, c7⟩ := hA.cells
      go_wp2_with fail
      clear hwA c0 c1 c2 c3 c4 c5 c6 c7
      refine (HA.out _).mono ?_
      rintro e w1 ⟨rfl, hb1⟩
      have hA1 := hA.after hb1
      have hB1 := hB.after hb1
      have hZ1 := hZ.after hb1
      obtain ⟨c0, c1, c2, c3, c4, c5, c6, c7⟩ := hB1.cells
      go_wp2_with fail
      clear c0 c1 c2 c3 c4 c5 c6 c7
      refine (HB.out _).mono ?_
      rintro e w2 ⟨rfl, hb2⟩
      have hA2 := hA1.after hb2
      have hZ2 := hZ1.after hb2
      obtain ⟨c0, c1, c2, c3, c4, c5, c6, c7⟩ := hA2.cells
      obtain ⟨d0, d1, d2, d3, d4, d5, d6, d7⟩ := hZ2.cells
      obtain ⟨g0, g1, g2, g3, g4, g5, g6, g7⟩ := hZ2.frozens
      go_wp2
      refine bodyPost_ret (v := shV a) ?_ rfl ⟨rfl, bel_putSh (bel_step (bel_step hbA hb1) hb2) (by omega) a⟩
      exact results_cell_row rfl _ _ _ _ _ _ _ rfl (hZ2.put a) Try.underlying26 rfl (by kernel_rfl)
    | false =>
      rw [hcb] at hCb
      have HA := Lib.hid hCa
      have HB := Lib.hid hCb
      have HS := Lib.hid (joinSet_is a b)
      have HJ : Hid (joinP a b = { joinSetP a b with u := a.u || b.u }) := Lib.hid (by unfold joinP; rw [hca, hcb]; rfl)
      clear hCa hCb hca hcb
      obtain ⟨j, hj⟩ : ∃ j, joinSetP a b = j := ⟨_, rfl⟩
      rw [hj] at HJ HS
      rw [HJ.out]
      clear hj HJ
      simp only [shV] at HA HB HS ⊢
      go_enter Try.func34, Try.ntmps34
      obtain ⟨c0, c1, c2, c3, c4, c5, c6, c7⟩ := hA.cells
      go_wp2_with fail
      clear hwA c0 c1 c2 c3 c4 c5 c6 c7
      refine (HA.out _).mono ?_
      rintro e w1 ⟨rfl, hb1⟩
      have hA1 := hA.after hb1
      have hB1 := hB.after hb1
      have hZ1 := hZ.after hb1
      obtain ⟨c0, c1, c2, c3, c4, c5, c6, c7⟩ := hB1.cells
      go_wp2_with fail
      clear c0 c1 c2 c3 c4 c5 c6 c7
      refine (HB.out _).mono ?_
      rintro e w2 ⟨rfl, hb2⟩
      have hA2 := hA1.after hb2
      have hB2 := hB1.after hb2
      have hZ2 := hZ1.after hb2
      obtain ⟨c0, c1, c2, c3, c4, c5, c6, c7⟩ := hA2.cells
      obtain ⟨d0, d1, d2, d3, d4, d5, d6, d7⟩ := hB2.cells
      go_wp2_with fail
      clear c0 c1 c2 c3 c4 c5 c6 c7 d0 d1 d2 d3 d4 d5 d6 d7
      refine (HS.out _).mono ?_
      rintro e w3 ⟨rfl, hb3⟩
      have hA3 := hA2.after hb3
      have hB3 := hB2.after hb3
      have hZ3 := hZ2.after hb3
      have hbw := bel_step (bel_step (bel_step hbA hb1) hb2) hb3
      have la := hA3.lt
      have lb := hB3.lt
      have lz := hZ3.lt
      clear hA1 hB1 hZ1 hb1 hb2 hb3 hA hB hZ hbA HA HB HS hA2 hB2 hZ2
      obtain ⟨c0, _⟩ := hA3.cells
      obtain ⟨b0, _⟩ := hB3.cells
      obtain ⟨d0, d1, d2, d3, d4, d5, d6, d7⟩ := hZ3.cells
      obtain ⟨g0, g1, g2, g3, g4, g5, g6, g7⟩ := hZ3.frozens
      cases hau : a.u with
      | true =>
        rw [hau] at c0
        go_wp2
        refine bodyPost_ret (v := shV ⟨true, j.e, j.h, j.k, j.l⟩) ?_ rfl ⟨by rw [hau]; rfl, bel_alloc (bel_putSh hbw (by omega) ⟨true, j.e, j.h, j.k, j.l⟩) _⟩
        exact results_cell_row rfl _ _ _ _ _ _ _ rfl ((hZ3.put ⟨true, j.e, j.h, j.k, j.l⟩).alloc _) Try.underlying26 rfl (by kernel_rfl)
      | false =>
        rw [hau] at c0
        go_wp2
        refine bodyPost_ret (v := shV ⟨b.u, j.e, j.h, j.k, j.l⟩) ?_ rfl ⟨by rw [hau]; rfl, bel_alloc (bel_putSh hbw (by omega) ⟨b.u, j.e, j.h, j.k, j.l⟩) _⟩
        exact results_cell_row rfl _ _ _ _ _ _ _ rfl ((hZ3.put ⟨b.u, j.e, j.h, j.k, j.l⟩).alloc _) Try.underlying26 rfl (by kernel_rfl)
end Go.Proofs.Ytjdhidiocchkeaa
