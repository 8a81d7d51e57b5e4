/-
  The contract of the document's answer on joins (conchref1.Join), over the translation.
-/
import Derived.Test.YtjdhidiocchkeaaRefShapeTwo
namespace Go.Proofs.Ytjdhidiocchkeaa
open Go.RowKit

set_option maxHeartbeats 4000000 in
set_option maxRecDepth 100000 in
theorem refJoin_is (a b : Sh) (w : World) : Calls Try.prog 60 #[shV a, shV b] w (Gives w (shV (joinR a b))) := by
  have hCa := refNone_is a
  have hCb := refNone_is b
  obtain ⟨wA, hwA, hbA, hA, hB, hZ⟩ := lay_three w a b
  cases hca : noneB a with
  | true =>
    rw [show joinR a b = b by unfold joinR; rw [hca]; rfl]
    rw [hca] at hCa
    have HA := Lib.hid hCa
    clear hCa hCb
    simp only [shV] at HA ⊢
    go_enter Try.func60, Try.ntmps60
    obtain ⟨c0, c1, c2, c3, c4, c5, c6, c7⟩ := hA.cells
    go_wp2_with fail
    clear hwA c0 c1 c2 c3 c4 c5 c6 c7
    refine (HA.out _).mono ?_
    rintro e w1 ⟨rfl, hb1⟩
    have hB1 := hB.after hb1
    have hZ1 := hZ.after hb1
    obtain ⟨c0, c1, c2, c3, c4, c5, c6, c7⟩ := hB1.cells
    obtain ⟨d0, d1, d2, d3, d4, d5, d6, d7⟩ := hZ1.cells
    obtain ⟨g0, g1, g2, g3, g4, g5, g6, g7⟩ := hZ1.frozens
    go_wp2
    refine bodyPost_ret (v := shV b) ?_ rfl ⟨rfl, bel_putSh (bel_step hbA hb1) (by omega) b⟩
    exact results_cell_row rfl _ _ _ _ _ _ _ rfl (hZ1.put b) Try.underlying26 rfl (by kernel_rfl)
  | false =>
    rw [hca] at hCa
    cases hcb : noneB b with
    | true =>
      rw [show joinR a b = a by unfold joinR; rw [hca, hcb]; rfl]
      rw [hcb] at hCb
      have HA := Lib.hid hCa
      have HB := Lib.hid hCb
      clear hCa hCb
      simp only [shV] at HA HB ⊢
      go_enter Try.func60, Try.ntmps60
      obtain ⟨c0, c1, c2, c3, c4, c5, c6, c7⟩ := hA.cells
      go_wp2_with fail
      clear hwA c0 c1 c2 c3 c4 c5 c6 c7
      refine (HA.out _).mono ?_
      rintro e w1 ⟨rfl, hb1⟩
      have hA1 := hA.after hb1
      have hB1 := hB.after hb1
      have hZ1 := hZ.after hb1
      obtain ⟨c0, c1, c2, c3, c4, c5, c6, c7⟩ := hB1.cells
      go_wp2_with fail
      clear c0 c1 c2 c3 c4 c5 c6 c7
      refine (HB.out _).mono ?_
      rintro e w2 ⟨rfl, hb2⟩
      have hA2 := hA1.after hb2
      have hZ2 := hZ1.after hb2
      obtain ⟨c0, c1, c2, c3, c4, c5, c6, c7⟩ := hA2.cells
      obtain ⟨d0, d1, d2, d3, d4, d5, d6, d7⟩ := hZ2.cells
      obtain ⟨g0, g1, g2, g3, g4, g5, g6, g7⟩ := hZ2.frozens
      go_wp2
      refine bodyPost_ret (v := shV a) ?_ rfl ⟨rfl, bel_putSh (bel_step (bel_step hbA hb1) hb2) (by omega) a⟩
      exact results_cell_row rfl _ _ _ _ _ _ _ rfl (hZ2.put a) Try.underlying26 rfl (by kernel_rfl)
    | false =>
      rw [hcb] at hCb
      have HA := Lib.hid hCa
      have HB := Lib.hid hCb
      have HO := Lib.hid (refOr_is a.h b.h)
      have hDa := refCould_is a
      have hDb := refCould_is b
      have HJ : Hid (joinR a b = { (if couldB a then (if couldB b then (if (if a.k then (if b.k then eqB a.l b.l else false) else false) then a else ⟨false, a.e || b.e, orS a.h b.h, false, ⟨#[]⟩⟩) else a) else b) with u := a.u || b.u }) := Lib.hid (by unfold joinR; rw [hca, hcb]; rfl)
      clear hCa hCb hca hcb
      obtain ⟨j, hj⟩ : ∃ j, joinR a b = j := ⟨_, rfl⟩
      rw [hj] at HJ ⊢
      clear hj
      obtain ⟨je, he⟩ : ∃ je, (a.e || b.e) = je := ⟨_, rfl⟩
      rw [he] at HJ
      simp only [shV, setV] at HA HB HO hDa hDb ⊢
      go_enter Try.func60, Try.ntmps60
      obtain ⟨c0, c1, c2, c3, c4, c5, c6, c7⟩ := hA.cells
      go_wp2_with fail
      clear hwA c0 c1 c2 c3 c4 c5 c6 c7
      refine (HA.out _).mono ?_
      rintro e w1 ⟨rfl, hb1⟩
      have hA1 := hA.after hb1
      have hB1 := hB.after hb1
      have hZ1 := hZ.after hb1
      obtain ⟨c0, c1, c2, c3, c4, c5, c6, c7⟩ := hB1.cells
      go_wp2_with fail
      clear c0 c1 c2 c3 c4 c5 c6 c7
      refine (HB.out _).mono ?_
      rintro e w2 ⟨rfl, hb2⟩
      have hA2 := hA1.after hb2
      have hB2 := hB1.after hb2
      have hZ2 := hZ1.after hb2
      have hbw := bel_step (bel_step hbA hb1) hb2
      have hlt := hZ2.lt
      clear hA1 hB1 hZ1 hb1 hb2 hA hB hZ hbA HA HB
      go_wp2
      go_cut [5] from 14 (fun p wx => ∃ X : Nat, p = .pointer (some ⟨X, 0, none⟩) ∧ ShAt wx X ⟨false, je, orS a.h b.h, false, ⟨#[]⟩⟩ ∧ w2.heap.size ≤ X ∧ Below w2.heap.size w2 wx)
      case first =>
        rcases Bool.eq_false_or_eq_true a.e with hae | hae
        · have he2 : true = je := by rw [← he, hae]; rfl
          have HE := Lib.hid hae
          clear hae
          subst he2
          clear he
          refine region_head 12 ?A1 (by kernel_rfl) (by kernel_rfl) (by kernel_rfl) (by decide) (by kernel_rfl) ?hQ ?head ?tail
          case hQ =>
            intro c a d v w1 h
            cases d <;> exact h
          case head =>
            intro x
            simp only [List.take_succ_cons, List.take_zero]
            obtain ⟨A0, A1, A2, A3, A4, A5, A6, A7⟩ := (ShAt.after hA2.drew x.below).laters
            obtain ⟨B0, B1, B2, B3, B4, B5, B6, B7⟩ := (ShAt.after hB2.drew x.below).laters
            have E1 := fun y => (A1 y).trans (by rw [HE.out])
            clear A1
            repeat (go_big_quiet_step (fail))
            go_big_quiet_step (exact later (HO.out _))
            repeat (go_big_quiet_step (fail))
            refine wpQuiet_nil ?_
            rfl
          case tail =>
            change wpAnyU _ _ _ _ _ (1 + 1) _ _ _
            refine wpAnyU_all (rs := [12]) (by kernel_rfl) (by decide) ?_
            intro w3 h3 i hi
            simp only [List.mem_cons, List.not_mem_nil, or_false] at hi
            subst hi
            refine wpOp_plain rfl rfl ?_
            go_simp
            refine ⟨bel_alloc h3 _, ?_⟩
            refine wpAnyU_all (rs := [13]) (by kernel_rfl) (by decide) ?_
            intro w4 h4 i hi
            simp only [List.mem_cons, List.not_mem_nil, or_false] at hi
            subst hi
            have z4 : ShAt w4 w3.heap.size zeroSh := (ShAt.zero w3).after h4
            have r4 : Gr w2.drew w4 := Gr.trans (bel_alloc h3 _) h4
            have k3 : w2.heap.size ≤ w3.heap.size := h3.size
            clear h4 h3
            obtain ⟨d0, d1, d2, d3, d4, d5, d6, d7⟩ := z4.cells
            obtain ⟨g0, g1, g2, g3, g4, g5, g6, g7⟩ := z4.frozens
            refine wpOp_plain rfl rfl ?_
            go_simp
            have r5 := bel_putSh r4 k3 ⟨false, true, orS a.h b.h, false, ⟨#[]⟩⟩
            refine ⟨r5, ?_⟩
            refine wpAnyU_done (by kernel_rfl) ?_
            intro w6 h6
            have x6 : ShAt w6 w3.heap.size ⟨false, true, orS a.h b.h, false, ⟨#[]⟩⟩ := (z4.put _).after h6
            have r7 : Gr w2.drew w6 := Gr.trans r5 h6
            clear h6 r5 r4 z4 d0 d1 d2 d3 d4 d5 d6 d7 g0 g1 g2 g3 g4 g5 g6 g7
            go_wp2
            go_meet
            case rel => exact ⟨w3.heap.size, rfl, x6, k3, r7.undrew⟩
        · have he2 : b.e = je := by rw [← he, hae]; rfl
          have HE := Lib.hid hae
          clear hae
          subst he2
          clear he
          refine region_head 12 ?A2 (by kernel_rfl) (by kernel_rfl) (by kernel_rfl) (by decide) (by kernel_rfl) ?hQ ?head ?tail
          case hQ =>
            intro c a d v w1 h
            cases d <;> exact h
          case head =>
            intro x
            simp only [List.take_succ_cons, List.take_zero]
            obtain ⟨A0, A1, A2, A3, A4, A5, A6, A7⟩ := (ShAt.after hA2.drew x.below).laters
            obtain ⟨B0, B1, B2, B3, B4, B5, B6, B7⟩ := (ShAt.after hB2.drew x.below).laters
            have E1 := fun y => (A1 y).trans (by rw [HE.out])
            clear A1
            repeat (go_big_quiet_step (fail))
            go_big_quiet_step (exact later (HO.out _))
            repeat (go_big_quiet_step (fail))
            refine wpQuiet_nil ?_
            rfl
          case tail =>
            change wpAnyU _ _ _ _ _ (1 + 1) _ _ _
            refine wpAnyU_all (rs := [12]) (by kernel_rfl) (by decide) ?_
            intro w3 h3 i hi
            simp only [List.mem_cons, List.not_mem_nil, or_false] at hi
            subst hi
            refine wpOp_plain rfl rfl ?_
            go_simp
            refine ⟨bel_alloc h3 _, ?_⟩
            refine wpAnyU_all (rs := [13]) (by kernel_rfl) (by decide) ?_
            intro w4 h4 i hi
            simp only [List.mem_cons, List.not_mem_nil, or_false] at hi
            subst hi
            have z4 : ShAt w4 w3.heap.size zeroSh := (ShAt.zero w3).after h4
            have r4 : Gr w2.drew w4 := Gr.trans (bel_alloc h3 _) h4
            have k3 : w2.heap.size ≤ w3.heap.size := h3.size
            clear h4 h3
            obtain ⟨d0, d1, d2, d3, d4, d5, d6, d7⟩ := z4.cells
            obtain ⟨g0, g1, g2, g3, g4, g5, g6, g7⟩ := z4.frozens
            refine wpOp_plain rfl rfl ?_
            go_simp
            have r5 := bel_putSh r4 k3 ⟨false, b.e, orS a.h b.h, false, ⟨#[]⟩⟩
            refine ⟨r5, ?_⟩
            refine wpAnyU_done (by kernel_rfl) ?_
            intro w6 h6
            have x6 : ShAt w6 w3.heap.size ⟨false, b.e, orS a.h b.h, false, ⟨#[]⟩⟩ := (z4.put _).after h6
            have r7 : Gr w2.drew w6 := Gr.trans r5 h6
            clear h6 r5 r4 z4 d0 d1 d2 d3 d4 d5 d6 d7 g0 g1 g2 g3 g4 g5 g6 g7
            go_wp2
            go_meet
            case rel => exact ⟨w3.heap.size, rfl, x6, k3, r7.undrew⟩
      case rest =>
        obtain ⟨X, rfl, hX, hXs, hbx⟩ := hcut
        have hA3 := hA2.after hbx
        have hB3 := hB2.after hbx
        have hZ3 := hZ2.after hbx
        have hb3 := bel_step hbw hbx
        have hn1 : w.heap.size ≠ X := by omega
        have hn2 : w.heap.size + 1 ≠ X := by omega
        have hn3 : w.heap.size + 1 + 1 ≠ X := by omega
        clear hA2 hB2 hZ2 hbw hbx HO he
        rcases Bool.eq_false_or_eq_true (couldB a) with hca | hca
        · rw [hca] at hDa
          have HDa := Lib.hid hDa
          clear hDa
          obtain ⟨c0, c1, c2, c3, c4, c5, c6, c7⟩ := hA3.cells
          go_wp2_with fail
          clear c0 c1 c2 c3 c4 c5 c6 c7
          refine (HDa.out _).mono ?_
          rintro e w14 ⟨rfl, hb14⟩
          have hA4 := hA3.after hb14
          have hB4 := hB3.after hb14
          have hZ4 := hZ3.after hb14
          have hX4 := hX.after hb14
          have hb4 := bel_step hb3 hb14
          clear hA3 hB3 hZ3 hX hb14 hb3
          rcases Bool.eq_false_or_eq_true (couldB b) with hcb | hcb
          · rw [hcb] at hDb
            have HDb := Lib.hid hDb
            clear hDb
            obtain ⟨c0, c1, c2, c3, c4, c5, c6, c7⟩ := hB4.cells
            go_wp2_with fail
            clear c0 c1 c2 c3 c4 c5 c6 c7
            refine (HDb.out _).mono ?_
            rintro e w15 ⟨rfl, hb15⟩
            have hA5 := hA4.after hb15
            have hB5 := hB4.after hb15
            have hZ5 := hZ4.after hb15
            have hX5 := hX4.after hb15
            have hb5 := bel_step hb4 hb15
            clear hA4 hB4 hZ4 hX4 hb15 hb4
            obtain ⟨a0, a1, a2, a3, a4, a5, a6, a7⟩ := hA5.cells
            obtain ⟨b0, b1, b2, b3, b4, b5, b6, b7⟩ := hB5.cells
            obtain ⟨x0, x1, x2, x3, x4, x5, x6, x7⟩ := hX5.cells
            obtain ⟨y0, y1, y2, y3, y4, y5, y6, y7⟩ := hX5.frozens
            obtain ⟨d0, d1, d2, d3, d4, d5, d6, d7⟩ := hZ5.cells
            obtain ⟨g0, g1, g2, g3, g4, g5, g6, g7⟩ := hZ5.frozens
            rcases Bool.eq_false_or_eq_true a.k with hak | hak
            · rcases Bool.eq_false_or_eq_true b.k with hbk | hbk
              · rcases Bool.eq_false_or_eq_true (eqB a.l b.l) with hq | hq
                · have hq2 : (a.l.toList == b.l.toList) = true := hq
                  have a6' := a6.trans (by rw [hak])
                  clear a6
                  have b6' := b6.trans (by rw [hbk])
                  clear b6
                  have hsm : (if a.k then (if b.k then eqB a.l b.l else false) else false) = true := (by (rw [hak, hbk, hq]) <;> rfl)
                  have hj : j = ⟨a.u || b.u, a.e, a.h, a.k, a.l⟩ := HJ.out.trans (by (rw [hca, hcb, hsm]) <;> rfl)
                  clear hsm
                  have HCA := Lib.hid hca
                  have HCB := Lib.hid hcb
                  have HAK := Lib.hid hak
                  have HBK := Lib.hid hbk
                  have HQ := Lib.hid hq
                  clear hca hcb hak hbk hq
                  subst hj
                  clear HJ
                  rcases Bool.eq_false_or_eq_true a.u with hau | hau
                  · have HAU := Lib.hid hau
                    rw [hau] at a0
                    clear hau
                    go_wp2
                    refine bodyPost_ret (v := shV ⟨true, a.e, a.h, true, a.l⟩) ?_ rfl ⟨by rw [HAU.out, HAK.out]; rfl, bel_putSh (bel_set (bel_putSh hb5 (by omega) ⟨true, a.e, a.h, true, a.l⟩) ⟨X, 0, none⟩ (by simp; omega) (.bool true)) (by omega) ⟨true, a.e, a.h, true, a.l⟩⟩
                    exact results_cell_row rfl _ _ _ _ _ _ _ rfl (((hZ5.putFar hn3 ⟨true, a.e, a.h, true, a.l⟩).far (a := ⟨X, 0, none⟩) hn3 (.bool true)).put ⟨true, a.e, a.h, true, a.l⟩) Try.underlying26 rfl (by kernel_rfl)
                  · have HAU := Lib.hid hau
                    rw [hau] at a0
                    clear hau
                    go_wp2
                    refine bodyPost_ret (v := shV ⟨b.u, a.e, a.h, true, a.l⟩) ?_ rfl ⟨by rw [HAU.out, HAK.out]; rfl, bel_putSh (bel_set (bel_putSh hb5 (by omega) ⟨false, a.e, a.h, true, a.l⟩) ⟨X, 0, none⟩ (by simp; omega) (.bool b.u)) (by omega) ⟨b.u, a.e, a.h, true, a.l⟩⟩
                    exact results_cell_row rfl _ _ _ _ _ _ _ rfl (((hZ5.putFar hn3 ⟨false, a.e, a.h, true, a.l⟩).far (a := ⟨X, 0, none⟩) hn3 (.bool b.u)).put ⟨b.u, a.e, a.h, true, a.l⟩) Try.underlying26 rfl (by kernel_rfl)
                · have hq2 : (a.l.toList == b.l.toList) = false := hq
                  have a6' := a6.trans (by rw [hak])
                  clear a6
                  have b6' := b6.trans (by rw [hbk])
                  clear b6
                  have hj : j = ⟨a.u || b.u, je, orS a.h b.h, false, ⟨#[]⟩⟩ := HJ.out.trans (by (rw [hca, hcb, hak, hbk, hq]) <;> rfl)
                  have HCA := Lib.hid hca
                  have HCB := Lib.hid hcb
                  have HAK := Lib.hid hak
                  have HBK := Lib.hid hbk
                  have HQ := Lib.hid hq
                  clear hca hcb hak hbk hq
                  subst hj
                  clear HJ
                  rcases Bool.eq_false_or_eq_true a.u with hau | hau
                  · have HAU := Lib.hid hau
                    rw [hau] at a0
                    clear hau
                    go_wp2
                    refine bodyPost_ret (v := shV ⟨true, je, orS a.h b.h, false, ⟨#[]⟩⟩) ?_ rfl ⟨by rw [HAU.out]; rfl, bel_putSh (bel_set hb5 ⟨X, 0, none⟩ (by simp; omega) (.bool true)) (by omega) ⟨true, je, orS a.h b.h, false, ⟨#[]⟩⟩⟩
                    exact results_cell_row rfl _ _ _ _ _ _ _ rfl ((hZ5.far (a := ⟨X, 0, none⟩) hn3 (.bool true)).put ⟨true, je, orS a.h b.h, false, ⟨#[]⟩⟩) Try.underlying26 rfl (by kernel_rfl)
                  · have HAU := Lib.hid hau
                    rw [hau] at a0
                    clear hau
                    go_wp2
                    refine bodyPost_ret (v := shV ⟨b.u, je, orS a.h b.h, false, ⟨#[]⟩⟩) ?_ rfl ⟨by rw [HAU.out]; rfl, bel_putSh (bel_set hb5 ⟨X, 0, none⟩ (by simp; omega) (.bool b.u)) (by omega) ⟨b.u, je, orS a.h b.h, false, ⟨#[]⟩⟩⟩
                    exact results_cell_row rfl _ _ _ _ _ _ _ rfl ((hZ5.far (a := ⟨X, 0, none⟩) hn3 (.bool b.u)).put ⟨b.u, je, orS a.h b.h, false, ⟨#[]⟩⟩) Try.underlying26 rfl (by kernel_rfl)
              · have a6' := a6.trans (by rw [hak])
                clear a6
                have b6' := b6.trans (by rw [hbk])
                clear b6
                have hj : j = ⟨a.u || b.u, je, orS a.h b.h, false, ⟨#[]⟩⟩ := HJ.out.trans (by (rw [hca, hcb, hak, hbk]) <;> rfl)
                have HCA := Lib.hid hca
                have HCB := Lib.hid hcb
                have HAK := Lib.hid hak
                have HBK := Lib.hid hbk
                clear hca hcb hak hbk
                subst hj
                clear HJ
                rcases Bool.eq_false_or_eq_true a.u with hau | hau
                · have HAU := Lib.hid hau
                  rw [hau] at a0
                  clear hau
                  go_wp2
                  refine bodyPost_ret (v := shV ⟨true, je, orS a.h b.h, false, ⟨#[]⟩⟩) ?_ rfl ⟨by rw [HAU.out]; rfl, bel_putSh (bel_set hb5 ⟨X, 0, none⟩ (by simp; omega) (.bool true)) (by omega) ⟨true, je, orS a.h b.h, false, ⟨#[]⟩⟩⟩
                  exact results_cell_row rfl _ _ _ _ _ _ _ rfl ((hZ5.far (a := ⟨X, 0, none⟩) hn3 (.bool true)).put ⟨true, je, orS a.h b.h, false, ⟨#[]⟩⟩) Try.underlying26 rfl (by kernel_rfl)
                · have HAU := Lib.hid hau
                  rw [hau] at a0
                  clear hau
                  go_wp2
                  refine bodyPost_ret (v := shV ⟨b.u, je, orS a.h b.h, false, ⟨#[]⟩⟩) ?_ rfl ⟨by rw [HAU.out]; rfl, bel_putSh (bel_set hb5 ⟨X, 0, none⟩ (by simp; omega) (.bool b.u)) (by omega) ⟨b.u, je, orS a.h b.h, false, ⟨#[]⟩⟩⟩
                  exact results_cell_row rfl _ _ _ _ _ _ _ rfl ((hZ5.far (a := ⟨X, 0, none⟩) hn3 (.bool b.u)).put ⟨b.u, je, orS a.h b.h, false, ⟨#[]⟩⟩) Try.underlying26 rfl (by kernel_rfl)
            · have a6' := a6.trans (by rw [hak])
              clear a6
              have hj : j = ⟨a.u || b.u, je, orS a.h b.h, false, ⟨#[]⟩⟩ := HJ.out.trans (by (rw [hca, hcb, hak]) <;> rfl)
              have HCA := Lib.hid hca
              have HCB := Lib.hid hcb
              have HAK := Lib.hid hak
              clear hca hcb hak
              subst hj
              clear HJ
              rcases Bool.eq_false_or_eq_true a.u with hau | hau
              · have HAU := Lib.hid hau
                rw [hau] at a0
                clear hau
                go_wp2
                refine bodyPost_ret (v := shV ⟨true, je, orS a.h b.h, false, ⟨#[]⟩⟩) ?_ rfl ⟨by rw [HAU.out]; rfl, bel_putSh (bel_set hb5 ⟨X, 0, none⟩ (by simp; omega) (.bool true)) (by omega) ⟨true, je, orS a.h b.h, false, ⟨#[]⟩⟩⟩
                exact results_cell_row rfl _ _ _ _ _ _ _ rfl ((hZ5.far (a := ⟨X, 0, none⟩) hn3 (.bool true)).put ⟨true, je, orS a.h b.h, false, ⟨#[]⟩⟩) Try.underlying26 rfl (by kernel_rfl)
              · have HAU := Lib.hid hau
                rw [hau] at a0
                clear hau
                go_wp2
                refine bodyPost_ret (v := shV ⟨b.u, je, orS a.h b.h, false, ⟨#[]⟩⟩) ?_ rfl ⟨by rw [HAU.out]; rfl, bel_putSh (bel_set hb5 ⟨X, 0, none⟩ (by simp; omega) (.bool b.u)) (by omega) ⟨b.u, je, orS a.h b.h, false, ⟨#[]⟩⟩⟩
                exact results_cell_row rfl _ _ _ _ _ _ _ rfl ((hZ5.far (a := ⟨X, 0, none⟩) hn3 (.bool b.u)).put ⟨b.u, je, orS a.h b.h, false, ⟨#[]⟩⟩) Try.underlying26 rfl (by kernel_rfl)
          · rw [hcb] at hDb
            have HDb := Lib.hid hDb
            clear hDb
            obtain ⟨c0, c1, c2, c3, c4, c5, c6, c7⟩ := hB4.cells
            go_wp2_with fail
            clear c0 c1 c2 c3 c4 c5 c6 c7
            refine (HDb.out _).mono ?_
            rintro e w15 ⟨rfl, hb15⟩
            have hA5 := hA4.after hb15
            have hB5 := hB4.after hb15
            have hZ5 := hZ4.after hb15
            have hX5 := hX4.after hb15
            have hb5 := bel_step hb4 hb15
            clear hA4 hB4 hZ4 hX4 hb15 hb4
            obtain ⟨a0, a1, a2, a3, a4, a5, a6, a7⟩ := hA5.cells
            obtain ⟨b0, b1, b2, b3, b4, b5, b6, b7⟩ := hB5.cells
            obtain ⟨x0, x1, x2, x3, x4, x5, x6, x7⟩ := hX5.cells
            obtain ⟨y0, y1, y2, y3, y4, y5, y6, y7⟩ := hX5.frozens
            obtain ⟨d0, d1, d2, d3, d4, d5, d6, d7⟩ := hZ5.cells
            obtain ⟨g0, g1, g2, g3, g4, g5, g6, g7⟩ := hZ5.frozens
            have hj : j = ⟨a.u || b.u, a.e, a.h, a.k, a.l⟩ := HJ.out.trans (by (rw [hca, hcb]) <;> rfl)
            have HCA := Lib.hid hca
            have HCB := Lib.hid hcb
            clear hca hcb
            subst hj
            clear HJ
            rcases Bool.eq_false_or_eq_true a.u with hau | hau
            · have HAU := Lib.hid hau
              rw [hau] at a0
              clear hau
              go_wp2
              refine bodyPost_ret (v := shV ⟨true, a.e, a.h, a.k, a.l⟩) ?_ rfl ⟨by rw [HAU.out]; rfl, bel_putSh (bel_set (bel_putSh hb5 (by omega) ⟨true, a.e, a.h, a.k, a.l⟩) ⟨X, 0, none⟩ (by simp; omega) (.bool true)) (by omega) ⟨true, a.e, a.h, a.k, a.l⟩⟩
              exact results_cell_row rfl _ _ _ _ _ _ _ rfl (((hZ5.putFar hn3 ⟨true, a.e, a.h, a.k, a.l⟩).far (a := ⟨X, 0, none⟩) hn3 (.bool true)).put ⟨true, a.e, a.h, a.k, a.l⟩) Try.underlying26 rfl (by kernel_rfl)
            · have HAU := Lib.hid hau
              rw [hau] at a0
              clear hau
              go_wp2
              refine bodyPost_ret (v := shV ⟨b.u, a.e, a.h, a.k, a.l⟩) ?_ rfl ⟨by rw [HAU.out]; rfl, bel_putSh (bel_set (bel_putSh hb5 (by omega) ⟨false, a.e, a.h, a.k, a.l⟩) ⟨X, 0, none⟩ (by simp; omega) (.bool b.u)) (by omega) ⟨b.u, a.e, a.h, a.k, a.l⟩⟩
              exact results_cell_row rfl _ _ _ _ _ _ _ rfl (((hZ5.putFar hn3 ⟨false, a.e, a.h, a.k, a.l⟩).far (a := ⟨X, 0, none⟩) hn3 (.bool b.u)).put ⟨b.u, a.e, a.h, a.k, a.l⟩) Try.underlying26 rfl (by kernel_rfl)
        · rw [hca] at hDa
          have HDa := Lib.hid hDa
          clear hDa hDb
          obtain ⟨c0, c1, c2, c3, c4, c5, c6, c7⟩ := hA3.cells
          go_wp2_with fail
          clear c0 c1 c2 c3 c4 c5 c6 c7
          refine (HDa.out _).mono ?_
          rintro e w14 ⟨rfl, hb14⟩
          have hA4 := hA3.after hb14
          have hB4 := hB3.after hb14
          have hZ4 := hZ3.after hb14
          have hX4 := hX.after hb14
          have hb4 := bel_step hb3 hb14
          clear hA3 hB3 hZ3 hX hb14 hb3
          obtain ⟨a0, a1, a2, a3, a4, a5, a6, a7⟩ := hA4.cells
          obtain ⟨b0, b1, b2, b3, b4, b5, b6, b7⟩ := hB4.cells
          obtain ⟨x0, x1, x2, x3, x4, x5, x6, x7⟩ := hX4.cells
          obtain ⟨y0, y1, y2, y3, y4, y5, y6, y7⟩ := hX4.frozens
          obtain ⟨d0, d1, d2, d3, d4, d5, d6, d7⟩ := hZ4.cells
          obtain ⟨g0, g1, g2, g3, g4, g5, g6, g7⟩ := hZ4.frozens
          have hj : j = ⟨a.u || b.u, b.e, b.h, b.k, b.l⟩ := HJ.out.trans (by (rw [hca]) <;> rfl)
          have HCA := Lib.hid hca
          clear hca
          subst hj
          clear HJ
          rcases Bool.eq_false_or_eq_true a.u with hau | hau
          · have HAU := Lib.hid hau
            rw [hau] at a0
            clear hau
            go_wp2
            refine bodyPost_ret (v := shV ⟨true, b.e, b.h, b.k, b.l⟩) ?_ rfl ⟨by rw [HAU.out]; rfl, bel_putSh (bel_set (bel_putSh hb4 (by omega) b) ⟨X, 0, none⟩ (by simp; omega) (.bool true)) (by omega) ⟨true, b.e, b.h, b.k, b.l⟩⟩
            exact results_cell_row rfl _ _ _ _ _ _ _ rfl (((hZ4.putFar hn3 b).far (a := ⟨X, 0, none⟩) hn3 (.bool true)).put ⟨true, b.e, b.h, b.k, b.l⟩) Try.underlying26 rfl (by kernel_rfl)
          · have HAU := Lib.hid hau
            rw [hau] at a0
            clear hau
            go_wp2
            refine bodyPost_ret (v := shV ⟨b.u, b.e, b.h, b.k, b.l⟩) ?_ rfl ⟨by rw [HAU.out]; rfl, bel_putSh (bel_set (bel_putSh hb4 (by omega) b) ⟨X, 0, none⟩ (by simp; omega) (.bool b.u)) (by omega) ⟨b.u, b.e, b.h, b.k, b.l⟩⟩
            exact results_cell_row rfl _ _ _ _ _ _ _ rfl (((hZ4.putFar hn3 b).far (a := ⟨X, 0, none⟩) hn3 (.bool b.u)).put ⟨b.u, b.e, b.h, b.k, b.l⟩) Try.underlying26 rfl (by kernel_rfl)
end Go.Proofs.Ytjdhidiocchkeaa
