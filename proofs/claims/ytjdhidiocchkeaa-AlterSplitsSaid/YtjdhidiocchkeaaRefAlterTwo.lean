/-
  Contracts of the document's answers to layer alter (conchref1: Cat, MaySplit), over the translation. (By wip/tools/gen_refalter.py.)
-/
import Derived.Test.YtjdhidiocchkeaaAlterTwo
import Derived.Test.YtjdhidiocchkeaaRefJoin
namespace Go.Proofs.Ytjdhidiocchkeaa
open Go.RowKit

theorem catR_none1 {a b : Sh} (h : noneB a = true) : catR a b = zeroSh := by unfold catR; rw [h]; rfl
theorem catR_none2 {a b : Sh} (h : noneB a = false) (k : noneB b = true) : catR a b = zeroSh := by unfold catR; rw [h, k]; rfl
theorem catR_lit {a b : Sh} (h : noneB a = false) (k : noneB b = false) (c : kkB a b = true) : catR a b = litSh (a.l ++ b.l) := by unfold catR; rw [h, k, c]; rfl
theorem catR_not {a b : Sh} (h : noneB a = false) (k : noneB b = false) (c : kkB a b = false) : catR a b = ⟨false, if a.e then b.e else false, orS a.h b.h, false, ⟨#[]⟩⟩ := by unfold catR; rw [h, k, c]; rfl

set_option maxHeartbeats 4000000 in
set_option maxRecDepth 100000 in
theorem refCat_is (x y : Sh) (hla : x.l.size ≤ 64) (hlb : y.l.size ≤ 64) (w : World) : Calls Try.prog 21 #[shV x, shV y] w (Gives w (shV (catR x y))) := by
  obtain ⟨wA, hwA, hb3, hA3, hB3, hZ3⟩ := lay_three w x y
  obtain ⟨s, hs0⟩ : ∃ s, catR x y = s := ⟨_, rfl⟩
  rw [hs0]
  have HSS := Lib.hid hs0
  clear hs0
  have hNa := refNone_is x
  have hNb := refNone_is y
  simp only [shV] at hwA hNa hNb ⊢
  go_enter Try.func21, Try.ntmps21
  rcases Bool.eq_false_or_eq_true (noneB x) with hna | hna
  · rw [hna] at hNa
    have HNa := Lib.hid hNa
    clear hNa hNb
    obtain rfl : s = zeroSh := HSS.out.symm.trans (catR_none1 hna)
    clear hna
    obtain ⟨c0, c1, c2, c3, c4, c5, c6, c7⟩ := hA3.cells
    go_wp2_with fail
    clear hwA
    clear c0 c1 c2 c3 c4 c5 c6 c7
    refine (HNa.out _).mono ?_
    rintro ending w4 ⟨rfl, kb4⟩
    have hZ5 := hZ3.after kb4
    have hb5 := bel_step hb3 kb4
    clear hZ3 hb3 kb4
    obtain ⟨d0, d1, d2, d3, d4, d5, d6, d7⟩ := hZ5.cells
    obtain ⟨g0, g1, g2, g3, g4, g5, g6, g7⟩ := hZ5.frozens
    go_wp2
    refine bodyPost_ret (v := shV zeroSh) ?_ rfl ⟨rfl, bel_putZ hb5 (by omega)⟩
    exact results_cell_row rfl _ _ _ _ _ _ _ rfl (hZ5.putZ) Try.underlying26 rfl (by kernel_rfl)
  · rw [hna] at hNa
    have HNa := Lib.hid hNa
    clear hNa
    obtain ⟨c0, c1, c2, c3, c4, c5, c6, c7⟩ := hA3.cells
    go_wp2_with fail
    clear hwA
    clear c0 c1 c2 c3 c4 c5 c6 c7
    refine (HNa.out _).mono ?_
    rintro ending w4 ⟨rfl, kb4⟩
    have hA4 := hA3.after kb4
    have hB4 := hB3.after kb4
    have hZ4 := hZ3.after kb4
    have hb4 := bel_step hb3 kb4
    clear hA3 hB3 hZ3 hb3 kb4
    obtain ⟨c0, c1, c2, c3, c4, c5, c6, c7⟩ := hB4.cells
    rcases Bool.eq_false_or_eq_true (noneB y) with hnb | hnb
    · rw [hnb] at hNb
      have HNb := Lib.hid hNb
      clear hNb
      obtain rfl : s = zeroSh := HSS.out.symm.trans (catR_none2 hna hnb)
      clear hna hnb
      go_wp2_with fail
      clear c0 c1 c2 c3 c4 c5 c6 c7
      refine (HNb.out _).mono ?_
      rintro ending w5 ⟨rfl, kb5⟩
      have hA5 := hA4.after kb5
      have hB5 := hB4.after kb5
      have hZ5 := hZ4.after kb5
      have hb5 := bel_step hb4 kb5
      clear hA4 hB4 hZ4 hb4 kb5
      obtain ⟨d0, d1, d2, d3, d4, d5, d6, d7⟩ := hZ5.cells
      obtain ⟨g0, g1, g2, g3, g4, g5, g6, g7⟩ := hZ5.frozens
      go_wp2
      refine bodyPost_ret (v := shV zeroSh) ?_ rfl ⟨rfl, bel_putZ hb5 (by omega)⟩
      exact results_cell_row rfl _ _ _ _ _ _ _ rfl (hZ5.putZ) Try.underlying26 rfl (by kernel_rfl)
    · rw [hnb] at hNb
      have HNb := Lib.hid hNb
      clear hNb
      have HNN := Lib.hid hna
      have HNM := Lib.hid hnb
      clear hna hnb
      go_wp2_with fail
      clear c0 c1 c2 c3 c4 c5 c6 c7
      refine (HNb.out _).mono ?_
      rintro ending w5 ⟨rfl, kb5⟩
      have hA5 := hA4.after kb5
      have hB5 := hB4.after kb5
      have hZ5 := hZ4.after kb5
      have hb5 := bel_step hb4 kb5
      clear hA4 hB4 hZ4 hb4 kb5
      obtain ⟨c0, c1, c2, c3, c4, c5, c6, c7⟩ := hA5.cells
      obtain ⟨v0, v1, v2, v3, v4, v5, v6, v7⟩ := hB5.cells
      rcases Bool.eq_false_or_eq_true x.k with hak | hak
      · have c6' := c6.trans (by rw [hak])
        rcases Bool.eq_false_or_eq_true y.k with hbk | hbk
        · have v6' := v6.trans (by rw [hbk])
          by_cases hsz : x.l.size + y.l.size ≤ 64
          · have hsl : s = litSh (x.l ++ y.l) := HSS.out.symm.trans (catR_lit HNN.out HNM.out (by unfold kkB; rw [hak, hbk]; simpa using hsz))
            have hL := refLit_is (x.l ++ y.l) (by rw [ByteArray.size_append]; omega)
            rw [← hsl] at hL
            have HL := Lib.hid hL
            clear c6 v6 hak hbk hL hsl
            simp only [shV] at HL
            go_wp2_with fail
            clear c0 c1 c2 c3 c4 c5 c6' c7 v0 v1 v2 v3 v4 v5 v6' v7
            refine (HL.out _).mono ?_
            rintro ending w6 ⟨rfl, kb6⟩
            have hZ6 := hZ5.after kb6
            have hB6 := bel_step hb5 kb6
            clear hZ5 hb5 kb6
            obtain ⟨d0, d1, d2, d3, d4, d5, d6, d7⟩ := hZ6.cells
            obtain ⟨g0, g1, g2, g3, g4, g5, g6, g7⟩ := hZ6.frozens
            go_wp2
            refine bodyPost_ret (v := shV s) ?_ rfl ⟨rfl, bel_putSh hB6 (by omega) s⟩
            exact results_cell_row rfl _ _ _ _ _ _ _ rfl (hZ6.put s) Try.underlying26 rfl (by kernel_rfl)
          · have HE : Hid (s = ⟨false, if x.e then y.e else false, orS x.h y.h, false, ⟨#[]⟩⟩) := Lib.hid (HSS.out.symm.trans (catR_not HNN.out HNM.out (by unfold kkB; rw [hak, hbk]; simpa using hsz)))
            clear c6 v6 hak hbk
            rcases Bool.eq_false_or_eq_true x.e with hea | hea
            · obtain rfl : s = ⟨false, y.e, orS x.h y.h, false, ⟨#[]⟩⟩ := HE.out.trans (by rw [hea]; rfl)
              have HEA := Lib.hid hea
              clear hea HE HSS
              have HR := Lib.hid (refOr_is x.h y.h)
              generalize orS x.h y.h = q at *
              simp only [setV] at HR
              go_wp2
              clear c0 c1 c2 c3 c4 c5 c6' c7 v0 v1 v2 v3 v4 v5 v6' v7
              obtain ⟨L0, L1, L2, L3, L4, L5, L6, L7⟩ := hA5.laters
              obtain ⟨M0, M1, M2, M3, M4, M5, M6, M7⟩ := hB5.laters
              have E1 := fun q => (L1 q).trans (by rw [HEA.out])
              clear L1
              refine region_tail 12 (by kernel_rfl) (by kernel_rfl) ?_
              simp only [List.take_succ_cons, List.take_zero, List.drop_succ_cons, List.drop_zero]
              repeat (go_big_quiet_step (fail))
              go_big_quiet_step (exact later (HR.out _))
              repeat (go_big_quiet_step (fail))
              refine wpQuiet_nil ?_
              rintro _ ⟨z, rfl⟩
              have hZ6 := hZ5.after z.below
              have hB6 := bel_step hb5 z.below
              clear E1 L0 L2 L3 L4 L5 L6 L7 M0 M1 M2 M3 M4 M5 M6 M7
              generalize z.at_ = V at *
              obtain ⟨d0, d1, d2, d3, d4, d5, d6, d7⟩ := hZ6.cells
              obtain ⟨g0, g1, g2, g3, g4, g5, g6, g7⟩ := hZ6.frozens
              go_wp2
              refine bodyPost_ret (v := shV ⟨false, y.e, q, false, ⟨#[]⟩⟩) ?_ rfl ⟨rfl, bel_putSh hB6 (by omega) ⟨false, y.e, q, false, ⟨#[]⟩⟩⟩
              exact results_cell_row rfl _ _ _ _ _ _ _ rfl (hZ6.put ⟨false, y.e, q, false, ⟨#[]⟩⟩) Try.underlying26 rfl (by kernel_rfl)
            · obtain rfl : s = ⟨false, false, orS x.h y.h, false, ⟨#[]⟩⟩ := HE.out.trans (by rw [hea]; rfl)
              have HEA := Lib.hid hea
              clear hea HE HSS
              have HR := Lib.hid (refOr_is x.h y.h)
              generalize orS x.h y.h = q at *
              simp only [setV] at HR
              go_wp2
              clear c0 c1 c2 c3 c4 c5 c6' c7 v0 v1 v2 v3 v4 v5 v6' v7
              obtain ⟨L0, L1, L2, L3, L4, L5, L6, L7⟩ := hA5.laters
              obtain ⟨M0, M1, M2, M3, M4, M5, M6, M7⟩ := hB5.laters
              have E1 := fun q => (L1 q).trans (by rw [HEA.out])
              clear L1
              refine region_tail 12 (by kernel_rfl) (by kernel_rfl) ?_
              simp only [List.take_succ_cons, List.take_zero, List.drop_succ_cons, List.drop_zero]
              repeat (go_big_quiet_step (fail))
              go_big_quiet_step (exact later (HR.out _))
              repeat (go_big_quiet_step (fail))
              refine wpQuiet_nil ?_
              rintro _ ⟨z, rfl⟩
              have hZ6 := hZ5.after z.below
              have hB6 := bel_step hb5 z.below
              clear E1 L0 L2 L3 L4 L5 L6 L7 M0 M1 M2 M3 M4 M5 M6 M7
              generalize z.at_ = V at *
              obtain ⟨d0, d1, d2, d3, d4, d5, d6, d7⟩ := hZ6.cells
              obtain ⟨g0, g1, g2, g3, g4, g5, g6, g7⟩ := hZ6.frozens
              go_wp2
              refine bodyPost_ret (v := shV ⟨false, false, q, false, ⟨#[]⟩⟩) ?_ rfl ⟨rfl, bel_putSh hB6 (by omega) ⟨false, false, q, false, ⟨#[]⟩⟩⟩
              exact results_cell_row rfl _ _ _ _ _ _ _ rfl (hZ6.put ⟨false, false, q, false, ⟨#[]⟩⟩) Try.underlying26 rfl (by kernel_rfl)
        · have v6' := v6.trans (by rw [hbk])
          have HE : Hid (s = ⟨false, if x.e then y.e else false, orS x.h y.h, false, ⟨#[]⟩⟩) := Lib.hid (HSS.out.symm.trans (catR_not HNN.out HNM.out (by unfold kkB; rw [hak, hbk]; rfl)))
          clear c6 v6 hak hbk
          rcases Bool.eq_false_or_eq_true x.e with hea | hea
          · obtain rfl : s = ⟨false, y.e, orS x.h y.h, false, ⟨#[]⟩⟩ := HE.out.trans (by rw [hea]; rfl)
            have HEA := Lib.hid hea
            clear hea HE HSS
            have HR := Lib.hid (refOr_is x.h y.h)
            generalize orS x.h y.h = q at *
            simp only [setV] at HR
            go_wp2
            clear c0 c1 c2 c3 c4 c5 c6' c7 v0 v1 v2 v3 v4 v5 v6' v7
            obtain ⟨L0, L1, L2, L3, L4, L5, L6, L7⟩ := hA5.laters
            obtain ⟨M0, M1, M2, M3, M4, M5, M6, M7⟩ := hB5.laters
            have E1 := fun q => (L1 q).trans (by rw [HEA.out])
            clear L1
            refine region_tail 12 (by kernel_rfl) (by kernel_rfl) ?_
            simp only [List.take_succ_cons, List.take_zero, List.drop_succ_cons, List.drop_zero]
            repeat (go_big_quiet_step (fail))
            go_big_quiet_step (exact later (HR.out _))
            repeat (go_big_quiet_step (fail))
            refine wpQuiet_nil ?_
            rintro _ ⟨z, rfl⟩
            have hZ6 := hZ5.after z.below
            have hB6 := bel_step hb5 z.below
            clear E1 L0 L2 L3 L4 L5 L6 L7 M0 M1 M2 M3 M4 M5 M6 M7
            generalize z.at_ = V at *
            obtain ⟨d0, d1, d2, d3, d4, d5, d6, d7⟩ := hZ6.cells
            obtain ⟨g0, g1, g2, g3, g4, g5, g6, g7⟩ := hZ6.frozens
            go_wp2
            refine bodyPost_ret (v := shV ⟨false, y.e, q, false, ⟨#[]⟩⟩) ?_ rfl ⟨rfl, bel_putSh hB6 (by omega) ⟨false, y.e, q, false, ⟨#[]⟩⟩⟩
            exact results_cell_row rfl _ _ _ _ _ _ _ rfl (hZ6.put ⟨false, y.e, q, false, ⟨#[]⟩⟩) Try.underlying26 rfl (by kernel_rfl)
          · obtain rfl : s = ⟨false, false, orS x.h y.h, false, ⟨#[]⟩⟩ := HE.out.trans (by rw [hea]; rfl)
            have HEA := Lib.hid hea
            clear hea HE HSS
            have HR := Lib.hid (refOr_is x.h y.h)
            generalize orS x.h y.h = q at *
            simp only [setV] at HR
            go_wp2
            clear c0 c1 c2 c3 c4 c5 c6' c7 v0 v1 v2 v3 v4 v5 v6' v7
            obtain ⟨L0, L1, L2, L3, L4, L5, L6, L7⟩ := hA5.laters
            obtain ⟨M0, M1, M2, M3, M4, M5, M6, M7⟩ := hB5.laters
            have E1 := fun q => (L1 q).trans (by rw [HEA.out])
            clear L1
            refine region_tail 12 (by kernel_rfl) (by kernel_rfl) ?_
            simp only [List.take_succ_cons, List.take_zero, List.drop_succ_cons, List.drop_zero]
            repeat (go_big_quiet_step (fail))
            go_big_quiet_step (exact later (HR.out _))
            repeat (go_big_quiet_step (fail))
            refine wpQuiet_nil ?_
            rintro _ ⟨z, rfl⟩
            have hZ6 := hZ5.after z.below
            have hB6 := bel_step hb5 z.below
            clear E1 L0 L2 L3 L4 L5 L6 L7 M0 M1 M2 M3 M4 M5 M6 M7
            generalize z.at_ = V at *
            obtain ⟨d0, d1, d2, d3, d4, d5, d6, d7⟩ := hZ6.cells
            obtain ⟨g0, g1, g2, g3, g4, g5, g6, g7⟩ := hZ6.frozens
            go_wp2
            refine bodyPost_ret (v := shV ⟨false, false, q, false, ⟨#[]⟩⟩) ?_ rfl ⟨rfl, bel_putSh hB6 (by omega) ⟨false, false, q, false, ⟨#[]⟩⟩⟩
            exact results_cell_row rfl _ _ _ _ _ _ _ rfl (hZ6.put ⟨false, false, q, false, ⟨#[]⟩⟩) Try.underlying26 rfl (by kernel_rfl)
      · have c6' := c6.trans (by rw [hak])
        have HE : Hid (s = ⟨false, if x.e then y.e else false, orS x.h y.h, false, ⟨#[]⟩⟩) := Lib.hid (HSS.out.symm.trans (catR_not HNN.out HNM.out (by unfold kkB; rw [hak]; rfl)))
        clear c6 hak
        rcases Bool.eq_false_or_eq_true x.e with hea | hea
        · obtain rfl : s = ⟨false, y.e, orS x.h y.h, false, ⟨#[]⟩⟩ := HE.out.trans (by rw [hea]; rfl)
          have HEA := Lib.hid hea
          clear hea HE HSS
          have HR := Lib.hid (refOr_is x.h y.h)
          generalize orS x.h y.h = q at *
          simp only [setV] at HR
          go_wp2
          clear c0 c1 c2 c3 c4 c5 c6' c7 v0 v1 v2 v3 v4 v5 v6 v7
          obtain ⟨L0, L1, L2, L3, L4, L5, L6, L7⟩ := hA5.laters
          obtain ⟨M0, M1, M2, M3, M4, M5, M6, M7⟩ := hB5.laters
          have E1 := fun q => (L1 q).trans (by rw [HEA.out])
          clear L1
          refine region_tail 12 (by kernel_rfl) (by kernel_rfl) ?_
          simp only [List.take_succ_cons, List.take_zero, List.drop_succ_cons, List.drop_zero]
          repeat (go_big_quiet_step (fail))
          go_big_quiet_step (exact later (HR.out _))
          repeat (go_big_quiet_step (fail))
          refine wpQuiet_nil ?_
          rintro _ ⟨z, rfl⟩
          have hZ6 := hZ5.after z.below
          have hB6 := bel_step hb5 z.below
          clear E1 L0 L2 L3 L4 L5 L6 L7 M0 M1 M2 M3 M4 M5 M6 M7
          generalize z.at_ = V at *
          obtain ⟨d0, d1, d2, d3, d4, d5, d6, d7⟩ := hZ6.cells
          obtain ⟨g0, g1, g2, g3, g4, g5, g6, g7⟩ := hZ6.frozens
          go_wp2
          refine bodyPost_ret (v := shV ⟨false, y.e, q, false, ⟨#[]⟩⟩) ?_ rfl ⟨rfl, bel_putSh hB6 (by omega) ⟨false, y.e, q, false, ⟨#[]⟩⟩⟩
          exact results_cell_row rfl _ _ _ _ _ _ _ rfl (hZ6.put ⟨false, y.e, q, false, ⟨#[]⟩⟩) Try.underlying26 rfl (by kernel_rfl)
        · obtain rfl : s = ⟨false, false, orS x.h y.h, false, ⟨#[]⟩⟩ := HE.out.trans (by rw [hea]; rfl)
          have HEA := Lib.hid hea
          clear hea HE HSS
          have HR := Lib.hid (refOr_is x.h y.h)
          generalize orS x.h y.h = q at *
          simp only [setV] at HR
          go_wp2
          clear c0 c1 c2 c3 c4 c5 c6' c7 v0 v1 v2 v3 v4 v5 v6 v7
          obtain ⟨L0, L1, L2, L3, L4, L5, L6, L7⟩ := hA5.laters
          obtain ⟨M0, M1, M2, M3, M4, M5, M6, M7⟩ := hB5.laters
          have E1 := fun q => (L1 q).trans (by rw [HEA.out])
          clear L1
          refine region_tail 12 (by kernel_rfl) (by kernel_rfl) ?_
          simp only [List.take_succ_cons, List.take_zero, List.drop_succ_cons, List.drop_zero]
          repeat (go_big_quiet_step (fail))
          go_big_quiet_step (exact later (HR.out _))
          repeat (go_big_quiet_step (fail))
          refine wpQuiet_nil ?_
          rintro _ ⟨z, rfl⟩
          have hZ6 := hZ5.after z.below
          have hB6 := bel_step hb5 z.below
          clear E1 L0 L2 L3 L4 L5 L6 L7 M0 M1 M2 M3 M4 M5 M6 M7
          generalize z.at_ = V at *
          obtain ⟨d0, d1, d2, d3, d4, d5, d6, d7⟩ := hZ6.cells
          obtain ⟨g0, g1, g2, g3, g4, g5, g6, g7⟩ := hZ6.frozens
          go_wp2
          refine bodyPost_ret (v := shV ⟨false, false, q, false, ⟨#[]⟩⟩) ?_ rfl ⟨rfl, bel_putSh hB6 (by omega) ⟨false, false, q, false, ⟨#[]⟩⟩⟩
          exact results_cell_row rfl _ _ _ _ _ _ _ rfl (hZ6.put ⟨false, false, q, false, ⟨#[]⟩⟩) Try.underlying26 rfl (by kernel_rfl)

set_option maxHeartbeats 4000000 in
set_option maxRecDepth 100000 in
theorem refSplit_is (x i : Sh) (hi : i.l.size ≤ 1048576) (w : World) : Calls Try.prog 31 #[shV x, shV i] w (Gives w (.bool (splitR x i))) := by
  obtain ⟨wA, hwA, hbA, hA, hI⟩ := lay_two w x i
  have hC := refCould_is x
  have hB0 := refOf_is ⟨#[32, 9, 10]⟩ (by decide)
  rw [show (⟨#[32, 9, 10]⟩ : ByteArray).data.toList = blanks from rfl] at hB0
  have HB := Lib.hid hB0
  clear hB0
  obtain ⟨u, e, h, k, l⟩ := x
  obtain ⟨iu, ie, ih, ik, il⟩ := i
  have HE : Hid (splitR ⟨u, e, h, k, l⟩ ⟨iu, ie, ih, ik, il⟩ = if couldB ⟨u, e, h, k, l⟩ then (if e then true else !sameS (andS h (if iu then orS (if ik then ofS il.data.toList else ih) (ofS blanks) else (if ik then ofS il.data.toList else ih))) noS) else false) := Lib.hid rfl
  generalize splitR ⟨u, e, h, k, l⟩ ⟨iu, ie, ih, ik, il⟩ = o at *
  generalize couldB ⟨u, e, h, k, l⟩ = z at *
  simp only [shV] at hwA hC ⊢
  have hil : il.size ≤ 1048576 := hi
  clear hi
  have HC := Lib.hid hC
  clear hC
  go_enter Try.func31, Try.ntmps31
  obtain ⟨c0, c1, c2, c3, c4, c5, c6, c7⟩ := hA.cells
  dsimp only at c0 c1 c2 c3 c4 c5 c6 c7
  go_wp2_with fail
  clear hwA
  clear c0 c1 c2 c3 c4 c5 c6 c7
  refine (HC.out _).mono ?_
  rintro ending w1 ⟨rfl, kb1⟩
  have hA1 := hA.after kb1
  have hI1 := hI.after kb1
  have hB1 := bel_step hbA kb1
  clear kb1 hA hI hbA HC
  cases z with
  | false =>
    go_wp2
    go_ret
    exact ⟨HE.out ▸ rfl, hB1⟩
  | true =>
    obtain ⟨b, hb⟩ : ∃ b, w1.heap.size = b := ⟨_, rfl⟩
    have hna : w.heap.size ≠ b := by have := hA1.lt; omega
    have hni : w.heap.size + 1 ≠ b := by have := hI1.lt; omega
    have hle : w.heap.size ≤ b := by have := hA1.lt; omega
    have hS2 := SetAt.new_at w1 ih b hb
    have hA2 := hA1.alloc (.cells #[.int .u64 (wd ih 0 : Nat), .int .u64 (wd ih 1 : Nat), .int .u64 (wd ih 2 : Nat), .int .u64 (wd ih 3 : Nat)] 24)
    have hI2 := hI1.alloc (.cells #[.int .u64 (wd ih 0 : Nat), .int .u64 (wd ih 1 : Nat), .int .u64 (wd ih 2 : Nat), .int .u64 (wd ih 3 : Nat)] 24)
    have hB2 := bel_alloc hB1 (.cells #[.int .u64 (wd ih 0 : Nat), .int .u64 (wd ih 1 : Nat), .int .u64 (wd ih 2 : Nat), .int .u64 (wd ih 3 : Nat)] 24)
    obtain ⟨U0, hU0⟩ : ∃ U0, w1.alloc (.cells #[.int .u64 (wd ih 0 : Nat), .int .u64 (wd ih 1 : Nat), .int .u64 (wd ih 2 : Nat), .int .u64 (wd ih 3 : Nat)] 24) = U0 := ⟨_, rfl⟩
    rw [hU0] at hS2 hA2 hI2 hB2
    have HU0 := Lib.hid hU0
    clear hU0
    obtain ⟨i0, i1, i2, i3, i4, i5, i6, i7⟩ := hI1.cells
    dsimp only at i0 i1 i2 i3 i4 i5 i6 i7
    go_upto_region 4 with fail
    rw [HU0.out]
    clear i0 i1 i2 i3 i4 i5 i6 i7 HU0 hA1 hI1 hB1
    clear hb
    cases ik with
    | false =>
      cases iu with
      | false =>
        have HE2 : Hid (o = if e then true else !sameS (andS h (ih)) noS) := Lib.hid HE.out
        clear HE
        have HE := HE2
        clear HE2
        obtain ⟨i0, i1, i2, i3, i4, i5, i6, i7⟩ := hI2.cells
        dsimp only at i0 i1 i2 i3 i4 i5 i6 i7
        clear HB
        go_upto_region 8 with fail
        clear i0 i1 i2 i3 i4 i5 i6 i7
        cases e with
        | true =>
          obtain ⟨c0, c1, c2, c3, c4, c5, c6, c7⟩ := hA2.cells
          dsimp only at c0 c1 c2 c3 c4 c5 c6 c7
          go_wp2
          go_ret
          exact ⟨HE.out ▸ rfl, hB2⟩
        | false =>
          have HM := Lib.hid (refAnd_is h ih)
          have HN := Lib.hid (refNo_is (andS h ih))
          generalize andS h ih = r at *
          generalize sameS r noS = z at *
          simp only [setV] at HM HN
          obtain ⟨c0, c1, c2, c3, c4, c5, c6, c7⟩ := hA2.cells
          dsimp only at c0 c1 c2 c3 c4 c5 c6 c7
          obtain ⟨s0, s1, s2, s3⟩ := hS2.cells
          go_wp2_with fail
          clear c0 c1 c2 c3 c4 c5 c6 c7 s0 s1 s2 s3
          refine (HM.out _).mono ?_
          rintro ending w7 ⟨rfl, kb7⟩
          go_wp2_with fail
          refine (HN.out _).mono ?_
          rintro ending w8 ⟨rfl, kb8⟩
          go_wp2
          go_ret
          exact ⟨by rw [HE.out]; rfl, bel_step (bel_step hB2 kb7) kb8⟩
      | true =>
        have HE2 : Hid (o = if e then true else !sameS (andS h (orS (ih) (ofS blanks))) noS) := Lib.hid HE.out
        clear HE
        have HE := HE2
        clear HE2
        obtain ⟨i0, i1, i2, i3, i4, i5, i6, i7⟩ := hI2.cells
        dsimp only at i0 i1 i2 i3 i4 i5 i6 i7
        have HR := Lib.hid (refOr_is ih (ofS blanks))
        generalize orS ih (ofS blanks) = t at *
        generalize ofS blanks = q at *
        simp only [setV] at HR HB
        go_wp2
        clear i0 i1 i2 i3 i4 i5 i6 i7
        obtain ⟨L0, L1, L2, L3⟩ := hS2.laters
        refine region_tail 3 (by kernel_rfl) (by kernel_rfl) ?_
        simp only [List.take_succ_cons, List.take_zero, List.drop_succ_cons, List.drop_zero]
        repeat (go_big_quiet_step (fail))
        go_big_quiet_step (exact later (HB.out _))
        repeat (go_big_quiet_step (fail))
        go_big_quiet_step (exact later (HR.out _))
        repeat (go_big_quiet_step (fail))
        refine wpQuiet_nil ?_
        rintro _ ⟨y, rfl⟩
        have hA5 := hA2.after y.below
        have hS5 := hS2.after y.below
        have hB5 := bel_step hB2 y.below
        clear hA2 hS2 hB2 hI2 HB HR L0 L1 L2 L3
        generalize y.at_ = V at *
        have hA6 := hA5.putStFar hna t
        have hS6 := hS5.putSt t
        have hB6 := bel_putSt hB5 hle t
        obtain ⟨U2, hU⟩ : ∃ U2, putSt V b t = U2 := ⟨_, rfl⟩
        rw [hU] at hA6 hS6 hB6
        unfold putSt at hU
        have HU := Lib.hid hU
        clear hU
        obtain ⟨s0, s1, s2, s3⟩ := hS5.cells
        have f0 := hS5.frozen 0
        have f1 := hS5.frozen 1
        have f2 := hS5.frozen 2
        have f3 := hS5.frozen 3
        go_upto_region 8 with fail
        rw [HU.out]
        clear HU s0 s1 s2 s3 f0 f1 f2 f3 hA5 hS5 hB5
        cases e with
        | true =>
          obtain ⟨c0, c1, c2, c3, c4, c5, c6, c7⟩ := hA6.cells
          dsimp only at c0 c1 c2 c3 c4 c5 c6 c7
          go_wp2
          go_ret
          exact ⟨HE.out ▸ rfl, hB6⟩
        | false =>
          have HM := Lib.hid (refAnd_is h t)
          have HN := Lib.hid (refNo_is (andS h t))
          generalize andS h t = r at *
          generalize sameS r noS = z at *
          simp only [setV] at HM HN
          obtain ⟨c0, c1, c2, c3, c4, c5, c6, c7⟩ := hA6.cells
          dsimp only at c0 c1 c2 c3 c4 c5 c6 c7
          obtain ⟨s0, s1, s2, s3⟩ := hS6.cells
          go_wp2_with fail
          clear c0 c1 c2 c3 c4 c5 c6 c7 s0 s1 s2 s3
          refine (HM.out _).mono ?_
          rintro ending w7 ⟨rfl, kb7⟩
          go_wp2_with fail
          refine (HN.out _).mono ?_
          rintro ending w8 ⟨rfl, kb8⟩
          go_wp2
          go_ret
          exact ⟨by rw [HE.out]; rfl, bel_step (bel_step hB6 kb7) kb8⟩
    | true =>
      cases iu with
      | false =>
        have HE2 : Hid (o = if e then true else !sameS (andS h (ofS il.data.toList)) noS) := Lib.hid HE.out
        clear HE
        have HE := HE2
        clear HE2
        obtain ⟨i0, i1, i2, i3, i4, i5, i6, i7⟩ := hI2.cells
        dsimp only at i0 i1 i2 i3 i4 i5 i6 i7
        have HO := Lib.hid (refOf_is il hil)
        simp only [setV] at HO
        go_wp2_with fail
        clear i0 i1 i2 i3 i4 i5 i6 i7
        refine (HO.out _).mono ?_
        rintro ending w3 ⟨rfl, kb3⟩
        have hA3 := hA2.after kb3
        have hI3 := hI2.after kb3
        have hS3 := hS2.after kb3
        have hB3 := bel_step hB2 kb3
        clear kb3 hA2 hI2 hS2 hB2 HO
        generalize ofS il.data.toList = p at *
        have hA4 := hA3.putStFar hna p
        have hI4 := hI3.putStFar hni p
        have hS4 := hS3.putSt p
        have hB4 := bel_putSt hB3 hle p
        obtain ⟨U, hU⟩ : ∃ U, putSt w3 b p = U := ⟨_, rfl⟩
        rw [hU] at hA4 hI4 hS4 hB4
        unfold putSt at hU
        have HU := Lib.hid hU
        clear hU
        obtain ⟨s0, s1, s2, s3⟩ := hS3.cells
        have f0 := hS3.frozen 0
        have f1 := hS3.frozen 1
        have f2 := hS3.frozen 2
        have f3 := hS3.frozen 3
        go_upto_region 6 with fail
        rw [HU.out]
        clear HU s0 s1 s2 s3 f0 f1 f2 f3 hA3 hI3 hS3 hB3
        obtain ⟨i0, i1, i2, i3, i4, i5, i6, i7⟩ := hI4.cells
        dsimp only at i0 i1 i2 i3 i4 i5 i6 i7
        clear HB
        go_upto_region 8 with fail
        clear i0 i1 i2 i3 i4 i5 i6 i7
        cases e with
        | true =>
          obtain ⟨c0, c1, c2, c3, c4, c5, c6, c7⟩ := hA4.cells
          dsimp only at c0 c1 c2 c3 c4 c5 c6 c7
          go_wp2
          go_ret
          exact ⟨HE.out ▸ rfl, hB4⟩
        | false =>
          have HM := Lib.hid (refAnd_is h p)
          have HN := Lib.hid (refNo_is (andS h p))
          generalize andS h p = r at *
          generalize sameS r noS = z at *
          simp only [setV] at HM HN
          obtain ⟨c0, c1, c2, c3, c4, c5, c6, c7⟩ := hA4.cells
          dsimp only at c0 c1 c2 c3 c4 c5 c6 c7
          obtain ⟨s0, s1, s2, s3⟩ := hS4.cells
          go_wp2_with fail
          clear c0 c1 c2 c3 c4 c5 c6 c7 s0 s1 s2 s3
          refine (HM.out _).mono ?_
          rintro ending w7 ⟨rfl, kb7⟩
          go_wp2_with fail
          refine (HN.out _).mono ?_
          rintro ending w8 ⟨rfl, kb8⟩
          go_wp2
          go_ret
          exact ⟨by rw [HE.out]; rfl, bel_step (bel_step hB4 kb7) kb8⟩
      | true =>
        have HE2 : Hid (o = if e then true else !sameS (andS h (orS (ofS il.data.toList) (ofS blanks))) noS) := Lib.hid HE.out
        clear HE
        have HE := HE2
        clear HE2
        obtain ⟨i0, i1, i2, i3, i4, i5, i6, i7⟩ := hI2.cells
        dsimp only at i0 i1 i2 i3 i4 i5 i6 i7
        have HO := Lib.hid (refOf_is il hil)
        simp only [setV] at HO
        go_wp2_with fail
        clear i0 i1 i2 i3 i4 i5 i6 i7
        refine (HO.out _).mono ?_
        rintro ending w3 ⟨rfl, kb3⟩
        have hA3 := hA2.after kb3
        have hI3 := hI2.after kb3
        have hS3 := hS2.after kb3
        have hB3 := bel_step hB2 kb3
        clear kb3 hA2 hI2 hS2 hB2 HO
        generalize ofS il.data.toList = p at *
        have hA4 := hA3.putStFar hna p
        have hI4 := hI3.putStFar hni p
        have hS4 := hS3.putSt p
        have hB4 := bel_putSt hB3 hle p
        obtain ⟨U, hU⟩ : ∃ U, putSt w3 b p = U := ⟨_, rfl⟩
        rw [hU] at hA4 hI4 hS4 hB4
        unfold putSt at hU
        have HU := Lib.hid hU
        clear hU
        obtain ⟨s0, s1, s2, s3⟩ := hS3.cells
        have f0 := hS3.frozen 0
        have f1 := hS3.frozen 1
        have f2 := hS3.frozen 2
        have f3 := hS3.frozen 3
        go_upto_region 6 with fail
        rw [HU.out]
        clear HU s0 s1 s2 s3 f0 f1 f2 f3 hA3 hI3 hS3 hB3
        obtain ⟨i0, i1, i2, i3, i4, i5, i6, i7⟩ := hI4.cells
        dsimp only at i0 i1 i2 i3 i4 i5 i6 i7
        have HR := Lib.hid (refOr_is p (ofS blanks))
        generalize orS p (ofS blanks) = t at *
        generalize ofS blanks = q at *
        simp only [setV] at HR HB
        go_wp2
        clear i0 i1 i2 i3 i4 i5 i6 i7
        obtain ⟨L0, L1, L2, L3⟩ := hS4.laters
        refine region_tail 3 (by kernel_rfl) (by kernel_rfl) ?_
        simp only [List.take_succ_cons, List.take_zero, List.drop_succ_cons, List.drop_zero]
        repeat (go_big_quiet_step (fail))
        go_big_quiet_step (exact later (HB.out _))
        repeat (go_big_quiet_step (fail))
        go_big_quiet_step (exact later (HR.out _))
        repeat (go_big_quiet_step (fail))
        refine wpQuiet_nil ?_
        rintro _ ⟨y, rfl⟩
        have hA5 := hA4.after y.below
        have hS5 := hS4.after y.below
        have hB5 := bel_step hB4 y.below
        clear hA4 hS4 hB4 hI4 HB HR L0 L1 L2 L3
        generalize y.at_ = V at *
        have hA6 := hA5.putStFar hna t
        have hS6 := hS5.putSt t
        have hB6 := bel_putSt hB5 hle t
        obtain ⟨U2, hU⟩ : ∃ U2, putSt V b t = U2 := ⟨_, rfl⟩
        rw [hU] at hA6 hS6 hB6
        unfold putSt at hU
        have HU := Lib.hid hU
        clear hU
        obtain ⟨s0, s1, s2, s3⟩ := hS5.cells
        have f0 := hS5.frozen 0
        have f1 := hS5.frozen 1
        have f2 := hS5.frozen 2
        have f3 := hS5.frozen 3
        go_upto_region 8 with fail
        rw [HU.out]
        clear HU s0 s1 s2 s3 f0 f1 f2 f3 hA5 hS5 hB5
        cases e with
        | true =>
          obtain ⟨c0, c1, c2, c3, c4, c5, c6, c7⟩ := hA6.cells
          dsimp only at c0 c1 c2 c3 c4 c5 c6 c7
          go_wp2
          go_ret
          exact ⟨HE.out ▸ rfl, hB6⟩
        | false =>
          have HM := Lib.hid (refAnd_is h t)
          have HN := Lib.hid (refNo_is (andS h t))
          generalize andS h t = r at *
          generalize sameS r noS = z at *
          simp only [setV] at HM HN
          obtain ⟨c0, c1, c2, c3, c4, c5, c6, c7⟩ := hA6.cells
          dsimp only at c0 c1 c2 c3 c4 c5 c6 c7
          obtain ⟨s0, s1, s2, s3⟩ := hS6.cells
          go_wp2_with fail
          clear c0 c1 c2 c3 c4 c5 c6 c7 s0 s1 s2 s3
          refine (HM.out _).mono ?_
          rintro ending w7 ⟨rfl, kb7⟩
          go_wp2_with fail
          refine (HN.out _).mono ?_
          rintro ending w8 ⟨rfl, kb8⟩
          go_wp2
          go_ret
          exact ⟨by rw [HE.out]; rfl, bel_step (bel_step hB6 kb7) kb8⟩
end Go.Proofs.Ytjdhidiocchkeaa
