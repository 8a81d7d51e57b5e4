/-
  The walk of conchlaw4.ShapeTells. (By wip/tools/gen_shtells.py.)
-/
import Derived.Test.YtboiplanipgidaaRefJoin
import Derived.Test.YtboiplanipgidaaShNone
namespace Go.Proofs.Ytboiplanipgidaa
open Go.RowKit

set_option maxHeartbeats 8000000 in
set_option maxRecDepth 100000 in
theorem ShapeTells_walk (a b : Sh) (v : ByteArray) (is : Bool) (w : World) : Calls Try.prog 4 #[shV a, shV b, .string v, .bool is] w (Gives w (.bool true)) := by
  have HW := Lib.hid awake_is
  obtain ⟨wA, hwA, hbA, hA, hB⟩ := lay_two w a b
  obtain ⟨a0, a1, a2, a3, a4, a5, a6, a7⟩ := hA.cells
  obtain ⟨b0, b1, b2, b3, b4, b5, b6, b7⟩ := hB.cells
  by_cases hv : v.size ≤ 200
  · by_cases hla : a.l.size ≤ 200
    · by_cases hlb : b.l.size ≤ 200
      · have HOk := Lib.hid (Ok_is a)
        have HRk := Lib.hid (refOk_is a)
        have HLi := Lib.hid (Lit_is v (by omega))
        have HRi := Lib.hid (refLit_is v (by omega))
        have HAn := Lib.hid Any_is
        have HRn := Lib.hid refAny_is
        have HUn := Lib.hid Unset_is
        have HRu := Lib.hid refUnset_is
        have HOf := Lib.hid (OfSh_is a.h is)
        have HRf := Lib.hid (refOfSh_is a.h is)
        have E1 := run_eq_shape (litSh v) (litSh v)
        have E2 := run_eq_shape anySh anySh
        have E3 := run_eq_shape unsetSh unsetSh
        have E4 := run_eq_shape (ofSh a.h is) (ofSh a.h is)
        rw [same_refl] at E1 E2 E3 E4
        have HTa := Lib.hid (Tame_is a)
        have HTb := Lib.hid (Tame_is b)
        have ha := tame_ok a
        have hb := tame_ok b
        generalize tameSh a = ta at *
        generalize tameSh b = tb at *
        have hKa := Ok_is ta
        have HJ := Lib.hid (Join_is ta tb)
        have HRJ := Lib.hid (refJoin_is ta tb)
        have E5 := run_eq_shape (joinP ta tb) (joinR ta tb)
        have HL := Lib.hid (Leq_is ta tb (ok_len ha))
        have hRL := refLeq_is ta tb
        have HM := Lib.hid (May_is ta is v (by omega))
        have HRM := Lib.hid (refMay_is ta is v (by omega))
        have HN := Lib.hid (None_is ta)
        have HRN := Lib.hid (refNone_is ta)
        have HLo := Lib.hid (Loose_is ta)
        have HRo := Lib.hid (refLoose_is ta)
        have E6 := run_eq_shape (looseSh ta) (looseSh ta)
        rw [same_refl] at E6
        rw [(okB_iff ta).2 ha] at hKa
        rw [join_same ha hb] at E5
        rw [← leq_same ha hb] at hRL
        have HKa := Lib.hid hKa
        have HRL := Lib.hid hRL
        clear hKa hRL ha hb
        generalize okB a = ok at *
        generalize litSh v = xl at *
        generalize ofSh a.h is = xo at *
        generalize joinP ta tb = j1 at *
        generalize joinR ta tb = j2 at *
        generalize leqP ta tb = lq at *
        generalize mayB ta is v = my at *
        generalize noneB ta = nn at *
        generalize anySh = xa at *
        generalize unsetSh = xn at *
        generalize looseSh ta = lo at *
        have ok0 : (ok != ok) = false := by cases ok <;> rfl
        have lq0 : (lq == lq) = true := by cases lq <;> rfl
        have my0 : (my == my) = true := by cases my <;> rfl
        have nn0 : (nn == nn) = true := by cases nn <;> rfl
        simp only [shV, setV] at HOk HRk HLi HRi HAn HRn HUn HRu HOf HRf E1 E2 E3 E4 HTa HTb HKa HJ HRJ E5 HL HRL HM HRM HN HRN HLo HRo E6 ⊢
        go_enter Try.func4, Try.ntmps4
        go_wp2
        clear hwA a0 a1 a2 a3 a4 a5 a6 a7 b0 b1 b2 b3 b4 b5 b6 b7
        obtain ⟨L0, L1, L2, L3, L4, L5, L6, L7⟩ := hA.laters
        refine region_later (by kernel_rfl) (by kernel_rfl) ?_
        repeat (go_big_quiet_step (fail))
        go_big_quiet_step (exact later (HOk.out _))
        repeat (go_big_quiet_step (fail))
        go_big_quiet_step (exact later (HRk.out _))
        repeat (go_big_quiet_step (fail))
        go_big_quiet_step (exact later (HLi.out _))
        repeat (go_big_quiet_step (fail))
        go_big_quiet_step (exact later (HRi.out _))
        repeat (go_big_quiet_step (fail))
        go_big_quiet_step (exact later (HAn.out _))
        repeat (go_big_quiet_step (fail))
        go_big_quiet_step (exact later (HRn.out _))
        repeat (go_big_quiet_step (fail))
        go_big_quiet_step (exact later (HUn.out _))
        repeat (go_big_quiet_step (fail))
        go_big_quiet_step (exact later (HRu.out _))
        repeat (go_big_quiet_step (fail))
        go_big_quiet_step (exact later (HOf.out _))
        repeat (go_big_quiet_step (fail))
        go_big_quiet_step (exact later (HRf.out _))
        repeat (go_big_quiet_step (fail))
        refine wpQuiet_nil ?_
        rintro _ ⟨y, rfl⟩
        have hA1 := hA.after y.below
        have hB1 := hB.after y.below
        have hb1 := bel_step hbA y.below
        clear L0 L1 L2 L3 L4 L5 L6 L7 hA hB hbA
        generalize y.at_ = W at *
        go_wp2
        clear HOk HRk HLi HRi HAn HRn HUn HRu HOf HRf E1 E2 E3 E4
        obtain ⟨L0, L1, L2, L3, L4, L5, L6, L7⟩ := hA1.laters
        obtain ⟨M0, M1, M2, M3, M4, M5, M6, M7⟩ := hB1.laters
        refine region_tail 4 (by kernel_rfl) (by kernel_rfl) ?_
        simp only [List.take_succ_cons, List.take_zero, List.drop_succ_cons, List.drop_zero]
        repeat (go_big_quiet_step (fail))
        go_big_quiet_step (exact later (HTa.out _))
        repeat (go_big_quiet_step (fail))
        go_big_quiet_step (exact later (HTb.out _))
        repeat (go_big_quiet_step (fail))
        refine wpQuiet_nil ?_
        rintro _ ⟨z, rfl⟩
        have hA2 := hA1.after z.below
        have hB2 := hB1.after z.below
        have hb2 := bel_step hb1 z.below
        clear L0 L1 L2 L3 L4 L5 L6 L7 M0 M1 M2 M3 M4 M5 M6 M7 hA1 hB1 hb1 HTa HTb
        generalize z.at_ = V at *
        obtain ⟨c0, c1, c2, c3, c4, c5, c6, c7⟩ := hA2.cells
        obtain ⟨d0, d1, d2, d3, d4, d5, d6, d7⟩ := hB2.cells
        obtain ⟨g0, g1, g2, g3, g4, g5, g6, g7⟩ := hA2.frozens
        obtain ⟨k0, k1, k2, k3, k4, k5, k6, k7⟩ := hB2.frozens
        have hA3 := (hA2.put ta).putFar (c := w.heap.size + 1) (by omega) tb
        have hB3 := (hB2.putFar (c := w.heap.size) (by omega) ta).put tb
        have hb3 := bel_putSh (bel_putSh hb2 (Nat.le_refl _) ta) (by omega : w.heap.size ≤ w.heap.size + 1) tb
        obtain ⟨U, hU⟩ : ∃ U, putSh (putSh V w.heap.size ta) (w.heap.size + 1) tb = U := ⟨_, rfl⟩
        rw [hU] at hA3 hB3 hb3
        unfold putSh at hU
        have HU := Lib.hid hU
        clear hU
        go_wp2
        rw [HU.out]
        clear HU c0 c1 c2 c3 c4 c5 c6 c7 d0 d1 d2 d3 d4 d5 d6 d7 g0 g1 g2 g3 g4 g5 g6 g7 k0 k1 k2 k3 k4 k5 k6 k7 hA2 hB2 hb2
        obtain ⟨L0, L1, L2, L3, L4, L5, L6, L7⟩ := hA3.laters
        obtain ⟨M0, M1, M2, M3, M4, M5, M6, M7⟩ := hB3.laters
        refine region_later (by kernel_rfl) (by kernel_rfl) ?_
        repeat (go_big_quiet_step (fail))
        go_big_quiet_step (exact later (HKa.out _))
        repeat (go_big_quiet_step (fail))
        go_big_quiet_step (exact later (HJ.out _))
        repeat (go_big_quiet_step (fail))
        go_big_quiet_step (exact later (HRJ.out _))
        repeat (go_big_quiet_step (fail))
        go_big_quiet_step (exact later (HL.out _))
        repeat (go_big_quiet_step (fail))
        go_big_quiet_step (exact later (HRL.out _))
        repeat (go_big_quiet_step (fail))
        go_big_quiet_step (exact later (HM.out _))
        repeat (go_big_quiet_step (fail))
        go_big_quiet_step (exact later (HRM.out _))
        repeat (go_big_quiet_step (fail))
        go_big_quiet_step (exact later (HN.out _))
        repeat (go_big_quiet_step (fail))
        go_big_quiet_step (exact later (HRN.out _))
        repeat (go_big_quiet_step (fail))
        go_big_quiet_step (exact later (HLo.out _))
        repeat (go_big_quiet_step (fail))
        go_big_quiet_step (exact later (HRo.out _))
        repeat (go_big_quiet_step (fail))
        go_big_quiet_step (exact later (HW.out _))
        repeat (go_big_quiet_step (fail))
        refine wpQuiet_nil ?_
        rintro _ ⟨q, rfl⟩
        go_wp2
        go_ret
        exact ⟨rfl, bel_step hb3 q.below⟩
      · simp only [shV]
        go_enter Try.func4, Try.ntmps4
        go_wp2_with fail
        refine (HW.out _).mono ?_
        rintro e w1 ⟨rfl, hb1⟩
        go_wp2
        go_ret
        exact ⟨rfl, bel_step hbA hb1⟩
    · simp only [shV]
      go_enter Try.func4, Try.ntmps4
      go_wp2_with fail
      refine (HW.out _).mono ?_
      rintro e w1 ⟨rfl, hb1⟩
      go_wp2
      go_ret
      exact ⟨rfl, bel_step hbA hb1⟩
  · simp only [shV]
    go_enter Try.func4, Try.ntmps4
    go_wp2_with fail
    refine (HW.out _).mono ?_
    rintro e w1 ⟨rfl, hb1⟩
    go_wp2
    go_ret
    exact ⟨rfl, bel_step hbA hb1⟩
end Go.Proofs.Ytboiplanipgidaa
