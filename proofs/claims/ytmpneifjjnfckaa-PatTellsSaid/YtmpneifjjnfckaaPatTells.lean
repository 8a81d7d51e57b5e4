/-
  The walk of conchlaw6.PatTells. (By wip/tools/gen_pattells.py.)
-/
import Derived.Test.YtmpneifjjnfckaaPatAwake
import Derived.Test.YtmpneifjjnfckaaPatSmall
namespace Go.Proofs.Ytmpneifjjnfckaa
open Go.RowKit

set_option maxHeartbeats 8000000 in
set_option maxRecDepth 100000 in
theorem PatTells_walk (t s : ByteArray) (L : Value) (v : List Bool) (front long : Bool) (w : World) (hL : LiveAt w L v) : Calls Try.prog 4 #[patV t L, .string s, .bool front, .bool long] w (Gives w (.bool true)) := by
  have HW := Lib.hid awake6_is
  obtain ⟨wA, hwA, hb1, hP1⟩ := lay_pat w t L
  have hO1 := (hL.off w.heap.size (Nat.le_refl _)).after hb1
  obtain ⟨ao, cap, rfl, hl9, _⟩ := hL
  unfold maxLen at hl9
  unfold patV
  have c0 := hP1.cell 0 (v := .string t) rfl
  have c1 := hP1.cell 1 (v := .slice ao v.length cap) rfl
  go_enter Try.func4, Try.ntmps4
  by_cases ht : t.size ≤ 60
  · by_cases hs : s.size ≤ 60
    · by_cases hv : v.length ≤ 200
      · go_wp2
        clear c0 c1
        go_loopw [1, 9] (fun sv z wr => ∃ (k : Nat) (T S : ByteArray) (Lv : Value) (v : List Bool), k ≤ 3 ∧ z = .int .i64 (k : Int) ∧ sv = .string S ∧ T.size ≤ 60 ∧ S.size ≤ 60 ∧ BlkAt wr w.heap.size #[.string T, Lv] 25 ∧ LiveOff wr Lv v w.heap.size ∧ Below w.heap.size w wr) (fun _ z _ => 3 - (intOf z).toNat)
        case atStart => exact ⟨0, t, s, _, v, by omega, rfl, rfl, ht, hs, hP1, hO1, hb1⟩
        case round =>
          obtain ⟨k, T, S, Lv, v, hk9, rfl, rfl, hT9, hS9, hP2, hO2, hb2⟩ := hrel
          clear hP1 hO1 hb1 hwA
          by_cases hk : k < 3
          · have hM := patMatch_is T (by omega) Lv v S (by omega)
            have hRM := refMatch_is T (by omega) Lv v S (by omega)
            have hA := patActive_is T (by omega) Lv v
            have hRA := refActive_is T (by omega) Lv v
            have hC := patCut_is T (by omega) Lv v S (by omega) front long
            have hRC := refCut_is T (by omega) Lv v S (by omega) front long
            generalize patB T.data.toList v S.data.toList = y1 at *
            generalize actB T.data.toList v = y2 at *
            generalize (⟨(cutB (patB T.data.toList v) S.data.toList front long).toArray⟩ : ByteArray) = X at *
            unfold patV at hM hRM hA hRA hC hRC
            have HM := Lib.hid hM
            have HRM := Lib.hid hRM
            have HA := Lib.hid hA
            have HRA := Lib.hid hRA
            have HC := Lib.hid hC
            have HRC := Lib.hid hRC
            clear hM hRM hA hRA hC hRC
            have y10 : (y1 != y1) = false := by cases y1 <;> rfl
            have y20 : (y2 != y2) = false := by cases y2 <;> rfl
            have hxx : (X.toList == X.toList) = true := by simp
            have hL2 := hO2.at_
            go_wp2
            have L0 : ∀ q : Later wr, q.at_.cell? ⟨w.heap.size, 0, none⟩ = some (.string T) := fun q => (hP2.after q.below).cell 0 rfl
            have L1 : ∀ q : Later wr, q.at_.cell? ⟨w.heap.size, 1, none⟩ = some Lv := fun q => (hP2.after q.below).cell 1 rfl
            refine region_later (by kernel_rfl) (by kernel_rfl) ?_
            repeat (go_big_quiet_step (fail))
            go_big_quiet_step (exact later (HM.out _ (hL2.after (Later.below _))))
            repeat (go_big_quiet_step (fail))
            go_big_quiet_step (exact later (HRM.out _ (hL2.after (Later.below _))))
            repeat (go_big_quiet_step (fail))
            go_big_quiet_step (exact later (HA.out _ (hL2.after (Later.below _))))
            repeat (go_big_quiet_step (fail))
            go_big_quiet_step (exact later (HRA.out _ (hL2.after (Later.below _))))
            repeat (go_big_quiet_step (fail))
            go_big_quiet_step (exact later (HC.out _ (hL2.after (Later.below _))))
            repeat (go_big_quiet_step (fail))
            go_big_quiet_step (exact later (HRC.out _ (hL2.after (Later.below _))))
            repeat (go_big_quiet_step (fail))
            refine wpQuiet_nil ?_
            rintro _ ⟨q, rfl⟩
            have hP3 := hP2.after q.below
            have hO3 := hO2.after q.below
            have hb3 := bel_step hb2 q.below
            clear L0 L1 hL2 hP2 hO2 hb2 HM HRM HA HRA HC HRC y10 y20 hxx
            generalize q.at_ = x3 at *
            have HT := Lib.hid (tame6_is T x3 (by omega))
            have HL := Lib.hid (letters6_is S x3 (by omega))
            have c0 := hP3.cell 0 (v := .string T) rfl
            go_wp2_with fail
            refine HT.out.mono ?_
            rintro e x4 ⟨⟨Y, rfl, hY9⟩, rfl⟩
            go_wp2_with fail
            refine HL.out.mono ?_
            rintro e x4 ⟨⟨Z, rfl, hZ9⟩, rfl⟩
            have f0 := hP3.frozen 0
            have hP5 : BlkAt _ w.heap.size #[.string Y, Lv] 25 := hP3.set 0 (.string Y)
            have hO5 := hO3.set 0 (.string Y)
            have hb5 := bel_set hb3 ⟨w.heap.size, 0, none⟩ (Nat.le_refl _) (.string Y)
            clear HT HL
            by_cases h1 : k = 1
            · have e1 : ((k : Int) == 1) = true := by rw [h1]; rfl
              clear h1
              have C0 := hP5.cell 0 (v := .string Y) rfl
              have HR := Lib.hid (patRaw_is Y (by omega))
              go_wp2_with fail
              refine (HR.out _).mono ?_
              rintro e x6 ⟨L6, v6, rfl, _, _, j6, hO6⟩
              have hO7 := hO6 w.heap.size hP5.lt
              obtain ⟨a6, p6, hL6, _, _⟩ := id hO7
              subst hL6
              have hP6 := hP5.after j6
              have hb6 := bel_step hb5 j6
              clear hO6 hP5 hO5 hb5 j6 HR
              unfold patV
              have c0 := hP6.cell 0 (v := .string Y) rfl
              have c1 := hP6.cell 1 (v := Lv) rfl
              have f0 := hP6.frozen 0
              have f1 := hP6.frozen 1
              have hP8 : BlkAt _ w.heap.size #[.string Y, .slice a6 v6.length p6] 25 := (hP6.set 0 (.string Y)).set 1 (.slice a6 v6.length p6)
              have hO8 := (hO7.set 0 (.string Y)).set 1 (.slice a6 v6.length p6)
              have hb8 := bel_set (bel_set hb6 ⟨w.heap.size, 0, none⟩ (Nat.le_refl _) (.string Y)) ⟨w.heap.size, 1, none⟩ (Nat.le_refl _) (.slice a6 v6.length p6)
              clear hO7
              go_wp2
              go_roundw
              case rel => exact ⟨k + 1, Y, Z, _, v6, by omega, by go_num, rfl, by omega, by omega, hP8, hO8, hb8⟩
              case measure => simp [intOf]; omega
            · have e1 : ((k : Int) == 1) = false := by rw [beq_eq_false_iff_ne]; omega
              clear h1
              go_wp2
              go_roundw
              case rel => exact ⟨k + 1, Y, Z, Lv, v, by omega, by go_num, rfl, by omega, by omega, hP5, hO5, hb5⟩
              case measure => simp [intOf]; omega
          · have HE := hb2
            clear hP2 hO2
            go_wp2_with fail
            refine (HW.out _).mono ?_
            rintro e v9 ⟨rfl, j9⟩
            go_wp2
            go_ret
            exact ⟨rfl, bel_step hb2 j9⟩
      · clear hO1
        go_wp2_with fail
        refine (HW.out _).mono ?_
        rintro e v9 ⟨rfl, j9⟩
        go_wp2
        go_ret
        exact ⟨rfl, bel_step hb1 j9⟩
    · clear hO1
      go_wp2_with fail
      refine (HW.out _).mono ?_
      rintro e v9 ⟨rfl, j9⟩
      go_wp2
      go_ret
      exact ⟨rfl, bel_step hb1 j9⟩
  · clear hO1
    go_wp2_with fail
    refine (HW.out _).mono ?_
    rintro e v9 ⟨rfl, j9⟩
    go_wp2
    go_ret
    exact ⟨rfl, bel_step hb1 j9⟩
end Go.Proofs.Ytmpneifjjnfckaa
