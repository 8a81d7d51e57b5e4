/-
  The walk of conchlaw6.PatPlain. (By wip/tools/gen_patplain.py.)
-/
import Derived.Test.YtmpneifjjnfckaaPatAwake
namespace Go.Proofs.Ytmpneifjjnfckaa
open Go.RowKit

theorem str_eq (a b : ByteArray) : decide (a.data.toList = b.data.toList) = (a.toList == b.toList) := by
  rw [Bool.eq_iff_iff, decide_eq_true_iff, beq_iff_eq, toList_data, toList_data]

set_option maxHeartbeats 8000000 in
set_option maxRecDepth 100000 in
theorem PatPlain_walk (s t T : ByteArray) (Lp : Value) (vp : List Bool) (w : World) (hL : LiveAt w Lp vp) : Calls Try.prog 5 #[.string s, .string t, patV T Lp] w (Gives w (.bool true)) := by
  have HW := Lib.hid awake6_is
  obtain ⟨wA, hwA, hb1, hP1⟩ := lay_pat w T Lp
  have hL0 := Lib.hid hL
  clear hL
  have hss : (s.toList == s.toList) = true := by simp
  unfold patV
  have c0 := hP1.cell 0 (v := .string T) rfl
  go_enter Try.func5, Try.ntmps5
  by_cases hs : s.size ≤ 100
  · by_cases ht : t.size ≤ 100
    · by_cases hT : T.size ≤ 100
      · skip
        have HPl := Lib.hid (patPlain_is s (by omega))
        go_wp2_with fail
        clear c0
        refine (HPl.out _).mono ?_
        rintro e w2 ⟨L1, v1, rfl, hL1, hv1, j1, _⟩
        have hb2 := bel_step hb1 j1
        have hP2 := hP1.after j1
        clear hb1 hP1 j1 HPl hwA
        obtain ⟨a1, p1, hLL, hl1, hc1⟩ := id hL1
        subst hLL
        unfold patV
        have hX3 := BlkAt.new w2 #[.string s, .slice a1 v1.length p1] 25
        have hP3 := hP2.alloc (.cells #[.string s, .slice a1 v1.length p1] 25)
        have hb3 := bel_alloc hb2 (.cells #[.string s, .slice a1 v1.length p1] 25)
        have hLx3 := hL1.after (bel_alloc (Below.refl w2.heap.size w2) (.cells #[.string s, .slice a1 v1.length p1] 25))
        obtain ⟨U1, hU1⟩ : ∃ U, w2.alloc (.cells #[.string s, .slice a1 v1.length p1] 25) = U := ⟨_, rfl⟩
        rw [hU1] at hX3 hP3 hb3 hLx3
        have HU1 := Lib.hid hU1
        clear hU1 hL1 hl1 hc1 hb2 hP2
        have hA1 := patActive_is s (by omega) (.slice a1 v1.length p1) v1
        rw [act_dead hv1] at hA1
        have hM1 := patMatch_is s (by omega) (.slice a1 v1.length p1) v1 t (by omega)
        rw [pat_dead (act_dead hv1), str_eq s t] at hM1
        have hM2 := patMatch_is s (by omega) (.slice a1 v1.length p1) v1 s (by omega)
        rw [pat_dead (act_dead hv1), str_eq s s, hss] at hM2
        have hA2 := patActive_is T (by omega) Lp vp
        have hM3 : Hid (actB T.data.toList vp = false → ∀ w, LiveAt w Lp vp → Calls Try.prog 10 #[patV T Lp, .string t] w (Gives w (.bool (T.toList == t.toList)))) := Lib.hid (fun h w hl => by
          have := patMatch_is T (by omega) Lp vp t (by omega) w hl
          rwa [pat_dead h, str_eq T t] at this)
        have hM4 : Hid (actB T.data.toList vp = false → ∀ w, LiveAt w Lp vp → Calls Try.prog 10 #[patV T Lp, .string T] w (Gives w (.bool true))) := Lib.hid (fun h w hl => by
          have := patMatch_is T (by omega) Lp vp T (by omega) w hl
          rwa [pat_dead h, str_eq T T, show (T.toList == T.toList) = true by simp] at this)
        generalize actB T.data.toList vp = ya at *
        generalize hq1 : (s.toList == t.toList) = q1 at *
        generalize hq2 : (T.toList == t.toList) = q2 at *
        have q10 : (q1 != q1) = false := by cases q1 <;> rfl
        have q20 : (q2 != q2) = false := by cases q2 <;> rfl
        unfold patV at hA1 hM1 hM2 hA2 hM3 hM4
        have HA1 := Lib.hid hA1
        have HM1 := Lib.hid hM1
        have HM2 := Lib.hid hM2
        have HA2 := Lib.hid hA2
        clear hA1 hM1 hM2 hA2
        go_upto_region 4 with fail
        rw [HU1.out]
        clear HU1
        have d0 := hX3.cell 0 (v := .string s) rfl
        have d1 := hX3.cell 1 (v := (.slice a1 v1.length p1)) rfl
        go_wp2_with fail
        clear d0 d1
        refine (HA1.out _ hLx3).mono ?_
        rintro e x3 ⟨rfl, j3⟩
        have hP4 := hP3.after j3
        have hX4 := hX3.after j3
        have hLx4 := hLx3.after j3
        have hb4 := bel_step hb3 j3
        clear hP3 hX3 hLx3 hb3 j3
        have d0 := hX4.cell 0 (v := .string s) rfl
        have d1 := hX4.cell 1 (v := (.slice a1 v1.length p1)) rfl
        go_wp2_with fail
        clear d0 d1
        refine (HM1.out _ hLx4).mono ?_
        rintro e x4 ⟨rfl, j4⟩
        have hP5 := hP4.after j4
        have hX5 := hX4.after j4
        have hLx5 := hLx4.after j4
        have hb5 := bel_step hb4 j4
        clear hP4 hX4 hLx4 hb4 j4
        have d0 := hX5.cell 0 (v := .string s) rfl
        have d1 := hX5.cell 1 (v := (.slice a1 v1.length p1)) rfl
        go_wp2_with fail
        clear d0 d1
        refine (HM2.out _ hLx5).mono ?_
        rintro e x5 ⟨rfl, j5⟩
        have hP6 := hP5.after j5
        have hX6 := hX5.after j5
        have hLx6 := hLx5.after j5
        have hb6 := bel_step hb5 j5
        clear hP5 hX5 hLx5 hb5 j5
        have hPw := hP6
        have hbw := hb6
        clear hP6 hb6 hX6 hLx6 HA1 HM1 HM2
        generalize x5 = xw at *
        cases ya with
        | true =>
          go_wp2
          have L0 : ∀ q : Later xw, q.at_.cell? ⟨w.heap.size, 0, none⟩ = some (.string T) := fun q => (hPw.after q.below).cell 0 rfl
          have L1 : ∀ q : Later xw, q.at_.cell? ⟨w.heap.size, 1, none⟩ = some Lp := fun q => (hPw.after q.below).cell 1 rfl
          have hLq := hL0.out.after hbw
          refine region_later (by kernel_rfl) (by kernel_rfl) ?_
          repeat (go_big_quiet_step (fail))
          go_big_quiet_step (exact later (HA2.out _ (hLq.after (Later.below _))))
          repeat (go_big_quiet_step (fail))
          refine wpQuiet_nil ?_
          rintro _ ⟨q, rfl⟩
          have hbe := bel_step hbw q.below
          clear L0 L1 hLq hPw hbw
          generalize q.at_ = xe at *
          have HRw := Lib.hid (patRaw_is s (by omega))
          go_wp2_with fail
          refine (HRw.out _).mono ?_
          rintro e z1 ⟨L2, v2, rfl, hL2, hv2, jz, _⟩
          obtain rfl : v2 = List.replicate s.size true := hv2
          have hbz := bel_step hbe jz
          clear hbe jz HRw
          obtain ⟨a2, p2, hLL, _, hc2⟩ := hL2
          subst hLL
          rw [List.length_replicate]
          unfold patV
          have hY := BlkAt.new z1 #[.string s, .slice a2 s.size p2] 25
          have hbY := bel_alloc hbz (.cells #[.string s, .slice a2 s.size p2] 25)
          have HC : Hid (∀ k, k < s.size → ∃ b o, a2 = some ⟨b, o, none⟩ ∧ (z1.alloc (.cells #[.string s, .slice a2 s.size p2] 25)).cell? ⟨b, o + k, none⟩ = some (.bool true)) := Lib.hid (fun k hk => by
            obtain ⟨b, o, g1, g2⟩ := hc2 k true (by rw [List.getElem?_replicate, if_pos hk])
            exact ⟨b, o, g1, cell_after g2 (bel_alloc (Below.refl _ _) _)⟩)
          obtain ⟨U, hU⟩ : ∃ U, z1.alloc (.cells #[.string s, .slice a2 s.size p2] 25) = U := ⟨_, rfl⟩
          rw [hU] at hY hbY HC
          have HU := Lib.hid hU
          clear hU hc2 hbz
          go_upto_region 9 with fail
          rw [HU.out]
          clear HU
          have g0 := hY.cell 0 (v := .string s) rfl
          have g1 := hY.cell 1 (v := .slice a2 s.size p2) rfl
          go_wp2
          go_loop [9, 10] (fun g z => ∃ k : Nat, k ≤ s.size ∧ z = .int .i64 (k : Int) ∧ g = .bool true) (fun _ z => s.size - (intOf z).toNat)
          case atStart => exact ⟨0, Nat.zero_le _, rfl, rfl⟩
          case round =>
            obtain ⟨k, hk9, rfl, rfl⟩ := hrel
            by_cases hk : k < s.size
            · obtain ⟨b, o, hao, hcell⟩ := HC.out k hk
              subst hao
              go_wp2
              go_round
              case rel => exact ⟨k + 1, by omega, by go_num, rfl⟩
              case measure => simp [intOf]; omega
            · clear HC
              go_wp2_with fail
              refine (HW.out _).mono ?_
              rintro e v9 ⟨rfl, j9⟩
              go_wp2
              go_ret
              exact ⟨rfl, bel_step hbY j9⟩
        | false =>
          have HM3 := Lib.hid (hM3.out rfl)
          have HM4 := Lib.hid (hM4.out rfl)
          go_wp2
          have L0 : ∀ q : Later xw, q.at_.cell? ⟨w.heap.size, 0, none⟩ = some (.string T) := fun q => (hPw.after q.below).cell 0 rfl
          have L1 : ∀ q : Later xw, q.at_.cell? ⟨w.heap.size, 1, none⟩ = some Lp := fun q => (hPw.after q.below).cell 1 rfl
          have hLq := hL0.out.after hbw
          refine region_later (by kernel_rfl) (by kernel_rfl) ?_
          repeat (go_big_quiet_step (fail))
          go_big_quiet_step (exact later (HA2.out _ (hLq.after (Later.below _))))
          repeat (go_big_quiet_step (fail))
          go_big_quiet_step (exact later (HM3.out _ (hLq.after (Later.below _))))
          repeat (go_big_quiet_step (fail))
          go_big_quiet_step (exact later (HM4.out _ (hLq.after (Later.below _))))
          repeat (go_big_quiet_step (fail))
          refine wpQuiet_nil ?_
          rintro _ ⟨q, rfl⟩
          have hbe := bel_step hbw q.below
          clear L0 L1 hLq hPw hbw
          generalize q.at_ = xe at *
          have HRw := Lib.hid (patRaw_is s (by omega))
          go_wp2_with fail
          refine (HRw.out _).mono ?_
          rintro e z1 ⟨L2, v2, rfl, hL2, hv2, jz, _⟩
          obtain rfl : v2 = List.replicate s.size true := hv2
          have hbz := bel_step hbe jz
          clear hbe jz HRw
          obtain ⟨a2, p2, hLL, _, hc2⟩ := hL2
          subst hLL
          rw [List.length_replicate]
          unfold patV
          have hY := BlkAt.new z1 #[.string s, .slice a2 s.size p2] 25
          have hbY := bel_alloc hbz (.cells #[.string s, .slice a2 s.size p2] 25)
          have HC : Hid (∀ k, k < s.size → ∃ b o, a2 = some ⟨b, o, none⟩ ∧ (z1.alloc (.cells #[.string s, .slice a2 s.size p2] 25)).cell? ⟨b, o + k, none⟩ = some (.bool true)) := Lib.hid (fun k hk => by
            obtain ⟨b, o, g1, g2⟩ := hc2 k true (by rw [List.getElem?_replicate, if_pos hk])
            exact ⟨b, o, g1, cell_after g2 (bel_alloc (Below.refl _ _) _)⟩)
          obtain ⟨U, hU⟩ : ∃ U, z1.alloc (.cells #[.string s, .slice a2 s.size p2] 25) = U := ⟨_, rfl⟩
          rw [hU] at hY hbY HC
          have HU := Lib.hid hU
          clear hU hc2 hbz
          go_upto_region 9 with fail
          rw [HU.out]
          clear HU
          have g0 := hY.cell 0 (v := .string s) rfl
          have g1 := hY.cell 1 (v := .slice a2 s.size p2) rfl
          go_wp2
          go_loop [9, 10] (fun g z => ∃ k : Nat, k ≤ s.size ∧ z = .int .i64 (k : Int) ∧ g = .bool true) (fun _ z => s.size - (intOf z).toNat)
          case atStart => exact ⟨0, Nat.zero_le _, rfl, rfl⟩
          case round =>
            obtain ⟨k, hk9, rfl, rfl⟩ := hrel
            by_cases hk : k < s.size
            · obtain ⟨b, o, hao, hcell⟩ := HC.out k hk
              subst hao
              go_wp2
              go_round
              case rel => exact ⟨k + 1, by omega, by go_num, rfl⟩
              case measure => simp [intOf]; omega
            · clear HC
              go_wp2_with fail
              refine (HW.out _).mono ?_
              rintro e v9 ⟨rfl, j9⟩
              go_wp2
              go_ret
              exact ⟨rfl, bel_step hbY j9⟩
      · skip
        go_wp2_with fail
        refine (HW.out _).mono ?_
        rintro e v9 ⟨rfl, j9⟩
        go_wp2
        go_ret
        exact ⟨rfl, bel_step hb1 j9⟩
    · skip
      go_wp2_with fail
      refine (HW.out _).mono ?_
      rintro e v9 ⟨rfl, j9⟩
      go_wp2
      go_ret
      exact ⟨rfl, bel_step hb1 j9⟩
  · skip
    go_wp2_with fail
    refine (HW.out _).mono ?_
    rintro e v9 ⟨rfl, j9⟩
    go_wp2
    go_ret
    exact ⟨rfl, bel_step hb1 j9⟩
end Go.Proofs.Ytmpneifjjnfckaa
