/-
  The walk of conchlaw4.ShapeLits. (By wip/tools/gen_shlits.py.)
-/
import Derived.Test.YtboiplanipgidaaShNone
namespace Go.Proofs.Ytboiplanipgidaa
open Go.RowKit

theorem loose_ok {x : Sh} (h : OkP x) : OkP (looseSh x) := ⟨h.zero, fun h => (by cases h), fun _ => rfl⟩
theorem leq_loose {x : Sh} (h : OkP x) : leqP x (looseSh x) = true := (leqP_iff h (loose_ok h)).2 ⟨id, id, fun _ _ => id, fun h => (by cases h)⟩
theorem lit_u (s : ByteArray) : (litSh s).u = false := by
  rcases Bool.eq_false_or_eq_true (keptB s) with h | h
  · rw [litSh_k s h]
  · rw [litSh_n s h]; rfl
theorem lit_k (s : ByteArray) : (litSh s).k = keptB s := by
  rcases Bool.eq_false_or_eq_true (keptB s) with h | h
  · rw [litSh_k s h, h]
  · rw [litSh_n s h, h]; rfl
theorem lit_e (s : ByteArray) : (litSh s).e = empB s := by
  rcases Bool.eq_false_or_eq_true (keptB s) with h | h
  · rw [litSh_k s h]
  · rw [litSh_n s h]; rfl
theorem lit_h (s : ByteArray) (c : Nat) : (litSh s).h c = nz (ofS s.data.toList) c := by
  rcases Bool.eq_false_or_eq_true (keptB s) with h | h
  · rw [litSh_k s h]
    show ofS s.data.toList c = _
    unfold nz
    by_cases hc : c = 0
    · subst hc; rw [((kept_iff s).1 h).2]; rfl
    · simp [hc]
  · rw [litSh_n s h]; rfl
theorem may_loose (s : ByteArray) (hz : ofS s.data.toList 0 = false) : mayB (looseSh (litSh s)) true s = true :=
  (may_iff (loose_ok (litSh_ok s)) s).2 ⟨fun h => (by cases h), fun h => (lit_e s).trans h, fun c _ h => by
    show (litSh s).h c = true
    rw [lit_h]
    unfold nz
    rw [h]
    by_cases hc : c = 0
    · subst hc; exact no_both h hz
    · simp [hc]⟩
theorem may_lit (s : ByteArray) (hz : ofS s.data.toList 0 = false) : mayB (litSh s) true s = true := by
  obtain ⟨_, p2, p3⟩ := (may_iff (loose_ok (litSh_ok s)) s).1 (may_loose s hz)
  refine (may_iff (litSh_ok s) s).2 ⟨fun h => ?_, p2, p3⟩
  rw [litSh_k s (by rw [← lit_k]; exact h)]
theorem of_loose (s : ByteArray) : sameSh (ofSh (ofS s.data.toList) (empB s)) (looseSh (litSh s)) = true :=
  (sameSh_iff _ _).2 ⟨(lit_u s).symm, (lit_e s).symm, fun c _ => (lit_h s c).symm, rfl, rfl⟩
theorem may_f (s : ByteArray) (v : ByteArray) : mayB (litSh s) false v = false := lit_u s
theorem may_t (s t : ByteArray) (h : keptB s = true) : mayB (litSh s) true t = (s.toList == t.toList) := by
  rw [litSh_k s h]; rfl

set_option maxHeartbeats 8000000 in
set_option maxRecDepth 100000 in
theorem ShapeLits_walk (s t : ByteArray) (w : World) : Calls Try.prog 7 #[.string s, .string t] w (Gives w (.bool true)) := by
  have HW := Lib.hid awake_is
  by_cases hs : s.size ≤ 150
  · by_cases ht : t.size ≤ 150
    · have HLit := Lib.hid (Lit_is s (by omega))
      have hOk := Ok_is (litSh s)
      have HLo := Lib.hid (Loose_is (litSh s))
      have hM := May_is (litSh s) true s (by omega)
      have hMf := May_is (litSh s) false ⟨#[]⟩ (by decide)
      have hMt := May_is (litSh s) true t (by omega)
      have hMl := May_is (looseSh (litSh s)) true s (by omega)
      have hLe := Leq_is (litSh s) (looseSh (litSh s)) (ok_len (litSh_ok s))
      have HO := Lib.hid (Of_is s (by omega))
      have HSo := Lib.hid (OfSh_is (ofS s.data.toList) (empB s))
      have hE := run_eq_shape (ofSh (ofS s.data.toList) (empB s)) (looseSh (litSh s))
      rw [(okB_iff _).2 (litSh_ok s)] at hOk
      rw [may_f] at hMf
      rw [leq_loose (litSh_ok s)] at hLe
      rw [of_loose] at hE
      have HM : Hid (ofS s.data.toList 0 = false → ∀ w, Calls Try.prog 11 #[shV (litSh s), .bool true, .string s] w (Gives w (.bool true))) := Lib.hid fun h => by
        rw [may_lit s h] at hM; exact hM
      have HMl : Hid (ofS s.data.toList 0 = false → ∀ w, Calls Try.prog 11 #[shV (looseSh (litSh s)), .bool true, .string s] w (Gives w (.bool true))) := Lib.hid fun h => by
        rw [may_loose s h] at hMl; exact hMl
      have HMt : Hid (keptB s = true → ∀ w, Calls Try.prog 11 #[shV (litSh s), .bool true, .string t] w (Gives w (.bool (s.toList == t.toList)))) := Lib.hid fun h => by
        rw [may_t s t h] at hMt; exact hMt
      have HOk := Lib.hid hOk
      have HMf := Lib.hid hMf
      have HLe := Lib.hid hLe
      have HU := Lib.hid (lit_u s)
      have HK : Hid ((litSh s).k = (decide (s.size ≤ 64) && !ofS s.data.toList 0)) := Lib.hid (lit_k s)
      have HKK : Hid (keptB s = (decide (s.size ≤ 64) && !ofS s.data.toList 0)) := Lib.hid rfl
      clear hOk hM hMf hMt hMl hLe
      generalize litSh s = x at *
      obtain ⟨xu, xe, xh, xk, xl⟩ := x
      have hu : xu = false := HU.out
      have hk0 : xk = (decide (s.size ≤ 64) && !ofS s.data.toList 0) := HK.out
      have e1 : empB s = s.toList.isEmpty := rfl
      rw [e1] at HSo hE
      have HK0 := Lib.hid hk0
      clear HU HK e1 hk0
      subst hu
      dsimp only [looseSh, ofSh, shV, setV] at HLit HOk HLo HM HMf HMt HMl HLe HO HSo hE
      go_enter Try.func7, Try.ntmps7
      go_wp2_with fail
      refine (HLit.out _).mono ?_
      rintro e w1 ⟨rfl, hb1⟩
      have hX := ShAt.new w1 ⟨false, xe, xh, xk, xl⟩
      have hbW := bel_alloc hb1 (.cells #[.bool false, .bool xe, .int .u64 (wd xh 0 : Nat), .int .u64 (wd xh 1 : Nat), .int .u64 (wd xh 2 : Nat), .int .u64 (wd xh 3 : Nat), .bool xk, .string xl] 26)
      dsimp only at hX
      go_wp2
      generalize w1.alloc (.cells #[.bool false, .bool xe, .int .u64 (wd xh 0 : Nat), .int .u64 (wd xh 1 : Nat), .int .u64 (wd xh 2 : Nat), .int .u64 (wd xh 3 : Nat), .bool xk, .string xl] 26) = W at *
      clear hb1 HLit
      go_loop [6, 7] (fun z i => ∃ k : Nat, k ≤ s.size ∧ z = .bool (ofS (s.data.toList.take k) 0) ∧ i = .int .i64 k) (fun _ i => s.size - (intOf i).toNat)
      case atStart => exact ⟨0, Nat.zero_le _, by simp [ofS], rfl⟩
      case round =>
        obtain ⟨k, hks, rfl, rfl⟩ := hrel
        by_cases hk : k < s.size
        · have hi0 : (0 : Int) ≤ (k : Int) := by omega
          have hi1 : (k : Int) < (s.size : Int) := by omega
          have HS : Hid (ofS (s.data.toList.take (k + 1)) 0 = (ofS (s.data.toList.take k) 0 || decide (0 = s[k].toNat))) := Lib.hid (by rw [byte_snoc s k hk, ofS_snoc]; rfl)
          cases hz0 : ofS (s.data.toList.take k) 0 with
          | true =>
            have HS2 : Hid (ofS (s.data.toList.take (k + 1)) 0 = true) := Lib.hid (by rw [HS.out, hz0]; rfl)
            clear HS hz0
            go_wp2
            go_round
            case rel => exact ⟨k + 1, by omega, by rw [HS2.out], rfl⟩
            case measure => simp [intOf]; omega
          | false =>
            by_cases hzb : s[k].toNat = 0
            · have HS2 : Hid (ofS (s.data.toList.take (k + 1)) 0 = true) := Lib.hid (by rw [HS.out, hz0, hzb]; rfl)
              have hz2 : ((s[k].toNat : Int) == 0) = true := by rw [hzb]; rfl
              clear HS hz0 hzb
              go_wp2
              go_round
              case rel => exact ⟨k + 1, by omega, by rw [HS2.out], rfl⟩
              case measure => simp [intOf]; omega
            · have HS2 : Hid (ofS (s.data.toList.take (k + 1)) 0 = false) := Lib.hid (by rw [HS.out, hz0, decide_eq_false (Ne.symm hzb)]; rfl)
              have hz2 : ((s[k].toNat : Int) == 0) = false := by rw [beq_eq_false_iff_ne]; omega
              clear HS hz0 hzb
              go_wp2
              go_round
              case rel => exact ⟨k + 1, by omega, by rw [HS2.out], rfl⟩
              case measure => simp [intOf]; omega
        · have hk2 : k = s.size := by omega
          rw [hk2, ofS_take_all]
          clear hk
          by_cases h64 : s.size ≤ 64
          · cases hz : ofS s.data.toList 0 with
            | true =>
              have hxk : xk = false := by rw [HK0.out, hz, Bool.not_true, Bool.and_false]
              subst hxk
              clear HM HMl HMt HK0 HKK hz
              obtain ⟨c0, c1, c2, c3, c4, c5, c6, c7⟩ := hX.cells
              go_wp2_with fail
              clear c0 c1 c2 c3 c4 c5 c6 c7
              refine (HOk.out _).mono ?_
              rintro e y1 ⟨rfl, k1⟩
              have hX1 := hX.after k1
              have hb1 := bel_step hbW k1
              clear hX k1
              obtain ⟨c0, c1, c2, c3, c4, c5, c6, c7⟩ := hX1.cells
              go_wp2_with fail
              clear c0 c1 c2 c3 c4 c5 c6 c7
              refine (HMf.out _).mono ?_
              rintro e y2 ⟨rfl, k2⟩
              have hX2 := hX1.after k2
              have hb2 := bel_step hb1 k2
              clear hX1 k2
              obtain ⟨c0, c1, c2, c3, c4, c5, c6, c7⟩ := hX2.cells
              go_wp2_with fail
              clear c0 c1 c2 c3 c4 c5 c6 c7
              refine (HLo.out _).mono ?_
              rintro e y3 ⟨rfl, k3⟩
              have hX3 := hX2.after k3
              have hb3 := bel_step hb2 k3
              clear hX2 k3
              have hL := ShAt.new y3 ⟨false, xe, xh, false, ⟨#[]⟩⟩
              have hXX := hX3.alloc (.cells #[.bool false, .bool xe, .int .u64 (wd xh 0 : Nat), .int .u64 (wd xh 1 : Nat), .int .u64 (wd xh 2 : Nat), .int .u64 (wd xh 3 : Nat), .bool false, .string ⟨#[]⟩] 26)
              have hbb := bel_alloc hb3 (.cells #[.bool false, .bool xe, .int .u64 (wd xh 0 : Nat), .int .u64 (wd xh 1 : Nat), .int .u64 (wd xh 2 : Nat), .int .u64 (wd xh 3 : Nat), .bool false, .string ⟨#[]⟩] 26)
              dsimp only at hL
              go_wp2
              generalize y3.alloc (.cells #[.bool false, .bool xe, .int .u64 (wd xh 0 : Nat), .int .u64 (wd xh 1 : Nat), .int .u64 (wd xh 2 : Nat), .int .u64 (wd xh 3 : Nat), .bool false, .string ⟨#[]⟩] 26) = V at *
              obtain ⟨L0, L1, L2, L3, L4, L5, L6, L7⟩ := hXX.laters
              obtain ⟨M0, M1, M2, M3, M4, M5, M6, M7⟩ := hL.laters
              dsimp only at L0 L1 L2 L3 L4 L5 L6 L7 M0 M1 M2 M3 M4 M5 M6 M7
              refine region_later (by kernel_rfl) (by kernel_rfl) ?_
              repeat (go_big_quiet_step (fail))
              go_big_quiet_step (exact later (HLe.out _))
              repeat (go_big_quiet_step (fail))
              go_big_quiet_step (exact later (HO.out _))
              repeat (go_big_quiet_step (fail))
              go_big_quiet_step (exact later (HSo.out _))
              repeat (go_big_quiet_step (fail))
              go_big_quiet_step (exact later (HW.out _))
              repeat (go_big_quiet_step (fail))
              refine wpQuiet_nil ?_
              rintro _ ⟨y, rfl⟩
              go_wp2
              go_ret
              exact ⟨rfl, bel_step hbb y.below⟩
            | false =>
              have HM2 := Lib.hid (HM.out hz)
              have HMl2 := Lib.hid (HMl.out hz)
              have HMt2 := Lib.hid (HMt.out (by rw [HKK.out, hz, decide_eq_true h64]; rfl))
              have hxk : xk = true := by rw [HK0.out, hz, decide_eq_true h64]; rfl
              subst hxk
              clear HM HMl HMt HK0 HKK hz
              cases hq : (s.toList == t.toList) with
              | true =>
                rw [hq] at HMt2
                obtain ⟨c0, c1, c2, c3, c4, c5, c6, c7⟩ := hX.cells
                go_wp2_with fail
                clear c0 c1 c2 c3 c4 c5 c6 c7
                refine (HOk.out _).mono ?_
                rintro e y1 ⟨rfl, k1⟩
                have hX1 := hX.after k1
                have hb1 := bel_step hbW k1
                clear hX k1
                obtain ⟨c0, c1, c2, c3, c4, c5, c6, c7⟩ := hX1.cells
                go_wp2_with fail
                clear c0 c1 c2 c3 c4 c5 c6 c7
                refine (HM2.out _).mono ?_
                rintro e y2 ⟨rfl, k2⟩
                have hX2 := hX1.after k2
                have hb2 := bel_step hb1 k2
                clear hX1 k2
                obtain ⟨c0, c1, c2, c3, c4, c5, c6, c7⟩ := hX2.cells
                go_wp2_with fail
                clear c0 c1 c2 c3 c4 c5 c6 c7
                refine (HMf.out _).mono ?_
                rintro e y3 ⟨rfl, k3⟩
                have hX3 := hX2.after k3
                have hb3 := bel_step hb2 k3
                clear hX2 k3
                obtain ⟨c0, c1, c2, c3, c4, c5, c6, c7⟩ := hX3.cells
                go_wp2_with fail
                clear c0 c1 c2 c3 c4 c5 c6 c7
                refine (HLo.out _).mono ?_
                rintro e y4 ⟨rfl, k4⟩
                have hX4 := hX3.after k4
                have hb4 := bel_step hb3 k4
                clear hX3 k4
                have hL := ShAt.new y4 ⟨false, xe, xh, false, ⟨#[]⟩⟩
                have hXX := hX4.alloc (.cells #[.bool false, .bool xe, .int .u64 (wd xh 0 : Nat), .int .u64 (wd xh 1 : Nat), .int .u64 (wd xh 2 : Nat), .int .u64 (wd xh 3 : Nat), .bool false, .string ⟨#[]⟩] 26)
                have hbb := bel_alloc hb4 (.cells #[.bool false, .bool xe, .int .u64 (wd xh 0 : Nat), .int .u64 (wd xh 1 : Nat), .int .u64 (wd xh 2 : Nat), .int .u64 (wd xh 3 : Nat), .bool false, .string ⟨#[]⟩] 26)
                dsimp only at hL
                go_wp2
                generalize y4.alloc (.cells #[.bool false, .bool xe, .int .u64 (wd xh 0 : Nat), .int .u64 (wd xh 1 : Nat), .int .u64 (wd xh 2 : Nat), .int .u64 (wd xh 3 : Nat), .bool false, .string ⟨#[]⟩] 26) = V at *
                obtain ⟨L0, L1, L2, L3, L4, L5, L6, L7⟩ := hXX.laters
                obtain ⟨M0, M1, M2, M3, M4, M5, M6, M7⟩ := hL.laters
                dsimp only at L0 L1 L2 L3 L4 L5 L6 L7 M0 M1 M2 M3 M4 M5 M6 M7
                refine region_later (by kernel_rfl) (by kernel_rfl) ?_
                repeat (go_big_quiet_step (fail))
                go_big_quiet_step (exact later (HMt2.out _))
                repeat (go_big_quiet_step (fail))
                go_big_quiet_step (exact later (HMl2.out _))
                repeat (go_big_quiet_step (fail))
                go_big_quiet_step (exact later (HLe.out _))
                repeat (go_big_quiet_step (fail))
                go_big_quiet_step (exact later (HO.out _))
                repeat (go_big_quiet_step (fail))
                go_big_quiet_step (exact later (HSo.out _))
                repeat (go_big_quiet_step (fail))
                go_big_quiet_step (exact later (HW.out _))
                repeat (go_big_quiet_step (fail))
                refine wpQuiet_nil ?_
                rintro _ ⟨y, rfl⟩
                go_wp2
                go_ret
                exact ⟨rfl, bel_step hbb y.below⟩
              | false =>
                rw [hq] at HMt2
                obtain ⟨c0, c1, c2, c3, c4, c5, c6, c7⟩ := hX.cells
                go_wp2_with fail
                clear c0 c1 c2 c3 c4 c5 c6 c7
                refine (HOk.out _).mono ?_
                rintro e y1 ⟨rfl, k1⟩
                have hX1 := hX.after k1
                have hb1 := bel_step hbW k1
                clear hX k1
                obtain ⟨c0, c1, c2, c3, c4, c5, c6, c7⟩ := hX1.cells
                go_wp2_with fail
                clear c0 c1 c2 c3 c4 c5 c6 c7
                refine (HM2.out _).mono ?_
                rintro e y2 ⟨rfl, k2⟩
                have hX2 := hX1.after k2
                have hb2 := bel_step hb1 k2
                clear hX1 k2
                obtain ⟨c0, c1, c2, c3, c4, c5, c6, c7⟩ := hX2.cells
                go_wp2_with fail
                clear c0 c1 c2 c3 c4 c5 c6 c7
                refine (HMf.out _).mono ?_
                rintro e y3 ⟨rfl, k3⟩
                have hX3 := hX2.after k3
                have hb3 := bel_step hb2 k3
                clear hX2 k3
                obtain ⟨c0, c1, c2, c3, c4, c5, c6, c7⟩ := hX3.cells
                go_wp2_with fail
                clear c0 c1 c2 c3 c4 c5 c6 c7
                refine (HLo.out _).mono ?_
                rintro e y4 ⟨rfl, k4⟩
                have hX4 := hX3.after k4
                have hb4 := bel_step hb3 k4
                clear hX3 k4
                have hL := ShAt.new y4 ⟨false, xe, xh, false, ⟨#[]⟩⟩
                have hXX := hX4.alloc (.cells #[.bool false, .bool xe, .int .u64 (wd xh 0 : Nat), .int .u64 (wd xh 1 : Nat), .int .u64 (wd xh 2 : Nat), .int .u64 (wd xh 3 : Nat), .bool false, .string ⟨#[]⟩] 26)
                have hbb := bel_alloc hb4 (.cells #[.bool false, .bool xe, .int .u64 (wd xh 0 : Nat), .int .u64 (wd xh 1 : Nat), .int .u64 (wd xh 2 : Nat), .int .u64 (wd xh 3 : Nat), .bool false, .string ⟨#[]⟩] 26)
                dsimp only at hL
                go_wp2
                generalize y4.alloc (.cells #[.bool false, .bool xe, .int .u64 (wd xh 0 : Nat), .int .u64 (wd xh 1 : Nat), .int .u64 (wd xh 2 : Nat), .int .u64 (wd xh 3 : Nat), .bool false, .string ⟨#[]⟩] 26) = V at *
                obtain ⟨L0, L1, L2, L3, L4, L5, L6, L7⟩ := hXX.laters
                obtain ⟨M0, M1, M2, M3, M4, M5, M6, M7⟩ := hL.laters
                dsimp only at L0 L1 L2 L3 L4 L5 L6 L7 M0 M1 M2 M3 M4 M5 M6 M7
                refine region_later (by kernel_rfl) (by kernel_rfl) ?_
                repeat (go_big_quiet_step (fail))
                go_big_quiet_step (exact later (HMt2.out _))
                repeat (go_big_quiet_step (fail))
                go_big_quiet_step (exact later (HMl2.out _))
                repeat (go_big_quiet_step (fail))
                go_big_quiet_step (exact later (HLe.out _))
                repeat (go_big_quiet_step (fail))
                go_big_quiet_step (exact later (HO.out _))
                repeat (go_big_quiet_step (fail))
                go_big_quiet_step (exact later (HSo.out _))
                repeat (go_big_quiet_step (fail))
                go_big_quiet_step (exact later (HW.out _))
                repeat (go_big_quiet_step (fail))
                refine wpQuiet_nil ?_
                rintro _ ⟨y, rfl⟩
                go_wp2
                go_ret
                exact ⟨rfl, bel_step hbb y.below⟩
          · have hxk : xk = false := by rw [HK0.out, decide_eq_false h64, Bool.false_and]
            subst hxk
            cases hz : ofS s.data.toList 0 with
            | true =>
              clear HM HMl HMt HK0 HKK hz
              obtain ⟨c0, c1, c2, c3, c4, c5, c6, c7⟩ := hX.cells
              go_wp2_with fail
              clear c0 c1 c2 c3 c4 c5 c6 c7
              refine (HOk.out _).mono ?_
              rintro e y1 ⟨rfl, k1⟩
              have hX1 := hX.after k1
              have hb1 := bel_step hbW k1
              clear hX k1
              obtain ⟨c0, c1, c2, c3, c4, c5, c6, c7⟩ := hX1.cells
              go_wp2_with fail
              clear c0 c1 c2 c3 c4 c5 c6 c7
              refine (HMf.out _).mono ?_
              rintro e y2 ⟨rfl, k2⟩
              have hX2 := hX1.after k2
              have hb2 := bel_step hb1 k2
              clear hX1 k2
              obtain ⟨c0, c1, c2, c3, c4, c5, c6, c7⟩ := hX2.cells
              go_wp2_with fail
              clear c0 c1 c2 c3 c4 c5 c6 c7
              refine (HLo.out _).mono ?_
              rintro e y3 ⟨rfl, k3⟩
              have hX3 := hX2.after k3
              have hb3 := bel_step hb2 k3
              clear hX2 k3
              have hL := ShAt.new y3 ⟨false, xe, xh, false, ⟨#[]⟩⟩
              have hXX := hX3.alloc (.cells #[.bool false, .bool xe, .int .u64 (wd xh 0 : Nat), .int .u64 (wd xh 1 : Nat), .int .u64 (wd xh 2 : Nat), .int .u64 (wd xh 3 : Nat), .bool false, .string ⟨#[]⟩] 26)
              have hbb := bel_alloc hb3 (.cells #[.bool false, .bool xe, .int .u64 (wd xh 0 : Nat), .int .u64 (wd xh 1 : Nat), .int .u64 (wd xh 2 : Nat), .int .u64 (wd xh 3 : Nat), .bool false, .string ⟨#[]⟩] 26)
              dsimp only at hL
              go_wp2
              generalize y3.alloc (.cells #[.bool false, .bool xe, .int .u64 (wd xh 0 : Nat), .int .u64 (wd xh 1 : Nat), .int .u64 (wd xh 2 : Nat), .int .u64 (wd xh 3 : Nat), .bool false, .string ⟨#[]⟩] 26) = V at *
              obtain ⟨L0, L1, L2, L3, L4, L5, L6, L7⟩ := hXX.laters
              obtain ⟨M0, M1, M2, M3, M4, M5, M6, M7⟩ := hL.laters
              dsimp only at L0 L1 L2 L3 L4 L5 L6 L7 M0 M1 M2 M3 M4 M5 M6 M7
              refine region_later (by kernel_rfl) (by kernel_rfl) ?_
              repeat (go_big_quiet_step (fail))
              go_big_quiet_step (exact later (HLe.out _))
              repeat (go_big_quiet_step (fail))
              go_big_quiet_step (exact later (HO.out _))
              repeat (go_big_quiet_step (fail))
              go_big_quiet_step (exact later (HSo.out _))
              repeat (go_big_quiet_step (fail))
              go_big_quiet_step (exact later (HW.out _))
              repeat (go_big_quiet_step (fail))
              refine wpQuiet_nil ?_
              rintro _ ⟨y, rfl⟩
              go_wp2
              go_ret
              exact ⟨rfl, bel_step hbb y.below⟩
            | false =>
              have HM2 := Lib.hid (HM.out hz)
              have HMl2 := Lib.hid (HMl.out hz)
              clear HM HMl HMt HK0 HKK hz
              obtain ⟨c0, c1, c2, c3, c4, c5, c6, c7⟩ := hX.cells
              go_wp2_with fail
              clear c0 c1 c2 c3 c4 c5 c6 c7
              refine (HOk.out _).mono ?_
              rintro e y1 ⟨rfl, k1⟩
              have hX1 := hX.after k1
              have hb1 := bel_step hbW k1
              clear hX k1
              obtain ⟨c0, c1, c2, c3, c4, c5, c6, c7⟩ := hX1.cells
              go_wp2_with fail
              clear c0 c1 c2 c3 c4 c5 c6 c7
              refine (HM2.out _).mono ?_
              rintro e y2 ⟨rfl, k2⟩
              have hX2 := hX1.after k2
              have hb2 := bel_step hb1 k2
              clear hX1 k2
              obtain ⟨c0, c1, c2, c3, c4, c5, c6, c7⟩ := hX2.cells
              go_wp2_with fail
              clear c0 c1 c2 c3 c4 c5 c6 c7
              refine (HMf.out _).mono ?_
              rintro e y3 ⟨rfl, k3⟩
              have hX3 := hX2.after k3
              have hb3 := bel_step hb2 k3
              clear hX2 k3
              obtain ⟨c0, c1, c2, c3, c4, c5, c6, c7⟩ := hX3.cells
              go_wp2_with fail
              clear c0 c1 c2 c3 c4 c5 c6 c7
              refine (HLo.out _).mono ?_
              rintro e y4 ⟨rfl, k4⟩
              have hX4 := hX3.after k4
              have hb4 := bel_step hb3 k4
              clear hX3 k4
              have hL := ShAt.new y4 ⟨false, xe, xh, false, ⟨#[]⟩⟩
              have hXX := hX4.alloc (.cells #[.bool false, .bool xe, .int .u64 (wd xh 0 : Nat), .int .u64 (wd xh 1 : Nat), .int .u64 (wd xh 2 : Nat), .int .u64 (wd xh 3 : Nat), .bool false, .string ⟨#[]⟩] 26)
              have hbb := bel_alloc hb4 (.cells #[.bool false, .bool xe, .int .u64 (wd xh 0 : Nat), .int .u64 (wd xh 1 : Nat), .int .u64 (wd xh 2 : Nat), .int .u64 (wd xh 3 : Nat), .bool false, .string ⟨#[]⟩] 26)
              dsimp only at hL
              go_wp2
              generalize y4.alloc (.cells #[.bool false, .bool xe, .int .u64 (wd xh 0 : Nat), .int .u64 (wd xh 1 : Nat), .int .u64 (wd xh 2 : Nat), .int .u64 (wd xh 3 : Nat), .bool false, .string ⟨#[]⟩] 26) = V at *
              obtain ⟨L0, L1, L2, L3, L4, L5, L6, L7⟩ := hXX.laters
              obtain ⟨M0, M1, M2, M3, M4, M5, M6, M7⟩ := hL.laters
              dsimp only at L0 L1 L2 L3 L4 L5 L6 L7 M0 M1 M2 M3 M4 M5 M6 M7
              refine region_later (by kernel_rfl) (by kernel_rfl) ?_
              repeat (go_big_quiet_step (fail))
              go_big_quiet_step (exact later (HMl2.out _))
              repeat (go_big_quiet_step (fail))
              go_big_quiet_step (exact later (HLe.out _))
              repeat (go_big_quiet_step (fail))
              go_big_quiet_step (exact later (HO.out _))
              repeat (go_big_quiet_step (fail))
              go_big_quiet_step (exact later (HSo.out _))
              repeat (go_big_quiet_step (fail))
              go_big_quiet_step (exact later (HW.out _))
              repeat (go_big_quiet_step (fail))
              refine wpQuiet_nil ?_
              rintro _ ⟨y, rfl⟩
              go_wp2
              go_ret
              exact ⟨rfl, bel_step hbb y.below⟩
    · go_enter Try.func7, Try.ntmps7
      go_wp2_with fail
      refine (HW.out _).mono ?_
      rintro e w1 ⟨rfl, hb1⟩
      go_wp2
      go_ret
      exact ⟨rfl, hb1⟩
  · go_enter Try.func7, Try.ntmps7
    go_wp2_with fail
    refine (HW.out _).mono ?_
    rintro e w1 ⟨rfl, hb1⟩
    go_wp2
    go_ret
    exact ⟨rfl, hb1⟩
end Go.Proofs.Ytboiplanipgidaa
