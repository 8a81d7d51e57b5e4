/-
  The walk of conchlaw5.AlterSplits, by bytes that are set. (By wip/tools/gen_alsplits.py.)
-/
import Derived.Test.YtjdhidiocchkeaaAlSplitsLaws
namespace Go.Proofs.Ytjdhidiocchkeaa
open Go.RowKit

set_option maxHeartbeats 32000000 in
set_option maxRecDepth 100000 in
theorem AlterSplits_T (a i : Sh) (v t : ByteArray) (w : World) : Calls Try.prog 6 #[shV a, shV i, .string v, .string t, .bool true] w (Gives w (.bool true)) := by
  have HW := Lib.hid awake5_is
  obtain ⟨wA, hwA, hbA, hA, hB⟩ := lay_two w a i
  have HSa := Lib.hid (set_is a)
  have HTi := Lib.hid (Tame_is i)
  have ox := setSh_ok (tame_ok a)
  have oi := tame_ok i
  generalize setSh (tameSh a) = tx at *
  generalize tameSh i = ti at *
  simp only [shV] at HSa HTi ⊢
  go_enter Try.func6, Try.ntmps6
  go_wp2
  clear hwA
  go_cut [11, 12] from 15 (fun p q wx => ∃ x y : Nat, p = .pointer (some ⟨x, 0, none⟩) ∧ q = .pointer (some ⟨y, 0, none⟩) ∧ ShAt wx x tx ∧ ShAt wx y ti ∧ wA.heap.size ≤ x ∧ wA.heap.size ≤ y ∧ Below wA.heap.size wA wx)
  case first =>
    refine region_head 4 ?A1 (by kernel_rfl) (by kernel_rfl) (by kernel_rfl) (by decide) (by kernel_rfl) ?hQ ?head ?tail
    case hQ =>
      intro c a d v w1 h
      cases d <;> exact h
    case head =>
      intro x
      simp only [List.take_succ_cons, List.take_zero]
      obtain ⟨L0, L1, L2, L3, L4, L5, L6, L7⟩ := (ShAt.after hA.drew x.below).laters
      obtain ⟨M0, M1, M2, M3, M4, M5, M6, M7⟩ := (ShAt.after hB.drew x.below).laters
      repeat (go_big_quiet_step (fail))
      go_big_quiet_step (exact later (HSa.out _))
      repeat (go_big_quiet_step (fail))
      go_big_quiet_step (exact later (HTi.out _))
      repeat (go_big_quiet_step (fail))
      refine wpQuiet_nil ?_
      rfl
    case tail =>
      change wpAnyU _ _ _ _ _ (3 + 1) _ _ _
      refine wpAnyU_all (rs := [4, 5]) (by kernel_rfl) (by decide) ?_
      intro y0 h0 i hi
      simp only [List.mem_cons, List.not_mem_nil, or_false] at hi
      rcases hi with rfl | rfl
      · have g0 : Gr wA.drew y0 := h0
        have k0 : wA.heap.size ≤ y0.heap.size := g0.size
        clear h0
        refine wpOp_plain rfl rfl ?_
        go_simp
        refine ⟨bel_alloc g0 _, ?_⟩
        refine wpAnyU_all (rs := [5]) (by kernel_rfl) (by decide) ?_
        intro y1 h1 i hi
        simp only [List.mem_cons, List.not_mem_nil, or_false] at hi
        subst hi
        have z0_1 : ShAt y1 y0.heap.size zeroSh := (ShAt.zero y0).after h1
        have n0_1 : y0.heap.size < y1.heap.size := z0_1.lt
        have g1 : Gr wA.drew y1 := Gr.trans (bel_alloc g0 _) h1
        have k1 : wA.heap.size ≤ y1.heap.size := g1.size
        clear h1
        refine wpOp_plain rfl rfl ?_
        go_simp
        refine ⟨bel_alloc g1 _, ?_⟩
        refine wpAnyU_all (rs := [6]) (by kernel_rfl) (by decide) ?_
        intro y2 h2 i hi
        simp only [List.mem_cons, List.not_mem_nil, or_false] at hi
        subst hi
        have z0_2 : ShAt y2 y0.heap.size zeroSh := ShAt.after (z0_1.alloc _) h2
        have z1_2 : ShAt y2 y1.heap.size zeroSh := ShAt.after (ShAt.zero y1) h2
        have g2 : Gr wA.drew y2 := Gr.trans (bel_alloc g1 _) h2
        clear h2 z0_1
        obtain ⟨d0, d1, d2, d3, d4, d5, d6, d7⟩ := z0_2.cells
        obtain ⟨e0, e1, e2, e3, e4, e5, e6, e7⟩ := z0_2.frozens
        refine wpOp_plain rfl rfl ?_
        go_simp
        have gg2 : Gr wA.drew (putSh y2 y0.heap.size tx) := bel_putSh g2 (by show wA.heap.size ≤ _; omega) tx
        refine ⟨gg2, ?_⟩
        clear d0 d1 d2 d3 d4 d5 d6 d7 e0 e1 e2 e3 e4 e5 e6 e7
        refine wpAnyU_all (rs := [7]) (by kernel_rfl) (by decide) ?_
        intro y3 h3 i hi
        simp only [List.mem_cons, List.not_mem_nil, or_false] at hi
        subst hi
        have z0_3 : ShAt y3 y0.heap.size tx := ShAt.after (z0_2.put tx) h3
        have z1_3 : ShAt y3 y1.heap.size zeroSh := ShAt.after (z1_2.putFar (c := y0.heap.size) (by omega) tx) h3
        have g3 : Gr wA.drew y3 := Gr.trans gg2 h3
        clear h3 z0_2 z1_2
        obtain ⟨d0, d1, d2, d3, d4, d5, d6, d7⟩ := z1_3.cells
        obtain ⟨e0, e1, e2, e3, e4, e5, e6, e7⟩ := z1_3.frozens
        refine wpOp_plain rfl rfl ?_
        go_simp
        have gg3 : Gr wA.drew (putSh y3 y1.heap.size ti) := bel_putSh g3 (by show wA.heap.size ≤ _; omega) ti
        refine ⟨gg3, ?_⟩
        clear d0 d1 d2 d3 d4 d5 d6 d7 e0 e1 e2 e3 e4 e5 e6 e7
        refine wpAnyU_done (by kernel_rfl) ?_
        intro y4 h4
        have z0_4 : ShAt y4 y0.heap.size tx := ShAt.after (z0_3.putFar (c := y1.heap.size) (by omega) ti) h4
        have z1_4 : ShAt y4 y1.heap.size ti := ShAt.after (z1_3.put ti) h4
        have g4 : Gr wA.drew y4 := Gr.trans gg3 h4
        clear h4 z0_3 z1_3
        go_wp2
        go_meet
        case rel => exact ⟨y0.heap.size, y1.heap.size, rfl, rfl, z0_4, z1_4, k0, k1, g4.undrew⟩
      · have g0 : Gr wA.drew y0 := h0
        have k0 : wA.heap.size ≤ y0.heap.size := g0.size
        clear h0
        refine wpOp_plain rfl rfl ?_
        go_simp
        refine ⟨bel_alloc g0 _, ?_⟩
        refine wpAnyU_all (rs := [4]) (by kernel_rfl) (by decide) ?_
        intro y1 h1 i hi
        simp only [List.mem_cons, List.not_mem_nil, or_false] at hi
        subst hi
        have z1_1 : ShAt y1 y0.heap.size zeroSh := (ShAt.zero y0).after h1
        have n0_1 : y0.heap.size < y1.heap.size := z1_1.lt
        have g1 : Gr wA.drew y1 := Gr.trans (bel_alloc g0 _) h1
        have k1 : wA.heap.size ≤ y1.heap.size := g1.size
        clear h1
        refine wpOp_plain rfl rfl ?_
        go_simp
        refine ⟨bel_alloc g1 _, ?_⟩
        refine wpAnyU_all (rs := [6]) (by kernel_rfl) (by decide) ?_
        intro y2 h2 i hi
        simp only [List.mem_cons, List.not_mem_nil, or_false] at hi
        subst hi
        have z0_2 : ShAt y2 y1.heap.size zeroSh := ShAt.after (ShAt.zero y1) h2
        have z1_2 : ShAt y2 y0.heap.size zeroSh := ShAt.after (z1_1.alloc _) h2
        have g2 : Gr wA.drew y2 := Gr.trans (bel_alloc g1 _) h2
        clear h2 z1_1
        obtain ⟨d0, d1, d2, d3, d4, d5, d6, d7⟩ := z0_2.cells
        obtain ⟨e0, e1, e2, e3, e4, e5, e6, e7⟩ := z0_2.frozens
        refine wpOp_plain rfl rfl ?_
        go_simp
        have gg2 : Gr wA.drew (putSh y2 y1.heap.size tx) := bel_putSh g2 (by show wA.heap.size ≤ _; omega) tx
        refine ⟨gg2, ?_⟩
        clear d0 d1 d2 d3 d4 d5 d6 d7 e0 e1 e2 e3 e4 e5 e6 e7
        refine wpAnyU_all (rs := [7]) (by kernel_rfl) (by decide) ?_
        intro y3 h3 i hi
        simp only [List.mem_cons, List.not_mem_nil, or_false] at hi
        subst hi
        have z0_3 : ShAt y3 y1.heap.size tx := ShAt.after (z0_2.put tx) h3
        have z1_3 : ShAt y3 y0.heap.size zeroSh := ShAt.after (z1_2.putFar (c := y1.heap.size) (by omega) tx) h3
        have g3 : Gr wA.drew y3 := Gr.trans gg2 h3
        clear h3 z0_2 z1_2
        obtain ⟨d0, d1, d2, d3, d4, d5, d6, d7⟩ := z1_3.cells
        obtain ⟨e0, e1, e2, e3, e4, e5, e6, e7⟩ := z1_3.frozens
        refine wpOp_plain rfl rfl ?_
        go_simp
        have gg3 : Gr wA.drew (putSh y3 y0.heap.size ti) := bel_putSh g3 (by show wA.heap.size ≤ _; omega) ti
        refine ⟨gg3, ?_⟩
        clear d0 d1 d2 d3 d4 d5 d6 d7 e0 e1 e2 e3 e4 e5 e6 e7
        refine wpAnyU_done (by kernel_rfl) ?_
        intro y4 h4
        have z0_4 : ShAt y4 y1.heap.size tx := ShAt.after (z0_3.putFar (c := y0.heap.size) (by omega) ti) h4
        have z1_4 : ShAt y4 y0.heap.size ti := ShAt.after (z1_3.put ti) h4
        have g4 : Gr wA.drew y4 := Gr.trans gg3 h4
        clear h4 z0_3 z1_3
        go_wp2
        go_meet
        case rel => exact ⟨y1.heap.size, y0.heap.size, rfl, rfl, z0_4, z1_4, k1, k0, g4.undrew⟩
  case rest =>
    obtain ⟨bx, bv, rfl, rfl, hX1, hI1, lx, ly, hbx⟩ := hcut
    have hb1 := bel_step hbA hbx
    clear hA hB hbx hbA HSa HTi lx ly
    by_cases hv : v.size ≤ 100
    · by_cases ht : t.size ≤ 100
      · have hM1 := May_is tx true v (by omega)
        have hM2 := May_is ti true t (by omega)
        simp only [shV] at hM1 hM2
        rcases Bool.eq_false_or_eq_true (mayB tx true v) with hm1 | hm1
        · rw [hm1] at hM1
          have M1 := Lib.hid hM1
          clear hM1
          obtain ⟨c0, c1, c2, c3, c4, c5, c6, c7⟩ := hX1.cells
          go_wp2_with fail
          clear c0 c1 c2 c3 c4 c5 c6 c7
          refine (M1.out _).mono ?_
          rintro e v1 ⟨rfl, j1⟩
          have hX2 := hX1.after j1
          have hI2 := hI1.after j1
          have hb2 := bel_step hb1 j1
          clear hX1 hI1 hb1 j1
          rcases Bool.eq_false_or_eq_true (mayB ti true t) with hm2 | hm2
          · rw [hm2] at hM2
            have M2 := Lib.hid hM2
            clear hM2
            obtain ⟨c0, c1, c2, c3, c4, c5, c6, c7⟩ := hI2.cells
            go_wp2_with fail
            clear c0 c1 c2 c3 c4 c5 c6 c7
            refine (M2.out _).mono ?_
            rintro e v2 ⟨rfl, j2⟩
            have hX3 := hX2.after j2
            have hI3 := hI2.after j2
            have hb3 := bel_step hb2 j2
            clear hX2 hI2 hb2 j2
            have hWh := refWhole_is v t (by omega) (by omega)
            have hSp := MaySplit_is tx ti (ok_len oi)
            have hGl := MayGlob_is tx
            have HNS : Hid (wholeB v.data.toList (t : ByteArray).data.toList = false → splitB tx ti = true) := Lib.hid (fun hw => Classical.byContradiction fun hs => by
              obtain ⟨q1, q2⟩ := not_split (r := t) ox oi hm1 hm2 rfl (bfalse hs)
              refine no_both (whole_of (emp_list q1) fun b hb => ?_) hw
              exact q2 b.toNat b.toNat_lt ((ofS_iff _ _).2 ⟨b, hb, rfl⟩))
            have HNG : Hid (glAny v.data.toList = true → globB tx = true) := Lib.hid (fun hg => by
              obtain ⟨b, hb, h2⟩ := List.any_eq_true.1 hg
              exact glob_has ox hm1 b.toNat b.toNat_lt ((ofS_iff _ _).2 ⟨b, hb, rfl⟩) h2)
            generalize hwh : wholeB v.data.toList (t : ByteArray).data.toList = wh at *
            clear hwh
            generalize splitB tx ti = sx at *
            generalize globB tx = gx at *
            simp only [shV] at hSp hGl
            clear hm1 hm2 ox oi
            have HWh := Lib.hid hWh
            have HSp := Lib.hid hSp
            have HGl := Lib.hid hGl
            clear hWh hSp hGl
            go_wp2
            go_loop [13, 14] (fun z i => ∃ k : Nat, k ≤ v.size ∧ z = .bool (glAny (v.data.toList.take k)) ∧ i = .int .i64 k) (fun _ i => v.size - (intOf i).toNat)
            case atStart => exact ⟨0, Nat.zero_le _, by simp [glAny], rfl⟩
            case round =>
              obtain ⟨k, hks, rfl, rfl⟩ := hrel
              by_cases hk : k < v.size
              · have i0 : (0 : Int) ≤ (k : Int) := by omega
                have i1 : (k : Int) < (v.size : Int) := by omega
                have HS : Hid (glAny (v.data.toList.take (k + 1)) = (glAny (v.data.toList.take k) || ofS signs v[k].toNat)) := Lib.hid (by rw [byte_snoc v k hk]; simp [glAny])
                cases hz0 : glAny (v.data.toList.take k) with
                | true =>
                  have HS2 : Hid (glAny (v.data.toList.take (k + 1)) = true) := Lib.hid (by rw [HS.out, hz0]; rfl)
                  clear HS hz0
                  go_wp2
                  go_round
                  case rel => exact ⟨k + 1, by omega, by rw [HS2.out], rfl⟩
                  case measure => simp [intOf]; omega
                | false =>
                  by_cases h42 : v[k].toNat = 42
                  · have HS2 : Hid (glAny (v.data.toList.take (k + 1)) = true) := Lib.hid (by rw [HS.out, h42]; exact Bool.or_true _)
                    have e42 : ((v[k].toNat : Int) == 42) = true := by rw [h42]; rfl
                    clear HS hz0 h42
                    go_wp2
                    go_round
                    case rel => exact ⟨k + 1, by omega, by rw [HS2.out], rfl⟩
                    case measure => simp [intOf]; omega
                  · by_cases h63 : v[k].toNat = 63
                    · have HS2 : Hid (glAny (v.data.toList.take (k + 1)) = true) := Lib.hid (by rw [HS.out, h63]; exact Bool.or_true _)
                      have e42 : ((v[k].toNat : Int) == 42) = false := by rw [beq_eq_false_iff_ne]; omega
                      have e63 : ((v[k].toNat : Int) == 63) = true := by rw [h63]; rfl
                      clear HS hz0 h42 h63
                      go_wp2
                      go_round
                      case rel => exact ⟨k + 1, by omega, by rw [HS2.out], rfl⟩
                      case measure => simp [intOf]; omega
                    · by_cases h91 : v[k].toNat = 91
                      · have HS2 : Hid (glAny (v.data.toList.take (k + 1)) = true) := Lib.hid (by rw [HS.out, h91]; exact Bool.or_true _)
                        have e42 : ((v[k].toNat : Int) == 42) = false := by rw [beq_eq_false_iff_ne]; omega
                        have e63 : ((v[k].toNat : Int) == 63) = false := by rw [beq_eq_false_iff_ne]; omega
                        have e91 : ((v[k].toNat : Int) == 91) = true := by rw [h91]; rfl
                        clear HS hz0 h42 h63 h91
                        go_wp2
                        go_round
                        case rel => exact ⟨k + 1, by omega, by rw [HS2.out], rfl⟩
                        case measure => simp [intOf]; omega
                      · have HS2 : Hid (glAny (v.data.toList.take (k + 1)) = false) := Lib.hid (by
                          rw [HS.out, hz0, Bool.false_or]
                          refine bfalse fun h => ?_
                          obtain ⟨b, hb, he⟩ := (ofS_iff _ _).1 h
                          simp only [signs, List.mem_cons, List.not_mem_nil, or_false] at hb
                          rcases hb with rfl | rfl | rfl
                          · exact h42 he.symm
                          · exact h63 he.symm
                          · exact h91 he.symm)
                        have e42 : ((v[k].toNat : Int) == 42) = false := by rw [beq_eq_false_iff_ne]; omega
                        have e63 : ((v[k].toNat : Int) == 63) = false := by rw [beq_eq_false_iff_ne]; omega
                        have e91 : ((v[k].toNat : Int) == 91) = false := by rw [beq_eq_false_iff_ne]; omega
                        clear HS hz0 h42 h63 h91
                        go_wp2
                        go_round
                        case rel => exact ⟨k + 1, by omega, by rw [HS2.out], rfl⟩
                        case measure => simp [intOf]; omega
              · have hk2 : k = v.size := by omega
                rw [hk2, ofS_take_all]
                clear hk hk2 hks
                generalize glAny v.data.toList = gl at *
                cases wh with
                | true =>
                  cases gl with
                  | true =>
                    obtain rfl : gx = true := HNG.out rfl
                    go_wp2_with fail
                    refine (HWh.out _).mono ?_
                    rintro e v3 ⟨rfl, j3⟩
                    have hX4 := hX3.after j3
                    have hI4 := hI3.after j3
                    have hb4 := bel_step hb3 j3
                    clear hX3 hI3 hb3 j3
                    obtain ⟨c0, c1, c2, c3, c4, c5, c6, c7⟩ := hX4.cells
                    go_wp2_with fail
                    clear c0 c1 c2 c3 c4 c5 c6 c7
                    refine (HGl.out _).mono ?_
                    rintro e v4 ⟨rfl, j4⟩
                    have hX5 := hX4.after j4
                    have hI5 := hI4.after j4
                    have hb5 := bel_step hb4 j4
                    clear hX4 hI4 hb4 j4
                    go_wp2_with fail
                    refine (HW.out _).mono ?_
                    rintro e v5 ⟨rfl, j5⟩
                    have hX6 := hX5.after j5
                    have hI6 := hI5.after j5
                    have hb6 := bel_step hb5 j5
                    clear hX5 hI5 hb5 j5
                    go_wp2
                    go_ret
                    exact ⟨rfl, hb6⟩
                  | false =>
                    go_wp2_with fail
                    refine (HWh.out _).mono ?_
                    rintro e v3 ⟨rfl, j3⟩
                    have hX4 := hX3.after j3
                    have hI4 := hI3.after j3
                    have hb4 := bel_step hb3 j3
                    clear hX3 hI3 hb3 j3
                    go_wp2_with fail
                    refine (HW.out _).mono ?_
                    rintro e v4 ⟨rfl, j4⟩
                    have hX5 := hX4.after j4
                    have hI5 := hI4.after j4
                    have hb5 := bel_step hb4 j4
                    clear hX4 hI4 hb4 j4
                    go_wp2
                    go_ret
                    exact ⟨rfl, hb5⟩
                | false =>
                  obtain rfl : sx = true := HNS.out rfl
                  cases gl with
                  | true =>
                    obtain rfl : gx = true := HNG.out rfl
                    go_wp2_with fail
                    refine (HWh.out _).mono ?_
                    rintro e v3 ⟨rfl, j3⟩
                    have hX4 := hX3.after j3
                    have hI4 := hI3.after j3
                    have hb4 := bel_step hb3 j3
                    clear hX3 hI3 hb3 j3
                    obtain ⟨c0, c1, c2, c3, c4, c5, c6, c7⟩ := hX4.cells
                    obtain ⟨d0, d1, d2, d3, d4, d5, d6, d7⟩ := hI4.cells
                    go_wp2_with fail
                    clear c0 c1 c2 c3 c4 c5 c6 c7 d0 d1 d2 d3 d4 d5 d6 d7
                    refine (HSp.out _).mono ?_
                    rintro e v4 ⟨rfl, j4⟩
                    have hX5 := hX4.after j4
                    have hI5 := hI4.after j4
                    have hb5 := bel_step hb4 j4
                    clear hX4 hI4 hb4 j4
                    obtain ⟨c0, c1, c2, c3, c4, c5, c6, c7⟩ := hX5.cells
                    go_wp2_with fail
                    clear c0 c1 c2 c3 c4 c5 c6 c7
                    refine (HGl.out _).mono ?_
                    rintro e v5 ⟨rfl, j5⟩
                    have hX6 := hX5.after j5
                    have hI6 := hI5.after j5
                    have hb6 := bel_step hb5 j5
                    clear hX5 hI5 hb5 j5
                    go_wp2_with fail
                    refine (HW.out _).mono ?_
                    rintro e v6 ⟨rfl, j6⟩
                    have hX7 := hX6.after j6
                    have hI7 := hI6.after j6
                    have hb7 := bel_step hb6 j6
                    clear hX6 hI6 hb6 j6
                    go_wp2
                    go_ret
                    exact ⟨rfl, hb7⟩
                  | false =>
                    go_wp2_with fail
                    refine (HWh.out _).mono ?_
                    rintro e v3 ⟨rfl, j3⟩
                    have hX4 := hX3.after j3
                    have hI4 := hI3.after j3
                    have hb4 := bel_step hb3 j3
                    clear hX3 hI3 hb3 j3
                    obtain ⟨c0, c1, c2, c3, c4, c5, c6, c7⟩ := hX4.cells
                    obtain ⟨d0, d1, d2, d3, d4, d5, d6, d7⟩ := hI4.cells
                    go_wp2_with fail
                    clear c0 c1 c2 c3 c4 c5 c6 c7 d0 d1 d2 d3 d4 d5 d6 d7
                    refine (HSp.out _).mono ?_
                    rintro e v4 ⟨rfl, j4⟩
                    have hX5 := hX4.after j4
                    have hI5 := hI4.after j4
                    have hb5 := bel_step hb4 j4
                    clear hX4 hI4 hb4 j4
                    go_wp2_with fail
                    refine (HW.out _).mono ?_
                    rintro e v5 ⟨rfl, j5⟩
                    have hX6 := hX5.after j5
                    have hI6 := hI5.after j5
                    have hb6 := bel_step hb5 j5
                    clear hX5 hI5 hb5 j5
                    go_wp2
                    go_ret
                    exact ⟨rfl, hb6⟩
          · rw [hm2] at hM2
            have M2 := Lib.hid hM2
            clear hM2 hm1 hm2 ox oi
            obtain ⟨c0, c1, c2, c3, c4, c5, c6, c7⟩ := hI2.cells
            go_wp2_with fail
            clear c0 c1 c2 c3 c4 c5 c6 c7
            refine (M2.out _).mono ?_
            rintro e v2 ⟨rfl, j2⟩
            have hX3 := hX2.after j2
            have hI3 := hI2.after j2
            have hb3 := bel_step hb2 j2
            clear hX2 hI2 hb2 j2
            go_wp2_with fail
            refine (HW.out _).mono ?_
            rintro e v9 ⟨rfl, j9⟩
            go_wp2
            go_ret
            exact ⟨rfl, bel_step hb3 j9⟩
        · rw [hm1] at hM1
          have M1 := Lib.hid hM1
          clear hM1 hM2 hm1 ox oi
          obtain ⟨c0, c1, c2, c3, c4, c5, c6, c7⟩ := hX1.cells
          go_wp2_with fail
          clear c0 c1 c2 c3 c4 c5 c6 c7
          refine (M1.out _).mono ?_
          rintro e v1 ⟨rfl, j1⟩
          have hX2 := hX1.after j1
          have hI2 := hI1.after j1
          have hb2 := bel_step hb1 j1
          clear hX1 hI1 hb1 j1
          go_wp2_with fail
          refine (HW.out _).mono ?_
          rintro e v9 ⟨rfl, j9⟩
          go_wp2
          go_ret
          exact ⟨rfl, bel_step hb2 j9⟩
      · clear ox oi
        go_wp2_with fail
        refine (HW.out _).mono ?_
        rintro e v9 ⟨rfl, j9⟩
        go_wp2
        go_ret
        exact ⟨rfl, bel_step hb1 j9⟩
    · clear ox oi
      go_wp2_with fail
      refine (HW.out _).mono ?_
      rintro e v9 ⟨rfl, j9⟩
      go_wp2
      go_ret
      exact ⟨rfl, bel_step hb1 j9⟩

end Go.Proofs.Ytjdhidiocchkeaa
