/-
  The walk of conchlaw5.AlterSound. (By wip/tools/gen_alsound.py.)
-/
import Derived.Test.YtjdhidiocchkeaaAlSoundLaws
namespace Go.Proofs.Ytjdhidiocchkeaa
open Go.RowKit

set_option maxHeartbeats 32000000 in
set_option maxRecDepth 100000 in
theorem AlterSound_T (a b : Sh) (v t : ByteArray) (c : Bool) (f g : Int) (w : World) : Calls Try.prog 5 #[shV a, shV b, .string v, .string t, .bool true, .bool c, .int .i64 f, .int .i64 g] w (Gives w (.bool true)) := by
  have HW := Lib.hid awake5_is
  obtain ⟨wA, hwA, hbA, hA, hB⟩ := lay_two w a b
  have HTa := Lib.hid (Tame_is a)
  have HSb := Lib.hid (set_is b)
  have ox := tame_ok a
  have oy := setSh_ok (tame_ok b)
  generalize tameSh a = tx at *
  generalize setSh (tameSh b) = ty at *
  simp only [shV] at HTa HSb ⊢
  go_enter Try.func5, Try.ntmps5
  go_wp2
  clear hwA
  go_cut [17, 18] from 22 (fun p q wx => ∃ x y : Nat, p = .pointer (some ⟨x, 0, none⟩) ∧ q = .pointer (some ⟨y, 0, none⟩) ∧ ShAt wx x tx ∧ ShAt wx y ty ∧ wA.heap.size ≤ x ∧ wA.heap.size ≤ y ∧ Below wA.heap.size wA wx)
  case first =>
    refine region_head 4 ?A1 (by kernel_rfl) (by kernel_rfl) (by kernel_rfl) (by decide) (by kernel_rfl) ?hQ ?head ?tail
    case hQ =>
      intro c a d v w1 h
      cases d <;> exact h
    case head =>
      intro x
      simp only [List.take_succ_cons, List.take_zero]
      obtain ⟨L0, L1, L2, L3, L4, L5, L6, L7⟩ := (ShAt.after hA.drew x.below).laters
      obtain ⟨M0, M1, M2, M3, M4, M5, M6, M7⟩ := (ShAt.after hB.drew x.below).laters
      repeat (go_big_quiet_step (fail))
      go_big_quiet_step (exact later (HTa.out _))
      repeat (go_big_quiet_step (fail))
      go_big_quiet_step (exact later (HSb.out _))
      repeat (go_big_quiet_step (fail))
      refine wpQuiet_nil ?_
      rfl
    case tail =>
      change wpAnyU _ _ _ _ _ (3 + 1) _ _ _
      refine wpAnyU_all (rs := [4, 5]) (by kernel_rfl) (by decide) ?_
      intro y0 h0 i hi
      simp only [List.mem_cons, List.not_mem_nil, or_false] at hi
      rcases hi with rfl | rfl
      · have g0 : Gr wA.drew y0 := h0
        have k0 : wA.heap.size ≤ y0.heap.size := g0.size
        clear h0
        refine wpOp_plain rfl rfl ?_
        go_simp
        refine ⟨bel_alloc g0 _, ?_⟩
        refine wpAnyU_all (rs := [5]) (by kernel_rfl) (by decide) ?_
        intro y1 h1 i hi
        simp only [List.mem_cons, List.not_mem_nil, or_false] at hi
        subst hi
        have z0_1 : ShAt y1 y0.heap.size zeroSh := (ShAt.zero y0).after h1
        have n0_1 : y0.heap.size < y1.heap.size := z0_1.lt
        have g1 : Gr wA.drew y1 := Gr.trans (bel_alloc g0 _) h1
        have k1 : wA.heap.size ≤ y1.heap.size := g1.size
        clear h1
        refine wpOp_plain rfl rfl ?_
        go_simp
        refine ⟨bel_alloc g1 _, ?_⟩
        refine wpAnyU_all (rs := [6]) (by kernel_rfl) (by decide) ?_
        intro y2 h2 i hi
        simp only [List.mem_cons, List.not_mem_nil, or_false] at hi
        subst hi
        have z0_2 : ShAt y2 y0.heap.size zeroSh := ShAt.after (z0_1.alloc _) h2
        have z1_2 : ShAt y2 y1.heap.size zeroSh := ShAt.after (ShAt.zero y1) h2
        have g2 : Gr wA.drew y2 := Gr.trans (bel_alloc g1 _) h2
        clear h2 z0_1
        obtain ⟨d0, d1, d2, d3, d4, d5, d6, d7⟩ := z0_2.cells
        obtain ⟨e0, e1, e2, e3, e4, e5, e6, e7⟩ := z0_2.frozens
        refine wpOp_plain rfl rfl ?_
        go_simp
        have gg2 : Gr wA.drew (putSh y2 y0.heap.size tx) := bel_putSh g2 (by show wA.heap.size ≤ _; omega) tx
        refine ⟨gg2, ?_⟩
        clear d0 d1 d2 d3 d4 d5 d6 d7 e0 e1 e2 e3 e4 e5 e6 e7
        refine wpAnyU_all (rs := [7]) (by kernel_rfl) (by decide) ?_
        intro y3 h3 i hi
        simp only [List.mem_cons, List.not_mem_nil, or_false] at hi
        subst hi
        have z0_3 : ShAt y3 y0.heap.size tx := ShAt.after (z0_2.put tx) h3
        have z1_3 : ShAt y3 y1.heap.size zeroSh := ShAt.after (z1_2.putFar (c := y0.heap.size) (by omega) tx) h3
        have g3 : Gr wA.drew y3 := Gr.trans gg2 h3
        clear h3 z0_2 z1_2
        obtain ⟨d0, d1, d2, d3, d4, d5, d6, d7⟩ := z1_3.cells
        obtain ⟨e0, e1, e2, e3, e4, e5, e6, e7⟩ := z1_3.frozens
        refine wpOp_plain rfl rfl ?_
        go_simp
        have gg3 : Gr wA.drew (putSh y3 y1.heap.size ty) := bel_putSh g3 (by show wA.heap.size ≤ _; omega) ty
        refine ⟨gg3, ?_⟩
        clear d0 d1 d2 d3 d4 d5 d6 d7 e0 e1 e2 e3 e4 e5 e6 e7
        refine wpAnyU_done (by kernel_rfl) ?_
        intro y4 h4
        have z0_4 : ShAt y4 y0.heap.size tx := ShAt.after (z0_3.putFar (c := y1.heap.size) (by omega) ty) h4
        have z1_4 : ShAt y4 y1.heap.size ty := ShAt.after (z1_3.put ty) h4
        have g4 : Gr wA.drew y4 := Gr.trans gg3 h4
        clear h4 z0_3 z1_3
        go_wp2
        go_meet
        case rel => exact ⟨y0.heap.size, y1.heap.size, rfl, rfl, z0_4, z1_4, k0, k1, g4.undrew⟩
      · have g0 : Gr wA.drew y0 := h0
        have k0 : wA.heap.size ≤ y0.heap.size := g0.size
        clear h0
        refine wpOp_plain rfl rfl ?_
        go_simp
        refine ⟨bel_alloc g0 _, ?_⟩
        refine wpAnyU_all (rs := [4]) (by kernel_rfl) (by decide) ?_
        intro y1 h1 i hi
        simp only [List.mem_cons, List.not_mem_nil, or_false] at hi
        subst hi
        have z1_1 : ShAt y1 y0.heap.size zeroSh := (ShAt.zero y0).after h1
        have n0_1 : y0.heap.size < y1.heap.size := z1_1.lt
        have g1 : Gr wA.drew y1 := Gr.trans (bel_alloc g0 _) h1
        have k1 : wA.heap.size ≤ y1.heap.size := g1.size
        clear h1
        refine wpOp_plain rfl rfl ?_
        go_simp
        refine ⟨bel_alloc g1 _, ?_⟩
        refine wpAnyU_all (rs := [6]) (by kernel_rfl) (by decide) ?_
        intro y2 h2 i hi
        simp only [List.mem_cons, List.not_mem_nil, or_false] at hi
        subst hi
        have z0_2 : ShAt y2 y1.heap.size zeroSh := ShAt.after (ShAt.zero y1) h2
        have z1_2 : ShAt y2 y0.heap.size zeroSh := ShAt.after (z1_1.alloc _) h2
        have g2 : Gr wA.drew y2 := Gr.trans (bel_alloc g1 _) h2
        clear h2 z1_1
        obtain ⟨d0, d1, d2, d3, d4, d5, d6, d7⟩ := z0_2.cells
        obtain ⟨e0, e1, e2, e3, e4, e5, e6, e7⟩ := z0_2.frozens
        refine wpOp_plain rfl rfl ?_
        go_simp
        have gg2 : Gr wA.drew (putSh y2 y1.heap.size tx) := bel_putSh g2 (by show wA.heap.size ≤ _; omega) tx
        refine ⟨gg2, ?_⟩
        clear d0 d1 d2 d3 d4 d5 d6 d7 e0 e1 e2 e3 e4 e5 e6 e7
        refine wpAnyU_all (rs := [7]) (by kernel_rfl) (by decide) ?_
        intro y3 h3 i hi
        simp only [List.mem_cons, List.not_mem_nil, or_false] at hi
        subst hi
        have z0_3 : ShAt y3 y1.heap.size tx := ShAt.after (z0_2.put tx) h3
        have z1_3 : ShAt y3 y0.heap.size zeroSh := ShAt.after (z1_2.putFar (c := y1.heap.size) (by omega) tx) h3
        have g3 : Gr wA.drew y3 := Gr.trans gg2 h3
        clear h3 z0_2 z1_2
        obtain ⟨d0, d1, d2, d3, d4, d5, d6, d7⟩ := z1_3.cells
        obtain ⟨e0, e1, e2, e3, e4, e5, e6, e7⟩ := z1_3.frozens
        refine wpOp_plain rfl rfl ?_
        go_simp
        have gg3 : Gr wA.drew (putSh y3 y0.heap.size ty) := bel_putSh g3 (by show wA.heap.size ≤ _; omega) ty
        refine ⟨gg3, ?_⟩
        clear d0 d1 d2 d3 d4 d5 d6 d7 e0 e1 e2 e3 e4 e5 e6 e7
        refine wpAnyU_done (by kernel_rfl) ?_
        intro y4 h4
        have z0_4 : ShAt y4 y1.heap.size tx := ShAt.after (z0_3.putFar (c := y0.heap.size) (by omega) ty) h4
        have z1_4 : ShAt y4 y0.heap.size ty := ShAt.after (z1_3.put ty) h4
        have g4 : Gr wA.drew y4 := Gr.trans gg3 h4
        clear h4 z0_3 z1_3
        go_wp2
        go_meet
        case rel => exact ⟨y1.heap.size, y0.heap.size, rfl, rfl, z0_4, z1_4, k1, k0, g4.undrew⟩
  case rest =>
    obtain ⟨bx, bv, rfl, rfl, hX1, hY1, lx, ly, hbx⟩ := hcut
    have hb1 := bel_step hbA hbx
    clear hA hB hbx hbA HTa HSb lx ly
    by_cases hv : v.size ≤ 100
    · by_cases ht : t.size ≤ 100
      · have hM1 := May_is tx true v (by omega)
        have hM2 := May_is ty true t (by omega)
        simp only [shV] at hM1 hM2
        rcases Bool.eq_false_or_eq_true (mayB tx true v) with hm1 | hm1
        · rw [hm1] at hM1
          have M1 := Lib.hid hM1
          clear hM1
          obtain ⟨c0, c1, c2, c3, c4, c5, c6, c7⟩ := hX1.cells
          go_wp2_with fail
          clear c0 c1 c2 c3 c4 c5 c6 c7
          refine (M1.out _).mono ?_
          rintro e v1 ⟨rfl, j1⟩
          have hX2 := hX1.after j1
          have hY2 := hY1.after j1
          have hb2 := bel_step hb1 j1
          clear hX1 hY1 hb1 j1
          rcases Bool.eq_false_or_eq_true (mayB ty true t) with hm2 | hm2
          · rw [hm2] at hM2
            have M2 := Lib.hid hM2
            clear hM2
            obtain ⟨c0, c1, c2, c3, c4, c5, c6, c7⟩ := hY2.cells
            go_wp2_with fail
            clear c0 c1 c2 c3 c4 c5 c6 c7
            refine (M2.out _).mono ?_
            rintro e v2 ⟨rfl, j2⟩
            have hX3 := hX2.after j2
            have hY3 := hY2.after j2
            have hb3 := bel_step hb2 j2
            clear hX2 hY2 hb2 j2
            have hZ := Lib.hid (Read_is tx)
            have oz := read_ok ox
            have mz := read_may (r := v) ox hm1 rfl
            generalize readP tx = tz at *
            have z1 := May_is tz true v (by omega)
            rw [mz] at z1
            have z2 := Lib.hid (Cat_is tz ty (ok_len64 oz) (ok_len64 oy))
            have z3 := May_is (catP tz ty) true (v ++ t) (by rw [ByteArray.size_append]; omega)
            rw [cat_may oz oy mz hm2] at z3
            have z4 := Lib.hid (Cat_is ty tz (ok_len64 oy) (ok_len64 oz))
            have z5 := May_is (catP ty tz) true (t ++ v) (by rw [ByteArray.size_append]; omega)
            rw [cat_may oy oz hm2 mz] at z5
            generalize catP tz ty = k1 at *
            generalize catP ty tz = k2 at *
            simp only [shV] at hZ z1 z2 z3 z4 z5
            have Z1 := Lib.hid z1
            have Z3 := Lib.hid z3
            have Z5 := Lib.hid z5
            clear z1 z3 z5
            obtain ⟨c0, c1, c2, c3, c4, c5, c6, c7⟩ := hX3.cells
            go_wp2_with fail
            clear c0 c1 c2 c3 c4 c5 c6 c7
            refine (hZ.out _).mono ?_
            rintro e v3 ⟨rfl, j3⟩
            have hX4 := hX3.after j3
            have hY4 := hY3.after j3
            have hb4 := bel_step hb3 j3
            clear hX3 hY3 hb3 j3
            have hZ5 := ShAt.new v3 tz
            have hX5 := hX4.alloc (.cells #[.bool tz.u, .bool tz.e, .int .u64 (wd tz.h 0 : Nat), .int .u64 (wd tz.h 1 : Nat), .int .u64 (wd tz.h 2 : Nat), .int .u64 (wd tz.h 3 : Nat), .bool tz.k, .string tz.l] 26)
            have hY5 := hY4.alloc (.cells #[.bool tz.u, .bool tz.e, .int .u64 (wd tz.h 0 : Nat), .int .u64 (wd tz.h 1 : Nat), .int .u64 (wd tz.h 2 : Nat), .int .u64 (wd tz.h 3 : Nat), .bool tz.k, .string tz.l] 26)
            have hb5 := bel_alloc hb4 (.cells #[.bool tz.u, .bool tz.e, .int .u64 (wd tz.h 0 : Nat), .int .u64 (wd tz.h 1 : Nat), .int .u64 (wd tz.h 2 : Nat), .int .u64 (wd tz.h 3 : Nat), .bool tz.k, .string tz.l] 26)
            obtain ⟨U, hU⟩ : ∃ U, v3.alloc (.cells #[.bool tz.u, .bool tz.e, .int .u64 (wd tz.h 0 : Nat), .int .u64 (wd tz.h 1 : Nat), .int .u64 (wd tz.h 2 : Nat), .int .u64 (wd tz.h 3 : Nat), .bool tz.k, .string tz.l] 26) = U := ⟨_, rfl⟩
            rw [hU] at hX5 hY5 hZ5 hb5
            have HU := Lib.hid hU
            clear hU hX4 hY4 hb4
            obtain ⟨bz, hbz⟩ : ∃ bz, v3.heap.size = bz := ⟨_, rfl⟩
            rw [hbz] at hZ5
            go_upto_region 8 with fail
            rw [HU.out]
            clear HU hbz
            obtain ⟨c0, c1, c2, c3, c4, c5, c6, c7⟩ := hZ5.cells
            go_wp2_with fail
            clear c0 c1 c2 c3 c4 c5 c6 c7
            refine (Z1.out _).mono ?_
            rintro e v5 ⟨rfl, j5⟩
            have hX6 := hX5.after j5
            have hY6 := hY5.after j5
            have hZ6 := hZ5.after j5
            have hb6 := bel_step hb5 j5
            clear hX5 hY5 hZ5 hb5 j5
            obtain ⟨c0, c1, c2, c3, c4, c5, c6, c7⟩ := hZ6.cells
            obtain ⟨d0, d1, d2, d3, d4, d5, d6, d7⟩ := hY6.cells
            go_wp2_with fail
            clear c0 c1 c2 c3 c4 c5 c6 c7 d0 d1 d2 d3 d4 d5 d6 d7
            refine (z2.out _).mono ?_
            rintro e v6 ⟨rfl, j6⟩
            have hX7 := hX6.after j6
            have hY7 := hY6.after j6
            have hZ7 := hZ6.after j6
            have hb7 := bel_step hb6 j6
            clear hX6 hY6 hZ6 hb6 j6
            go_wp2_with fail
            refine (Z3.out _).mono ?_
            rintro e v7 ⟨rfl, j7⟩
            have hX8 := hX7.after j7
            have hY8 := hY7.after j7
            have hZ8 := hZ7.after j7
            have hb8 := bel_step hb7 j7
            clear hX7 hY7 hZ7 hb7 j7
            obtain ⟨c0, c1, c2, c3, c4, c5, c6, c7⟩ := hY8.cells
            obtain ⟨d0, d1, d2, d3, d4, d5, d6, d7⟩ := hZ8.cells
            go_wp2_with fail
            clear c0 c1 c2 c3 c4 c5 c6 c7 d0 d1 d2 d3 d4 d5 d6 d7
            refine (z4.out _).mono ?_
            rintro e v8 ⟨rfl, j8⟩
            have hX9 := hX8.after j8
            have hY9 := hY8.after j8
            have hZ9 := hZ8.after j8
            have hb9 := bel_step hb8 j8
            clear hX8 hY8 hZ8 hb8 j8
            go_wp2_with fail
            refine (Z5.out _).mono ?_
            rintro e v9 ⟨rfl, j9⟩
            have hX10 := hX9.after j9
            have hY10 := hY9.after j9
            have hZ10 := hZ9.after j9
            have hb10 := bel_step hb9 j9
            clear hX9 hY9 hZ9 hb9 j9
            go_upto_region 10 with fail
            obtain ⟨M, hM, hM9⟩ : ∃ M : Nat, bits .and .i64 f 255 = (M : Int) ∧ M ≤ 255 := by
              have := and_mask_le f 8 (by decide) 255 rfl
              exact ⟨(bits .and .i64 f 255).toNat, by omega, by omega⟩
            obtain ⟨N, hN, hN9⟩ : ∃ N : Nat, bits .and .i64 g 255 = (N : Int) ∧ N ≤ 255 := by
              have := and_mask_le g 8 (by decide) 255 rfl
              exact ⟨(bits .and .i64 g 255).toNat, by omega, by omega⟩
            have HCu := Lib.hid (Cut_is tz)
            simp only [shV] at HCu
            obtain ⟨G, hG, hG9⟩ : ∃ G : Nat, (M : Int) % ((v.size : Int) + 1) = (G : Int) ∧ G ≤ v.size := by
              have h1 : 0 ≤ (M : Int) % ((v.size : Int) + 1) := Int.emod_nonneg _ (by omega)
              have h2 : (M : Int) % ((v.size : Int) + 1) < (v.size : Int) + 1 := Int.emod_lt_of_pos _ (by omega)
              exact ⟨((M : Int) % ((v.size : Int) + 1)).toNat, by omega, by omega⟩
            obtain ⟨K, hK, hK9⟩ : ∃ K : Nat, (N : Int) % ((v.size : Int) - (G : Int) + 1) = (K : Int) ∧ G + K ≤ v.size := by
              have h1 : 0 ≤ (N : Int) % ((v.size : Int) - (G : Int) + 1) := Int.emod_nonneg _ (by omega)
              have h2 : (N : Int) % ((v.size : Int) - (G : Int) + 1) < (v.size : Int) - (G : Int) + 1 := Int.emod_lt_of_pos _ (by omega)
              exact ⟨((N : Int) % ((v.size : Int) - (G : Int) + 1)).toNat, by omega, by omega⟩
            obtain ⟨T, hT, hT9, hT8⟩ : ∃ T : Nat, (G : Int) + (K : Int) = (T : Int) ∧ G ≤ T ∧ T ≤ v.size := ⟨G + K, by omega, by omega, hK9⟩
            by_cases hG0 : 0 < G
            · have dG : decide ((0 : Int) < (G : Int)) = true := decide_eq_true (by omega)
              by_cases hTv : T < v.size
              · have dT : decide ((T : Int) < (v.size : Int)) = true := decide_eq_true (by omega)
                have hMc := May_is (cutP tz) true (v.extract G v.size) (Nat.le_trans (ext_size v G v.size) (by omega))
                rw [cut_may oz mz (ext_mem v G v.size)] at hMc
                generalize cutP tz = ck at *
                simp only [shV] at hMc HCu
                have HMc := Lib.hid hMc
                clear hMc
                have i0 : (0 : Int) ≤ (G : Int) := by omega
                have i1 : (G : Int) ≤ (v.size : Int) := by omega
                have i2 : (v.size : Int) ≤ (v.size : Int) := by omega
                go_upto_region 14 with fail
                obtain ⟨L0, L1, L2, L3, L4, L5, L6, L7⟩ := hZ10.laters
                refine region_later (by kernel_rfl) (by kernel_rfl) ?_
                repeat (go_big_quiet_step (fail))
                go_big_quiet_step (exact later (HCu.out _))
                repeat (go_big_quiet_step (fail))
                go_big_quiet_step (exact later (HMc.out _))
                repeat (go_big_quiet_step (fail))
                refine wpQuiet_nil ?_
                rintro _ ⟨m, rfl⟩
                have hX11 := hX10.after m.below
                have hY11 := hY10.after m.below
                have hb11 := bel_step hb10 m.below
                clear L0 L1 L2 L3 L4 L5 L6 L7 hX10 hY10 hZ10 hb10
                generalize m.at_ = V at *
                cases c with
                | false =>
                  have mu : mayB (usedP tx false) true v = true := used_may ox hm1 (fun h => (by cases h.1))
                  have d2 := def_may (w := ty) ox oy mu
                  have o2 := oth_may ox oy mu hm2
                  have u1 := Default_is tx ty false
                  have u2 := May_is (defP tx ty false) true v (by omega)
                  rw [d2] at u2
                  have u3 := Given_is tx false
                  have u4 := May_is (usedP tx false) true v (by omega)
                  rw [mu] at u4
                  have u5 := Other_is tx ty false
                  have u6 := May_is (othP tx ty false) true t (by omega)
                  rw [o2] at u6
                  have u7 := Assigned_is tx ty false
                  clear d2 o2 mu
                  generalize defP tx ty false = e1 at *
                  generalize usedP tx false = e2 at *
                  generalize othP tx ty false = e3 at *
                  simp only [shV] at u1 u2 u3 u4 u5 u6 u7
                  have U1 := Lib.hid u1
                  clear u1
                  have U2 := Lib.hid u2
                  clear u2
                  have U3 := Lib.hid u3
                  clear u3
                  have U4 := Lib.hid u4
                  clear u4
                  have U5 := Lib.hid u5
                  clear u5
                  have U6 := Lib.hid u6
                  clear u6
                  have U7 := Lib.hid u7
                  clear u7
                  clear hm1 hm2 ox oy oz mz
                  obtain ⟨c0, c1, c2, c3, c4, c5, c6, c7⟩ := hX11.cells
                  obtain ⟨d0, d1, d2, d3, d4, d5, d6, d7⟩ := hY11.cells
                  go_wp2_with fail
                  clear c0 c1 c2 c3 c4 c5 c6 c7 d0 d1 d2 d3 d4 d5 d6 d7
                  refine (U1.out _).mono ?_
                  rintro e v11 ⟨rfl, j11⟩
                  have hX12 := hX11.after j11
                  have hY12 := hY11.after j11
                  have hb12 := bel_step hb11 j11
                  clear hX11 hY11 hb11 j11
                  go_wp2_with fail
                  refine (U2.out _).mono ?_
                  rintro e v12 ⟨rfl, j12⟩
                  have hX13 := hX12.after j12
                  have hY13 := hY12.after j12
                  have hb13 := bel_step hb12 j12
                  clear hX12 hY12 hb12 j12
                  obtain ⟨c0, c1, c2, c3, c4, c5, c6, c7⟩ := hX13.cells
                  go_wp2_with fail
                  clear c0 c1 c2 c3 c4 c5 c6 c7
                  refine (U3.out _).mono ?_
                  rintro e v13 ⟨rfl, j13⟩
                  have hX14 := hX13.after j13
                  have hY14 := hY13.after j13
                  have hb14 := bel_step hb13 j13
                  clear hX13 hY13 hb13 j13
                  go_wp2_with fail
                  refine (U4.out _).mono ?_
                  rintro e v14 ⟨rfl, j14⟩
                  have hX15 := hX14.after j14
                  have hY15 := hY14.after j14
                  have hb15 := bel_step hb14 j14
                  clear hX14 hY14 hb14 j14
                  obtain ⟨c0, c1, c2, c3, c4, c5, c6, c7⟩ := hX15.cells
                  obtain ⟨d0, d1, d2, d3, d4, d5, d6, d7⟩ := hY15.cells
                  go_wp2_with fail
                  clear c0 c1 c2 c3 c4 c5 c6 c7 d0 d1 d2 d3 d4 d5 d6 d7
                  refine (U5.out _).mono ?_
                  rintro e v15 ⟨rfl, j15⟩
                  have hX16 := hX15.after j15
                  have hY16 := hY15.after j15
                  have hb16 := bel_step hb15 j15
                  clear hX15 hY15 hb15 j15
                  go_wp2_with fail
                  refine (U6.out _).mono ?_
                  rintro e v16 ⟨rfl, j16⟩
                  have hX17 := hX16.after j16
                  have hY17 := hY16.after j16
                  have hb17 := bel_step hb16 j16
                  clear hX16 hY16 hb16 j16
                  obtain ⟨c0, c1, c2, c3, c4, c5, c6, c7⟩ := hX17.cells
                  obtain ⟨d0, d1, d2, d3, d4, d5, d6, d7⟩ := hY17.cells
                  go_wp2_with fail
                  clear c0 c1 c2 c3 c4 c5 c6 c7 d0 d1 d2 d3 d4 d5 d6 d7
                  refine (U7.out _).mono ?_
                  rintro e v17 ⟨rfl, j17⟩
                  have hX18 := hX17.after j17
                  have hY18 := hY17.after j17
                  have hb18 := bel_step hb17 j17
                  clear hX17 hY17 hb17 j17
                  go_wp2_with fail
                  refine (U2.out _).mono ?_
                  rintro e v18 ⟨rfl, j18⟩
                  have hX19 := hX18.after j18
                  have hY19 := hY18.after j18
                  have hb19 := bel_step hb18 j18
                  clear hX18 hY18 hb18 j18
                  go_wp2_with fail
                  refine (HW.out _).mono ?_
                  rintro e v19 ⟨rfl, j19⟩
                  have hX20 := hX19.after j19
                  have hY20 := hY19.after j19
                  have hb20 := bel_step hb19 j19
                  clear hX19 hY19 hb19 j19
                  go_wp2
                  go_ret
                  exact ⟨rfl, hb20⟩
                | true =>
                  cases he : empB v with
                  | false =>
                    have mu : mayB (usedP tx true) true v = true := used_may ox hm1 (fun h => no_both h.2 he)
                    unfold empB at he
                    have d2 := def_may (w := ty) ox oy mu
                    have o2 := oth_may ox oy mu hm2
                    have u1 := Default_is tx ty true
                    have u2 := May_is (defP tx ty true) true v (by omega)
                    rw [d2] at u2
                    have u3 := Given_is tx true
                    have u4 := May_is (usedP tx true) true v (by omega)
                    rw [mu] at u4
                    have u5 := Other_is tx ty true
                    have u6 := May_is (othP tx ty true) true t (by omega)
                    rw [o2] at u6
                    have u7 := Assigned_is tx ty true
                    clear d2 o2 mu
                    generalize defP tx ty true = e1 at *
                    generalize usedP tx true = e2 at *
                    generalize othP tx ty true = e3 at *
                    simp only [shV] at u1 u2 u3 u4 u5 u6 u7
                    have U1 := Lib.hid u1
                    clear u1
                    have U2 := Lib.hid u2
                    clear u2
                    have U3 := Lib.hid u3
                    clear u3
                    have U4 := Lib.hid u4
                    clear u4
                    have U5 := Lib.hid u5
                    clear u5
                    have U6 := Lib.hid u6
                    clear u6
                    have U7 := Lib.hid u7
                    clear u7
                    clear hm1 hm2 ox oy oz mz
                    obtain ⟨c0, c1, c2, c3, c4, c5, c6, c7⟩ := hX11.cells
                    obtain ⟨d0, d1, d2, d3, d4, d5, d6, d7⟩ := hY11.cells
                    go_wp2_with fail
                    clear c0 c1 c2 c3 c4 c5 c6 c7 d0 d1 d2 d3 d4 d5 d6 d7
                    refine (U1.out _).mono ?_
                    rintro e v11 ⟨rfl, j11⟩
                    have hX12 := hX11.after j11
                    have hY12 := hY11.after j11
                    have hb12 := bel_step hb11 j11
                    clear hX11 hY11 hb11 j11
                    go_wp2_with fail
                    refine (U2.out _).mono ?_
                    rintro e v12 ⟨rfl, j12⟩
                    have hX13 := hX12.after j12
                    have hY13 := hY12.after j12
                    have hb13 := bel_step hb12 j12
                    clear hX12 hY12 hb12 j12
                    obtain ⟨c0, c1, c2, c3, c4, c5, c6, c7⟩ := hX13.cells
                    go_wp2_with fail
                    clear c0 c1 c2 c3 c4 c5 c6 c7
                    refine (U3.out _).mono ?_
                    rintro e v13 ⟨rfl, j13⟩
                    have hX14 := hX13.after j13
                    have hY14 := hY13.after j13
                    have hb14 := bel_step hb13 j13
                    clear hX13 hY13 hb13 j13
                    go_wp2_with fail
                    refine (U4.out _).mono ?_
                    rintro e v14 ⟨rfl, j14⟩
                    have hX15 := hX14.after j14
                    have hY15 := hY14.after j14
                    have hb15 := bel_step hb14 j14
                    clear hX14 hY14 hb14 j14
                    obtain ⟨c0, c1, c2, c3, c4, c5, c6, c7⟩ := hX15.cells
                    obtain ⟨d0, d1, d2, d3, d4, d5, d6, d7⟩ := hY15.cells
                    go_wp2_with fail
                    clear c0 c1 c2 c3 c4 c5 c6 c7 d0 d1 d2 d3 d4 d5 d6 d7
                    refine (U5.out _).mono ?_
                    rintro e v15 ⟨rfl, j15⟩
                    have hX16 := hX15.after j15
                    have hY16 := hY15.after j15
                    have hb16 := bel_step hb15 j15
                    clear hX15 hY15 hb15 j15
                    go_wp2_with fail
                    refine (U6.out _).mono ?_
                    rintro e v16 ⟨rfl, j16⟩
                    have hX17 := hX16.after j16
                    have hY17 := hY16.after j16
                    have hb17 := bel_step hb16 j16
                    clear hX16 hY16 hb16 j16
                    obtain ⟨c0, c1, c2, c3, c4, c5, c6, c7⟩ := hX17.cells
                    obtain ⟨d0, d1, d2, d3, d4, d5, d6, d7⟩ := hY17.cells
                    go_wp2_with fail
                    clear c0 c1 c2 c3 c4 c5 c6 c7 d0 d1 d2 d3 d4 d5 d6 d7
                    refine (U7.out _).mono ?_
                    rintro e v17 ⟨rfl, j17⟩
                    have hX18 := hX17.after j17
                    have hY18 := hY17.after j17
                    have hb18 := bel_step hb17 j17
                    clear hX17 hY17 hb17 j17
                    go_wp2_with fail
                    refine (U2.out _).mono ?_
                    rintro e v18 ⟨rfl, j18⟩
                    have hX19 := hX18.after j18
                    have hY19 := hY18.after j18
                    have hb19 := bel_step hb18 j18
                    clear hX18 hY18 hb18 j18
                    go_wp2_with fail
                    refine (HW.out _).mono ?_
                    rintro e v19 ⟨rfl, j19⟩
                    have hX20 := hX19.after j19
                    have hY20 := hY19.after j19
                    have hb20 := bel_step hb19 j19
                    clear hX19 hY19 hb19 j19
                    go_wp2
                    go_ret
                    exact ⟨rfl, hb20⟩
                  | true =>
                    have ho : othB tx true = true := oth_empty ox hm1 he
                    unfold empB at he
                    have d2 := def_may2 ox oy ho hm2
                    have o2 := oth_may2 oy ho
                    have u1 := Default_is tx ty true
                    have u2 := May_is (defP tx ty true) true t (by omega)
                    rw [d2] at u2
                    have u5 := Other_is tx ty true
                    have u6 := May_is (othP tx ty true) true ⟨#[]⟩ (by decide)
                    rw [o2] at u6
                    have u7 := Assigned_is tx ty true
                    clear d2 o2 ho
                    generalize defP tx ty true = e1 at *
                    generalize othP tx ty true = e3 at *
                    simp only [shV] at u1 u2 u5 u6 u7
                    have U1 := Lib.hid u1
                    clear u1
                    have U2 := Lib.hid u2
                    clear u2
                    have U5 := Lib.hid u5
                    clear u5
                    have U6 := Lib.hid u6
                    clear u6
                    have U7 := Lib.hid u7
                    clear u7
                    clear hm1 hm2 ox oy oz mz
                    obtain ⟨c0, c1, c2, c3, c4, c5, c6, c7⟩ := hX11.cells
                    obtain ⟨d0, d1, d2, d3, d4, d5, d6, d7⟩ := hY11.cells
                    go_wp2_with fail
                    clear c0 c1 c2 c3 c4 c5 c6 c7 d0 d1 d2 d3 d4 d5 d6 d7
                    refine (U1.out _).mono ?_
                    rintro e v11 ⟨rfl, j11⟩
                    have hX12 := hX11.after j11
                    have hY12 := hY11.after j11
                    have hb12 := bel_step hb11 j11
                    clear hX11 hY11 hb11 j11
                    go_wp2_with fail
                    refine (U2.out _).mono ?_
                    rintro e v12 ⟨rfl, j12⟩
                    have hX13 := hX12.after j12
                    have hY13 := hY12.after j12
                    have hb13 := bel_step hb12 j12
                    clear hX12 hY12 hb12 j12
                    obtain ⟨c0, c1, c2, c3, c4, c5, c6, c7⟩ := hX13.cells
                    obtain ⟨d0, d1, d2, d3, d4, d5, d6, d7⟩ := hY13.cells
                    go_wp2_with fail
                    clear c0 c1 c2 c3 c4 c5 c6 c7 d0 d1 d2 d3 d4 d5 d6 d7
                    refine (U7.out _).mono ?_
                    rintro e v13 ⟨rfl, j13⟩
                    have hX14 := hX13.after j13
                    have hY14 := hY13.after j13
                    have hb14 := bel_step hb13 j13
                    clear hX13 hY13 hb13 j13
                    go_wp2_with fail
                    refine (U2.out _).mono ?_
                    rintro e v14 ⟨rfl, j14⟩
                    have hX15 := hX14.after j14
                    have hY15 := hY14.after j14
                    have hb15 := bel_step hb14 j14
                    clear hX14 hY14 hb14 j14
                    obtain ⟨c0, c1, c2, c3, c4, c5, c6, c7⟩ := hX15.cells
                    obtain ⟨d0, d1, d2, d3, d4, d5, d6, d7⟩ := hY15.cells
                    go_wp2_with fail
                    clear c0 c1 c2 c3 c4 c5 c6 c7 d0 d1 d2 d3 d4 d5 d6 d7
                    refine (U5.out _).mono ?_
                    rintro e v15 ⟨rfl, j15⟩
                    have hX16 := hX15.after j15
                    have hY16 := hY15.after j15
                    have hb16 := bel_step hb15 j15
                    clear hX15 hY15 hb15 j15
                    go_wp2_with fail
                    refine (U6.out _).mono ?_
                    rintro e v16 ⟨rfl, j16⟩
                    have hX17 := hX16.after j16
                    have hY17 := hY16.after j16
                    have hb17 := bel_step hb16 j16
                    clear hX16 hY16 hb16 j16
                    go_wp2_with fail
                    refine (HW.out _).mono ?_
                    rintro e v17 ⟨rfl, j17⟩
                    have hX18 := hX17.after j17
                    have hY18 := hY17.after j17
                    have hb18 := bel_step hb17 j17
                    clear hX17 hY17 hb17 j17
                    go_wp2
                    go_ret
                    exact ⟨rfl, hb18⟩
              · have dT : decide ((T : Int) < (v.size : Int)) = false := decide_eq_false (by omega)
                have hMc := May_is (cutP tz) true (v.extract G T) (Nat.le_trans (ext_size v G T) (by omega))
                rw [cut_may oz mz (ext_mem v G T)] at hMc
                generalize cutP tz = ck at *
                simp only [shV] at hMc HCu
                have HMc := Lib.hid hMc
                clear hMc
                have i0 : (0 : Int) ≤ (G : Int) := by omega
                have i1 : (G : Int) ≤ (T : Int) := by omega
                have i2 : (T : Int) ≤ (v.size : Int) := by omega
                go_upto_region 14 with fail
                obtain ⟨L0, L1, L2, L3, L4, L5, L6, L7⟩ := hZ10.laters
                refine region_later (by kernel_rfl) (by kernel_rfl) ?_
                repeat (go_big_quiet_step (fail))
                go_big_quiet_step (exact later (HCu.out _))
                repeat (go_big_quiet_step (fail))
                go_big_quiet_step (exact later (HMc.out _))
                repeat (go_big_quiet_step (fail))
                refine wpQuiet_nil ?_
                rintro _ ⟨m, rfl⟩
                have hX11 := hX10.after m.below
                have hY11 := hY10.after m.below
                have hb11 := bel_step hb10 m.below
                clear L0 L1 L2 L3 L4 L5 L6 L7 hX10 hY10 hZ10 hb10
                generalize m.at_ = V at *
                cases c with
                | false =>
                  have mu : mayB (usedP tx false) true v = true := used_may ox hm1 (fun h => (by cases h.1))
                  have d2 := def_may (w := ty) ox oy mu
                  have o2 := oth_may ox oy mu hm2
                  have u1 := Default_is tx ty false
                  have u2 := May_is (defP tx ty false) true v (by omega)
                  rw [d2] at u2
                  have u3 := Given_is tx false
                  have u4 := May_is (usedP tx false) true v (by omega)
                  rw [mu] at u4
                  have u5 := Other_is tx ty false
                  have u6 := May_is (othP tx ty false) true t (by omega)
                  rw [o2] at u6
                  have u7 := Assigned_is tx ty false
                  clear d2 o2 mu
                  generalize defP tx ty false = e1 at *
                  generalize usedP tx false = e2 at *
                  generalize othP tx ty false = e3 at *
                  simp only [shV] at u1 u2 u3 u4 u5 u6 u7
                  have U1 := Lib.hid u1
                  clear u1
                  have U2 := Lib.hid u2
                  clear u2
                  have U3 := Lib.hid u3
                  clear u3
                  have U4 := Lib.hid u4
                  clear u4
                  have U5 := Lib.hid u5
                  clear u5
                  have U6 := Lib.hid u6
                  clear u6
                  have U7 := Lib.hid u7
                  clear u7
                  clear hm1 hm2 ox oy oz mz
                  obtain ⟨c0, c1, c2, c3, c4, c5, c6, c7⟩ := hX11.cells
                  obtain ⟨d0, d1, d2, d3, d4, d5, d6, d7⟩ := hY11.cells
                  go_wp2_with fail
                  clear c0 c1 c2 c3 c4 c5 c6 c7 d0 d1 d2 d3 d4 d5 d6 d7
                  refine (U1.out _).mono ?_
                  rintro e v11 ⟨rfl, j11⟩
                  have hX12 := hX11.after j11
                  have hY12 := hY11.after j11
                  have hb12 := bel_step hb11 j11
                  clear hX11 hY11 hb11 j11
                  go_wp2_with fail
                  refine (U2.out _).mono ?_
                  rintro e v12 ⟨rfl, j12⟩
                  have hX13 := hX12.after j12
                  have hY13 := hY12.after j12
                  have hb13 := bel_step hb12 j12
                  clear hX12 hY12 hb12 j12
                  obtain ⟨c0, c1, c2, c3, c4, c5, c6, c7⟩ := hX13.cells
                  go_wp2_with fail
                  clear c0 c1 c2 c3 c4 c5 c6 c7
                  refine (U3.out _).mono ?_
                  rintro e v13 ⟨rfl, j13⟩
                  have hX14 := hX13.after j13
                  have hY14 := hY13.after j13
                  have hb14 := bel_step hb13 j13
                  clear hX13 hY13 hb13 j13
                  go_wp2_with fail
                  refine (U4.out _).mono ?_
                  rintro e v14 ⟨rfl, j14⟩
                  have hX15 := hX14.after j14
                  have hY15 := hY14.after j14
                  have hb15 := bel_step hb14 j14
                  clear hX14 hY14 hb14 j14
                  obtain ⟨c0, c1, c2, c3, c4, c5, c6, c7⟩ := hX15.cells
                  obtain ⟨d0, d1, d2, d3, d4, d5, d6, d7⟩ := hY15.cells
                  go_wp2_with fail
                  clear c0 c1 c2 c3 c4 c5 c6 c7 d0 d1 d2 d3 d4 d5 d6 d7
                  refine (U5.out _).mono ?_
                  rintro e v15 ⟨rfl, j15⟩
                  have hX16 := hX15.after j15
                  have hY16 := hY15.after j15
                  have hb16 := bel_step hb15 j15
                  clear hX15 hY15 hb15 j15
                  go_wp2_with fail
                  refine (U6.out _).mono ?_
                  rintro e v16 ⟨rfl, j16⟩
                  have hX17 := hX16.after j16
                  have hY17 := hY16.after j16
                  have hb17 := bel_step hb16 j16
                  clear hX16 hY16 hb16 j16
                  obtain ⟨c0, c1, c2, c3, c4, c5, c6, c7⟩ := hX17.cells
                  obtain ⟨d0, d1, d2, d3, d4, d5, d6, d7⟩ := hY17.cells
                  go_wp2_with fail
                  clear c0 c1 c2 c3 c4 c5 c6 c7 d0 d1 d2 d3 d4 d5 d6 d7
                  refine (U7.out _).mono ?_
                  rintro e v17 ⟨rfl, j17⟩
                  have hX18 := hX17.after j17
                  have hY18 := hY17.after j17
                  have hb18 := bel_step hb17 j17
                  clear hX17 hY17 hb17 j17
                  go_wp2_with fail
                  refine (U2.out _).mono ?_
                  rintro e v18 ⟨rfl, j18⟩
                  have hX19 := hX18.after j18
                  have hY19 := hY18.after j18
                  have hb19 := bel_step hb18 j18
                  clear hX18 hY18 hb18 j18
                  go_wp2_with fail
                  refine (HW.out _).mono ?_
                  rintro e v19 ⟨rfl, j19⟩
                  have hX20 := hX19.after j19
                  have hY20 := hY19.after j19
                  have hb20 := bel_step hb19 j19
                  clear hX19 hY19 hb19 j19
                  go_wp2
                  go_ret
                  exact ⟨rfl, hb20⟩
                | true =>
                  cases he : empB v with
                  | false =>
                    have mu : mayB (usedP tx true) true v = true := used_may ox hm1 (fun h => no_both h.2 he)
                    unfold empB at he
                    have d2 := def_may (w := ty) ox oy mu
                    have o2 := oth_may ox oy mu hm2
                    have u1 := Default_is tx ty true
                    have u2 := May_is (defP tx ty true) true v (by omega)
                    rw [d2] at u2
                    have u3 := Given_is tx true
                    have u4 := May_is (usedP tx true) true v (by omega)
                    rw [mu] at u4
                    have u5 := Other_is tx ty true
                    have u6 := May_is (othP tx ty true) true t (by omega)
                    rw [o2] at u6
                    have u7 := Assigned_is tx ty true
                    clear d2 o2 mu
                    generalize defP tx ty true = e1 at *
                    generalize usedP tx true = e2 at *
                    generalize othP tx ty true = e3 at *
                    simp only [shV] at u1 u2 u3 u4 u5 u6 u7
                    have U1 := Lib.hid u1
                    clear u1
                    have U2 := Lib.hid u2
                    clear u2
                    have U3 := Lib.hid u3
                    clear u3
                    have U4 := Lib.hid u4
                    clear u4
                    have U5 := Lib.hid u5
                    clear u5
                    have U6 := Lib.hid u6
                    clear u6
                    have U7 := Lib.hid u7
                    clear u7
                    clear hm1 hm2 ox oy oz mz
                    obtain ⟨c0, c1, c2, c3, c4, c5, c6, c7⟩ := hX11.cells
                    obtain ⟨d0, d1, d2, d3, d4, d5, d6, d7⟩ := hY11.cells
                    go_wp2_with fail
                    clear c0 c1 c2 c3 c4 c5 c6 c7 d0 d1 d2 d3 d4 d5 d6 d7
                    refine (U1.out _).mono ?_
                    rintro e v11 ⟨rfl, j11⟩
                    have hX12 := hX11.after j11
                    have hY12 := hY11.after j11
                    have hb12 := bel_step hb11 j11
                    clear hX11 hY11 hb11 j11
                    go_wp2_with fail
                    refine (U2.out _).mono ?_
                    rintro e v12 ⟨rfl, j12⟩
                    have hX13 := hX12.after j12
                    have hY13 := hY12.after j12
                    have hb13 := bel_step hb12 j12
                    clear hX12 hY12 hb12 j12
                    obtain ⟨c0, c1, c2, c3, c4, c5, c6, c7⟩ := hX13.cells
                    go_wp2_with fail
                    clear c0 c1 c2 c3 c4 c5 c6 c7
                    refine (U3.out _).mono ?_
                    rintro e v13 ⟨rfl, j13⟩
                    have hX14 := hX13.after j13
                    have hY14 := hY13.after j13
                    have hb14 := bel_step hb13 j13
                    clear hX13 hY13 hb13 j13
                    go_wp2_with fail
                    refine (U4.out _).mono ?_
                    rintro e v14 ⟨rfl, j14⟩
                    have hX15 := hX14.after j14
                    have hY15 := hY14.after j14
                    have hb15 := bel_step hb14 j14
                    clear hX14 hY14 hb14 j14
                    obtain ⟨c0, c1, c2, c3, c4, c5, c6, c7⟩ := hX15.cells
                    obtain ⟨d0, d1, d2, d3, d4, d5, d6, d7⟩ := hY15.cells
                    go_wp2_with fail
                    clear c0 c1 c2 c3 c4 c5 c6 c7 d0 d1 d2 d3 d4 d5 d6 d7
                    refine (U5.out _).mono ?_
                    rintro e v15 ⟨rfl, j15⟩
                    have hX16 := hX15.after j15
                    have hY16 := hY15.after j15
                    have hb16 := bel_step hb15 j15
                    clear hX15 hY15 hb15 j15
                    go_wp2_with fail
                    refine (U6.out _).mono ?_
                    rintro e v16 ⟨rfl, j16⟩
                    have hX17 := hX16.after j16
                    have hY17 := hY16.after j16
                    have hb17 := bel_step hb16 j16
                    clear hX16 hY16 hb16 j16
                    obtain ⟨c0, c1, c2, c3, c4, c5, c6, c7⟩ := hX17.cells
                    obtain ⟨d0, d1, d2, d3, d4, d5, d6, d7⟩ := hY17.cells
                    go_wp2_with fail
                    clear c0 c1 c2 c3 c4 c5 c6 c7 d0 d1 d2 d3 d4 d5 d6 d7
                    refine (U7.out _).mono ?_
                    rintro e v17 ⟨rfl, j17⟩
                    have hX18 := hX17.after j17
                    have hY18 := hY17.after j17
                    have hb18 := bel_step hb17 j17
                    clear hX17 hY17 hb17 j17
                    go_wp2_with fail
                    refine (U2.out _).mono ?_
                    rintro e v18 ⟨rfl, j18⟩
                    have hX19 := hX18.after j18
                    have hY19 := hY18.after j18
                    have hb19 := bel_step hb18 j18
                    clear hX18 hY18 hb18 j18
                    go_wp2_with fail
                    refine (HW.out _).mono ?_
                    rintro e v19 ⟨rfl, j19⟩
                    have hX20 := hX19.after j19
                    have hY20 := hY19.after j19
                    have hb20 := bel_step hb19 j19
                    clear hX19 hY19 hb19 j19
                    go_wp2
                    go_ret
                    exact ⟨rfl, hb20⟩
                  | true =>
                    have ho : othB tx true = true := oth_empty ox hm1 he
                    unfold empB at he
                    have d2 := def_may2 ox oy ho hm2
                    have o2 := oth_may2 oy ho
                    have u1 := Default_is tx ty true
                    have u2 := May_is (defP tx ty true) true t (by omega)
                    rw [d2] at u2
                    have u5 := Other_is tx ty true
                    have u6 := May_is (othP tx ty true) true ⟨#[]⟩ (by decide)
                    rw [o2] at u6
                    have u7 := Assigned_is tx ty true
                    clear d2 o2 ho
                    generalize defP tx ty true = e1 at *
                    generalize othP tx ty true = e3 at *
                    simp only [shV] at u1 u2 u5 u6 u7
                    have U1 := Lib.hid u1
                    clear u1
                    have U2 := Lib.hid u2
                    clear u2
                    have U5 := Lib.hid u5
                    clear u5
                    have U6 := Lib.hid u6
                    clear u6
                    have U7 := Lib.hid u7
                    clear u7
                    clear hm1 hm2 ox oy oz mz
                    obtain ⟨c0, c1, c2, c3, c4, c5, c6, c7⟩ := hX11.cells
                    obtain ⟨d0, d1, d2, d3, d4, d5, d6, d7⟩ := hY11.cells
                    go_wp2_with fail
                    clear c0 c1 c2 c3 c4 c5 c6 c7 d0 d1 d2 d3 d4 d5 d6 d7
                    refine (U1.out _).mono ?_
                    rintro e v11 ⟨rfl, j11⟩
                    have hX12 := hX11.after j11
                    have hY12 := hY11.after j11
                    have hb12 := bel_step hb11 j11
                    clear hX11 hY11 hb11 j11
                    go_wp2_with fail
                    refine (U2.out _).mono ?_
                    rintro e v12 ⟨rfl, j12⟩
                    have hX13 := hX12.after j12
                    have hY13 := hY12.after j12
                    have hb13 := bel_step hb12 j12
                    clear hX12 hY12 hb12 j12
                    obtain ⟨c0, c1, c2, c3, c4, c5, c6, c7⟩ := hX13.cells
                    obtain ⟨d0, d1, d2, d3, d4, d5, d6, d7⟩ := hY13.cells
                    go_wp2_with fail
                    clear c0 c1 c2 c3 c4 c5 c6 c7 d0 d1 d2 d3 d4 d5 d6 d7
                    refine (U7.out _).mono ?_
                    rintro e v13 ⟨rfl, j13⟩
                    have hX14 := hX13.after j13
                    have hY14 := hY13.after j13
                    have hb14 := bel_step hb13 j13
                    clear hX13 hY13 hb13 j13
                    go_wp2_with fail
                    refine (U2.out _).mono ?_
                    rintro e v14 ⟨rfl, j14⟩
                    have hX15 := hX14.after j14
                    have hY15 := hY14.after j14
                    have hb15 := bel_step hb14 j14
                    clear hX14 hY14 hb14 j14
                    obtain ⟨c0, c1, c2, c3, c4, c5, c6, c7⟩ := hX15.cells
                    obtain ⟨d0, d1, d2, d3, d4, d5, d6, d7⟩ := hY15.cells
                    go_wp2_with fail
                    clear c0 c1 c2 c3 c4 c5 c6 c7 d0 d1 d2 d3 d4 d5 d6 d7
                    refine (U5.out _).mono ?_
                    rintro e v15 ⟨rfl, j15⟩
                    have hX16 := hX15.after j15
                    have hY16 := hY15.after j15
                    have hb16 := bel_step hb15 j15
                    clear hX15 hY15 hb15 j15
                    go_wp2_with fail
                    refine (U6.out _).mono ?_
                    rintro e v16 ⟨rfl, j16⟩
                    have hX17 := hX16.after j16
                    have hY17 := hY16.after j16
                    have hb17 := bel_step hb16 j16
                    clear hX16 hY16 hb16 j16
                    go_wp2_with fail
                    refine (HW.out _).mono ?_
                    rintro e v17 ⟨rfl, j17⟩
                    have hX18 := hX17.after j17
                    have hY18 := hY17.after j17
                    have hb18 := bel_step hb17 j17
                    clear hX17 hY17 hb17 j17
                    go_wp2
                    go_ret
                    exact ⟨rfl, hb18⟩
            · have dG : decide ((0 : Int) < (G : Int)) = false := decide_eq_false (by omega)
              have hMc := May_is (cutP tz) true (v.extract G T) (Nat.le_trans (ext_size v G T) (by omega))
              rw [cut_may oz mz (ext_mem v G T)] at hMc
              generalize cutP tz = ck at *
              simp only [shV] at hMc HCu
              have HMc := Lib.hid hMc
              clear hMc
              have i0 : (0 : Int) ≤ (G : Int) := by omega
              have i1 : (G : Int) ≤ (T : Int) := by omega
              have i2 : (T : Int) ≤ (v.size : Int) := by omega
              go_upto_region 14 with fail
              obtain ⟨L0, L1, L2, L3, L4, L5, L6, L7⟩ := hZ10.laters
              refine region_later (by kernel_rfl) (by kernel_rfl) ?_
              repeat (go_big_quiet_step (fail))
              go_big_quiet_step (exact later (HCu.out _))
              repeat (go_big_quiet_step (fail))
              go_big_quiet_step (exact later (HMc.out _))
              repeat (go_big_quiet_step (fail))
              refine wpQuiet_nil ?_
              rintro _ ⟨m, rfl⟩
              have hX11 := hX10.after m.below
              have hY11 := hY10.after m.below
              have hb11 := bel_step hb10 m.below
              clear L0 L1 L2 L3 L4 L5 L6 L7 hX10 hY10 hZ10 hb10
              generalize m.at_ = V at *
              cases c with
              | false =>
                have mu : mayB (usedP tx false) true v = true := used_may ox hm1 (fun h => (by cases h.1))
                have d2 := def_may (w := ty) ox oy mu
                have o2 := oth_may ox oy mu hm2
                have u1 := Default_is tx ty false
                have u2 := May_is (defP tx ty false) true v (by omega)
                rw [d2] at u2
                have u3 := Given_is tx false
                have u4 := May_is (usedP tx false) true v (by omega)
                rw [mu] at u4
                have u5 := Other_is tx ty false
                have u6 := May_is (othP tx ty false) true t (by omega)
                rw [o2] at u6
                have u7 := Assigned_is tx ty false
                clear d2 o2 mu
                generalize defP tx ty false = e1 at *
                generalize usedP tx false = e2 at *
                generalize othP tx ty false = e3 at *
                simp only [shV] at u1 u2 u3 u4 u5 u6 u7
                have U1 := Lib.hid u1
                clear u1
                have U2 := Lib.hid u2
                clear u2
                have U3 := Lib.hid u3
                clear u3
                have U4 := Lib.hid u4
                clear u4
                have U5 := Lib.hid u5
                clear u5
                have U6 := Lib.hid u6
                clear u6
                have U7 := Lib.hid u7
                clear u7
                clear hm1 hm2 ox oy oz mz
                obtain ⟨c0, c1, c2, c3, c4, c5, c6, c7⟩ := hX11.cells
                obtain ⟨d0, d1, d2, d3, d4, d5, d6, d7⟩ := hY11.cells
                go_wp2_with fail
                clear c0 c1 c2 c3 c4 c5 c6 c7 d0 d1 d2 d3 d4 d5 d6 d7
                refine (U1.out _).mono ?_
                rintro e v11 ⟨rfl, j11⟩
                have hX12 := hX11.after j11
                have hY12 := hY11.after j11
                have hb12 := bel_step hb11 j11
                clear hX11 hY11 hb11 j11
                go_wp2_with fail
                refine (U2.out _).mono ?_
                rintro e v12 ⟨rfl, j12⟩
                have hX13 := hX12.after j12
                have hY13 := hY12.after j12
                have hb13 := bel_step hb12 j12
                clear hX12 hY12 hb12 j12
                obtain ⟨c0, c1, c2, c3, c4, c5, c6, c7⟩ := hX13.cells
                go_wp2_with fail
                clear c0 c1 c2 c3 c4 c5 c6 c7
                refine (U3.out _).mono ?_
                rintro e v13 ⟨rfl, j13⟩
                have hX14 := hX13.after j13
                have hY14 := hY13.after j13
                have hb14 := bel_step hb13 j13
                clear hX13 hY13 hb13 j13
                go_wp2_with fail
                refine (U4.out _).mono ?_
                rintro e v14 ⟨rfl, j14⟩
                have hX15 := hX14.after j14
                have hY15 := hY14.after j14
                have hb15 := bel_step hb14 j14
                clear hX14 hY14 hb14 j14
                obtain ⟨c0, c1, c2, c3, c4, c5, c6, c7⟩ := hX15.cells
                obtain ⟨d0, d1, d2, d3, d4, d5, d6, d7⟩ := hY15.cells
                go_wp2_with fail
                clear c0 c1 c2 c3 c4 c5 c6 c7 d0 d1 d2 d3 d4 d5 d6 d7
                refine (U5.out _).mono ?_
                rintro e v15 ⟨rfl, j15⟩
                have hX16 := hX15.after j15
                have hY16 := hY15.after j15
                have hb16 := bel_step hb15 j15
                clear hX15 hY15 hb15 j15
                go_wp2_with fail
                refine (U6.out _).mono ?_
                rintro e v16 ⟨rfl, j16⟩
                have hX17 := hX16.after j16
                have hY17 := hY16.after j16
                have hb17 := bel_step hb16 j16
                clear hX16 hY16 hb16 j16
                obtain ⟨c0, c1, c2, c3, c4, c5, c6, c7⟩ := hX17.cells
                obtain ⟨d0, d1, d2, d3, d4, d5, d6, d7⟩ := hY17.cells
                go_wp2_with fail
                clear c0 c1 c2 c3 c4 c5 c6 c7 d0 d1 d2 d3 d4 d5 d6 d7
                refine (U7.out _).mono ?_
                rintro e v17 ⟨rfl, j17⟩
                have hX18 := hX17.after j17
                have hY18 := hY17.after j17
                have hb18 := bel_step hb17 j17
                clear hX17 hY17 hb17 j17
                go_wp2_with fail
                refine (U2.out _).mono ?_
                rintro e v18 ⟨rfl, j18⟩
                have hX19 := hX18.after j18
                have hY19 := hY18.after j18
                have hb19 := bel_step hb18 j18
                clear hX18 hY18 hb18 j18
                go_wp2_with fail
                refine (HW.out _).mono ?_
                rintro e v19 ⟨rfl, j19⟩
                have hX20 := hX19.after j19
                have hY20 := hY19.after j19
                have hb20 := bel_step hb19 j19
                clear hX19 hY19 hb19 j19
                go_wp2
                go_ret
                exact ⟨rfl, hb20⟩
              | true =>
                cases he : empB v with
                | false =>
                  have mu : mayB (usedP tx true) true v = true := used_may ox hm1 (fun h => no_both h.2 he)
                  unfold empB at he
                  have d2 := def_may (w := ty) ox oy mu
                  have o2 := oth_may ox oy mu hm2
                  have u1 := Default_is tx ty true
                  have u2 := May_is (defP tx ty true) true v (by omega)
                  rw [d2] at u2
                  have u3 := Given_is tx true
                  have u4 := May_is (usedP tx true) true v (by omega)
                  rw [mu] at u4
                  have u5 := Other_is tx ty true
                  have u6 := May_is (othP tx ty true) true t (by omega)
                  rw [o2] at u6
                  have u7 := Assigned_is tx ty true
                  clear d2 o2 mu
                  generalize defP tx ty true = e1 at *
                  generalize usedP tx true = e2 at *
                  generalize othP tx ty true = e3 at *
                  simp only [shV] at u1 u2 u3 u4 u5 u6 u7
                  have U1 := Lib.hid u1
                  clear u1
                  have U2 := Lib.hid u2
                  clear u2
                  have U3 := Lib.hid u3
                  clear u3
                  have U4 := Lib.hid u4
                  clear u4
                  have U5 := Lib.hid u5
                  clear u5
                  have U6 := Lib.hid u6
                  clear u6
                  have U7 := Lib.hid u7
                  clear u7
                  clear hm1 hm2 ox oy oz mz
                  obtain ⟨c0, c1, c2, c3, c4, c5, c6, c7⟩ := hX11.cells
                  obtain ⟨d0, d1, d2, d3, d4, d5, d6, d7⟩ := hY11.cells
                  go_wp2_with fail
                  clear c0 c1 c2 c3 c4 c5 c6 c7 d0 d1 d2 d3 d4 d5 d6 d7
                  refine (U1.out _).mono ?_
                  rintro e v11 ⟨rfl, j11⟩
                  have hX12 := hX11.after j11
                  have hY12 := hY11.after j11
                  have hb12 := bel_step hb11 j11
                  clear hX11 hY11 hb11 j11
                  go_wp2_with fail
                  refine (U2.out _).mono ?_
                  rintro e v12 ⟨rfl, j12⟩
                  have hX13 := hX12.after j12
                  have hY13 := hY12.after j12
                  have hb13 := bel_step hb12 j12
                  clear hX12 hY12 hb12 j12
                  obtain ⟨c0, c1, c2, c3, c4, c5, c6, c7⟩ := hX13.cells
                  go_wp2_with fail
                  clear c0 c1 c2 c3 c4 c5 c6 c7
                  refine (U3.out _).mono ?_
                  rintro e v13 ⟨rfl, j13⟩
                  have hX14 := hX13.after j13
                  have hY14 := hY13.after j13
                  have hb14 := bel_step hb13 j13
                  clear hX13 hY13 hb13 j13
                  go_wp2_with fail
                  refine (U4.out _).mono ?_
                  rintro e v14 ⟨rfl, j14⟩
                  have hX15 := hX14.after j14
                  have hY15 := hY14.after j14
                  have hb15 := bel_step hb14 j14
                  clear hX14 hY14 hb14 j14
                  obtain ⟨c0, c1, c2, c3, c4, c5, c6, c7⟩ := hX15.cells
                  obtain ⟨d0, d1, d2, d3, d4, d5, d6, d7⟩ := hY15.cells
                  go_wp2_with fail
                  clear c0 c1 c2 c3 c4 c5 c6 c7 d0 d1 d2 d3 d4 d5 d6 d7
                  refine (U5.out _).mono ?_
                  rintro e v15 ⟨rfl, j15⟩
                  have hX16 := hX15.after j15
                  have hY16 := hY15.after j15
                  have hb16 := bel_step hb15 j15
                  clear hX15 hY15 hb15 j15
                  go_wp2_with fail
                  refine (U6.out _).mono ?_
                  rintro e v16 ⟨rfl, j16⟩
                  have hX17 := hX16.after j16
                  have hY17 := hY16.after j16
                  have hb17 := bel_step hb16 j16
                  clear hX16 hY16 hb16 j16
                  obtain ⟨c0, c1, c2, c3, c4, c5, c6, c7⟩ := hX17.cells
                  obtain ⟨d0, d1, d2, d3, d4, d5, d6, d7⟩ := hY17.cells
                  go_wp2_with fail
                  clear c0 c1 c2 c3 c4 c5 c6 c7 d0 d1 d2 d3 d4 d5 d6 d7
                  refine (U7.out _).mono ?_
                  rintro e v17 ⟨rfl, j17⟩
                  have hX18 := hX17.after j17
                  have hY18 := hY17.after j17
                  have hb18 := bel_step hb17 j17
                  clear hX17 hY17 hb17 j17
                  go_wp2_with fail
                  refine (U2.out _).mono ?_
                  rintro e v18 ⟨rfl, j18⟩
                  have hX19 := hX18.after j18
                  have hY19 := hY18.after j18
                  have hb19 := bel_step hb18 j18
                  clear hX18 hY18 hb18 j18
                  go_wp2_with fail
                  refine (HW.out _).mono ?_
                  rintro e v19 ⟨rfl, j19⟩
                  have hX20 := hX19.after j19
                  have hY20 := hY19.after j19
                  have hb20 := bel_step hb19 j19
                  clear hX19 hY19 hb19 j19
                  go_wp2
                  go_ret
                  exact ⟨rfl, hb20⟩
                | true =>
                  have ho : othB tx true = true := oth_empty ox hm1 he
                  unfold empB at he
                  have d2 := def_may2 ox oy ho hm2
                  have o2 := oth_may2 oy ho
                  have u1 := Default_is tx ty true
                  have u2 := May_is (defP tx ty true) true t (by omega)
                  rw [d2] at u2
                  have u5 := Other_is tx ty true
                  have u6 := May_is (othP tx ty true) true ⟨#[]⟩ (by decide)
                  rw [o2] at u6
                  have u7 := Assigned_is tx ty true
                  clear d2 o2 ho
                  generalize defP tx ty true = e1 at *
                  generalize othP tx ty true = e3 at *
                  simp only [shV] at u1 u2 u5 u6 u7
                  have U1 := Lib.hid u1
                  clear u1
                  have U2 := Lib.hid u2
                  clear u2
                  have U5 := Lib.hid u5
                  clear u5
                  have U6 := Lib.hid u6
                  clear u6
                  have U7 := Lib.hid u7
                  clear u7
                  clear hm1 hm2 ox oy oz mz
                  obtain ⟨c0, c1, c2, c3, c4, c5, c6, c7⟩ := hX11.cells
                  obtain ⟨d0, d1, d2, d3, d4, d5, d6, d7⟩ := hY11.cells
                  go_wp2_with fail
                  clear c0 c1 c2 c3 c4 c5 c6 c7 d0 d1 d2 d3 d4 d5 d6 d7
                  refine (U1.out _).mono ?_
                  rintro e v11 ⟨rfl, j11⟩
                  have hX12 := hX11.after j11
                  have hY12 := hY11.after j11
                  have hb12 := bel_step hb11 j11
                  clear hX11 hY11 hb11 j11
                  go_wp2_with fail
                  refine (U2.out _).mono ?_
                  rintro e v12 ⟨rfl, j12⟩
                  have hX13 := hX12.after j12
                  have hY13 := hY12.after j12
                  have hb13 := bel_step hb12 j12
                  clear hX12 hY12 hb12 j12
                  obtain ⟨c0, c1, c2, c3, c4, c5, c6, c7⟩ := hX13.cells
                  obtain ⟨d0, d1, d2, d3, d4, d5, d6, d7⟩ := hY13.cells
                  go_wp2_with fail
                  clear c0 c1 c2 c3 c4 c5 c6 c7 d0 d1 d2 d3 d4 d5 d6 d7
                  refine (U7.out _).mono ?_
                  rintro e v13 ⟨rfl, j13⟩
                  have hX14 := hX13.after j13
                  have hY14 := hY13.after j13
                  have hb14 := bel_step hb13 j13
                  clear hX13 hY13 hb13 j13
                  go_wp2_with fail
                  refine (U2.out _).mono ?_
                  rintro e v14 ⟨rfl, j14⟩
                  have hX15 := hX14.after j14
                  have hY15 := hY14.after j14
                  have hb15 := bel_step hb14 j14
                  clear hX14 hY14 hb14 j14
                  obtain ⟨c0, c1, c2, c3, c4, c5, c6, c7⟩ := hX15.cells
                  obtain ⟨d0, d1, d2, d3, d4, d5, d6, d7⟩ := hY15.cells
                  go_wp2_with fail
                  clear c0 c1 c2 c3 c4 c5 c6 c7 d0 d1 d2 d3 d4 d5 d6 d7
                  refine (U5.out _).mono ?_
                  rintro e v15 ⟨rfl, j15⟩
                  have hX16 := hX15.after j15
                  have hY16 := hY15.after j15
                  have hb16 := bel_step hb15 j15
                  clear hX15 hY15 hb15 j15
                  go_wp2_with fail
                  refine (U6.out _).mono ?_
                  rintro e v16 ⟨rfl, j16⟩
                  have hX17 := hX16.after j16
                  have hY17 := hY16.after j16
                  have hb17 := bel_step hb16 j16
                  clear hX16 hY16 hb16 j16
                  go_wp2_with fail
                  refine (HW.out _).mono ?_
                  rintro e v17 ⟨rfl, j17⟩
                  have hX18 := hX17.after j17
                  have hY18 := hY17.after j17
                  have hb18 := bel_step hb17 j17
                  clear hX17 hY17 hb17 j17
                  go_wp2
                  go_ret
                  exact ⟨rfl, hb18⟩
          · rw [hm2] at hM2
            have M2 := Lib.hid hM2
            clear hM2 hm1 hm2 ox oy
            obtain ⟨c0, c1, c2, c3, c4, c5, c6, c7⟩ := hY2.cells
            go_wp2_with fail
            clear c0 c1 c2 c3 c4 c5 c6 c7
            refine (M2.out _).mono ?_
            rintro e v2 ⟨rfl, j2⟩
            have hX3 := hX2.after j2
            have hY3 := hY2.after j2
            have hb3 := bel_step hb2 j2
            clear hX2 hY2 hb2 j2
            go_wp2_with fail
            refine (HW.out _).mono ?_
            rintro e v9 ⟨rfl, j9⟩
            go_wp2
            go_ret
            exact ⟨rfl, bel_step hb3 j9⟩
        · rw [hm1] at hM1
          have M1 := Lib.hid hM1
          clear hM1 hM2 hm1 ox oy
          obtain ⟨c0, c1, c2, c3, c4, c5, c6, c7⟩ := hX1.cells
          go_wp2_with fail
          clear c0 c1 c2 c3 c4 c5 c6 c7
          refine (M1.out _).mono ?_
          rintro e v1 ⟨rfl, j1⟩
          have hX2 := hX1.after j1
          have hY2 := hY1.after j1
          have hb2 := bel_step hb1 j1
          clear hX1 hY1 hb1 j1
          go_wp2_with fail
          refine (HW.out _).mono ?_
          rintro e v9 ⟨rfl, j9⟩
          go_wp2
          go_ret
          exact ⟨rfl, bel_step hb2 j9⟩
      · clear ox oy
        go_wp2_with fail
        refine (HW.out _).mono ?_
        rintro e v9 ⟨rfl, j9⟩
        go_wp2
        go_ret
        exact ⟨rfl, bel_step hb1 j9⟩
    · clear ox oy
      go_wp2_with fail
      refine (HW.out _).mono ?_
      rintro e v9 ⟨rfl, j9⟩
      go_wp2
      go_ret
      exact ⟨rfl, bel_step hb1 j9⟩

end Go.Proofs.Ytjdhidiocchkeaa
