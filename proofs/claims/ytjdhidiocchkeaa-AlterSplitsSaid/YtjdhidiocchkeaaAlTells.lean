/-
  The walk of conchlaw5.AlterTells. (By wip/tools/gen_altells.py.)
-/
import Derived.Test.YtjdhidiocchkeaaAlLaws
import Derived.Test.YtjdhidiocchkeaaRefAlter
import Derived.Test.YtjdhidiocchkeaaRefAlterTwo
namespace Go.Proofs.Ytjdhidiocchkeaa
open Go.RowKit

theorem lay_threeS (w : World) (a b c : Sh) : ∃ wA, ((w.alloc (.cells #[.bool a.u, .bool a.e, .int .u64 (wd a.h 0 : Nat), .int .u64 (wd a.h 1 : Nat), .int .u64 (wd a.h 2 : Nat), .int .u64 (wd a.h 3 : Nat), .bool a.k, .string a.l] 26)).alloc (.cells #[.bool b.u, .bool b.e, .int .u64 (wd b.h 0 : Nat), .int .u64 (wd b.h 1 : Nat), .int .u64 (wd b.h 2 : Nat), .int .u64 (wd b.h 3 : Nat), .bool b.k, .string b.l] 26)).alloc (.cells #[.bool c.u, .bool c.e, .int .u64 (wd c.h 0 : Nat), .int .u64 (wd c.h 1 : Nat), .int .u64 (wd c.h 2 : Nat), .int .u64 (wd c.h 3 : Nat), .bool c.k, .string c.l] 26) = wA ∧ Below w.heap.size w wA ∧ ShAt wA w.heap.size a ∧ ShAt wA (w.heap.size + 1) b ∧ ShAt wA (w.heap.size + 1 + 1) c :=
  ⟨_, rfl, bel_alloc (bel_alloc (bel_alloc (Below.refl _ _) _) _) _, ((ShAt.new _ a).alloc _).alloc _, (ShAt.new_at _ b _ (by simp)).alloc _, ShAt.new_at _ c _ (by simp)⟩

theorem ok_len64 {x : Sh} (h : OkP x) : x.l.size ≤ 64 := by
  rcases Bool.eq_false_or_eq_true x.k with hk | hk
  · exact (h.lit hk).1.1
  · rw [h.no hk]; decide

set_option maxHeartbeats 16000000 in
set_option maxRecDepth 100000 in
theorem AlterTells_walk (a b i : Sh) (c : Bool) (w : World) : Calls Try.prog 4 #[shV a, shV b, shV i, .bool c] w (Gives w (.bool true)) := by
  have HW := Lib.hid awake5_is
  obtain ⟨wA, hwA, hbA, hA, hB, hI⟩ := lay_threeS w a b i
  have HTa := Lib.hid (Tame_is a)
  have HTi := Lib.hid (Tame_is i)
  have HSa := Lib.hid (set_is a)
  have HSb := Lib.hid (set_is b)
  have ox := tame_ok a
  have oy := setSh_ok (tame_ok a)
  have ow := setSh_ok (tame_ok b)
  have oi := tame_ok i
  have uy : (setSh (tameSh a)).u = false := rfl
  have uw : (setSh (tameSh b)).u = false := rfl
  generalize setSh (tameSh a) = ty at *
  generalize tameSh a = tx at *
  generalize setSh (tameSh b) = tw at *
  generalize tameSh i = ti at *
  have hle : wA.heap.size = w.heap.size + 1 + 1 + 1 := by rw [← hwA]; simp
  have E0 := run_eq_shape (readP tx) (readR tx)
  rw [show sameSh (readP tx) (readR tx) = true from read_same ox] at E0
  have E1 := run_eq_shape (catP ty tw) (catR ty tw)
  rw [show sameSh (catP ty tw) (catR ty tw) = true from cat_same oy ow uy uw] at E1
  have E2 := run_eq_shape (cutP ty) (cutR ty)
  rw [show sameSh (cutP ty) (cutR ty) = true from cut_same oy uy] at E2
  have E3 := run_eq_shape (defP tx tw c) (defR tx tw c)
  rw [show sameSh (defP tx tw c) (defR tx tw c) = true from def_same ox ow c] at E3
  have E4 := run_eq_shape (usedP tx c) (usedR tx c)
  rw [show sameSh (usedP tx c) (usedR tx c) = true from by rw [used_eq ox]; exact same_refl _] at E4
  have E5 := run_eq_shape (othP tx tw c) (othR tx tw c)
  rw [show sameSh (othP tx tw c) (othR tx tw c) = true from oth_same ox ow c] at E5
  have P0 := Read_is tx
  have R0 := refRead_is tx
  have P1 := Cat_is ty tw (ok_len64 oy) (ok_len64 ow)
  have R1 := refCat_is ty tw (ok_len64 oy) (ok_len64 ow)
  have P2 := Cut_is ty
  have R2 := refCut_is ty
  have P3 := Default_is tx tw c
  have R3 := refDefault_is tx tw c
  have P4 := Assigned_is tx tw c
  have P5 := Given_is tx c
  have R5 := refGiven_is tx c
  have P6 := Other_is tx tw c
  have R6 := refOther_is tx tw c
  have P7 := MayUnset_is tx
  have P8 := MaySplit_is ty ti (ok_len oi)
  have R8 := refSplit_is ty ti (ok_len oi)
  rw [← split_same oy] at R8
  have P9 := MayGlob_is ty
  have R9 := refGlob_is ty
  clear ox oy ow oi uy uw
  generalize readP tx = g0 at *
  generalize readR tx = q0 at *
  generalize catP ty tw = g1 at *
  generalize catR ty tw = q1 at *
  generalize cutP ty = g2 at *
  generalize cutR ty = q2 at *
  generalize defP tx tw c = g3 at *
  generalize defR tx tw c = q3 at *
  generalize usedP tx c = g4 at *
  generalize usedR tx c = q4 at *
  generalize othP tx tw c = g5 at *
  generalize othR tx tw c = q5 at *
  generalize splitB ty ti = sp at *
  generalize globB ty = gb at *
  have sp0 : (sp == sp) = true := by cases sp <;> rfl
  have gb0 : (gb == gb) = true := by cases gb <;> rfl
  have tu0 : (tx.u == tx.u) = true := by cases tx.u <;> rfl
  simp only [shV] at HTa HTi HSa HSb P0 R0 P1 R1 P2 R2 P3 R3 P4 P5 R5 P6 R6 P7 P8 R8 P9 R9 E0 E1 E2 E3 E4 E5 ⊢
  have HP0 := Lib.hid P0
  clear P0
  have HR0 := Lib.hid R0
  clear R0
  have HP1 := Lib.hid P1
  clear P1
  have HR1 := Lib.hid R1
  clear R1
  have HP2 := Lib.hid P2
  clear P2
  have HR2 := Lib.hid R2
  clear R2
  have HP3 := Lib.hid P3
  clear P3
  have HR3 := Lib.hid R3
  clear R3
  have HP4 := Lib.hid P4
  clear P4
  have HP5 := Lib.hid P5
  clear P5
  have HR5 := Lib.hid R5
  clear R5
  have HP6 := Lib.hid P6
  clear P6
  have HR6 := Lib.hid R6
  clear R6
  have HP7 := Lib.hid P7
  clear P7
  have HP8 := Lib.hid P8
  clear P8
  have HR8 := Lib.hid R8
  clear R8
  have HP9 := Lib.hid P9
  clear P9
  have HR9 := Lib.hid R9
  clear R9
  go_enter Try.func4, Try.ntmps4
  go_wp2
  clear hwA
  go_cut [9, 10, 11] from 12 (fun p q r wx => ∃ x y z : Nat, p = .pointer (some ⟨x, 0, none⟩) ∧ q = .pointer (some ⟨y, 0, none⟩) ∧ r = .pointer (some ⟨z, 0, none⟩) ∧ ShAt wx x tx ∧ ShAt wx y tw ∧ ShAt wx z ty ∧ wA.heap.size ≤ x ∧ wA.heap.size ≤ y ∧ wA.heap.size ≤ z ∧ Below wA.heap.size wA wx)
  case first =>
    refine region_head 6 ?AA (by kernel_rfl) (by kernel_rfl) (by kernel_rfl) (by decide) (by kernel_rfl) ?hQ ?head ?tail
    case hQ =>
      intro c a d v w1 h
      cases d <;> exact h
    case head =>
      intro x
      simp only [List.take_succ_cons, List.take_zero]
      obtain ⟨L0, L1, L2, L3, L4, L5, L6, L7⟩ := (ShAt.after hA.drew x.below).laters
      obtain ⟨M0, M1, M2, M3, M4, M5, M6, M7⟩ := (ShAt.after hB.drew x.below).laters
      repeat (go_big_quiet_step (fail))
      go_big_quiet_step (exact later (HTa.out _))
      repeat (go_big_quiet_step (fail))
      go_big_quiet_step (exact later (HSb.out _))
      repeat (go_big_quiet_step (fail))
      go_big_quiet_step (exact later (HSa.out _))
      repeat (go_big_quiet_step (fail))
      refine wpQuiet_nil ?_
      rfl
    case tail =>
      change wpAnyU _ _ _ _ _ (5 + 1) _ _ _
      refine wpAnyU_all (rs := [6, 7, 8]) (by kernel_rfl) (by decide) ?_
      intro y0 h0 i hi
      simp only [List.mem_cons, List.not_mem_nil, or_false] at hi
      rcases hi with rfl | rfl | rfl
      · have g0 : Gr wA.drew y0 := h0
        have k0 : wA.heap.size ≤ y0.heap.size := g0.size
        clear h0
        refine wpOp_plain rfl rfl ?_
        go_simp
        refine ⟨bel_alloc g0 _, ?_⟩
        refine wpAnyU_all (rs := [7, 8]) (by kernel_rfl) (by decide) ?_
        intro y1 h1 i hi
        simp only [List.mem_cons, List.not_mem_nil, or_false] at hi
        rcases hi with rfl | rfl
        · have z0_1 : ShAt y1 y0.heap.size zeroSh := (ShAt.zero y0).after h1
          have n0_1 : y0.heap.size < y1.heap.size := z0_1.lt
          have g1 : Gr wA.drew y1 := Gr.trans (bel_alloc g0 _) h1
          have k1 : wA.heap.size ≤ y1.heap.size := g1.size
          clear h1
          refine wpOp_plain rfl rfl ?_
          go_simp
          refine ⟨bel_alloc g1 _, ?_⟩
          refine wpAnyU_all (rs := [8]) (by kernel_rfl) (by decide) ?_
          intro y2 h2 i hi
          simp only [List.mem_cons, List.not_mem_nil, or_false] at hi
          subst hi
          have z0_2 : ShAt y2 y0.heap.size zeroSh := (z0_1.alloc _).after h2
          have n0_2 : y0.heap.size < y2.heap.size := z0_2.lt
          have z1_2 : ShAt y2 y1.heap.size zeroSh := (ShAt.zero y1).after h2
          have n1_2 : y1.heap.size < y2.heap.size := z1_2.lt
          have g2 : Gr wA.drew y2 := Gr.trans (bel_alloc g1 _) h2
          have k2 : wA.heap.size ≤ y2.heap.size := g2.size
          clear h2
          refine wpOp_plain rfl rfl ?_
          go_simp
          refine ⟨bel_alloc g2 _, ?_⟩
          refine wpAnyU_all (rs := [9]) (by kernel_rfl) (by decide) ?_
          intro y3 h3 i hi
          simp only [List.mem_cons, List.not_mem_nil, or_false] at hi
          subst hi
          have z0_3 : ShAt y3 y0.heap.size zeroSh := ShAt.after (z0_2.alloc _) h3
          have z1_3 : ShAt y3 y1.heap.size zeroSh := ShAt.after (z1_2.alloc _) h3
          have z2_3 : ShAt y3 y2.heap.size zeroSh := ShAt.after (ShAt.zero y2) h3
          have g3 : Gr wA.drew y3 := Gr.trans (bel_alloc g2 _) h3
          clear h3 z0_2 z1_2
          obtain ⟨d0, d1, d2, d3, d4, d5, d6, d7⟩ := z0_3.cells
          obtain ⟨e0, e1, e2, e3, e4, e5, e6, e7⟩ := z0_3.frozens
          refine wpOp_plain rfl rfl ?_
          go_simp
          have gg3 : Gr wA.drew (putSh y3 y0.heap.size tx) := bel_putSh g3 (by show wA.heap.size ≤ _; omega) tx
          refine ⟨gg3, ?_⟩
          clear d0 d1 d2 d3 d4 d5 d6 d7 e0 e1 e2 e3 e4 e5 e6 e7
          refine wpAnyU_all (rs := [10]) (by kernel_rfl) (by decide) ?_
          intro y4 h4 i hi
          simp only [List.mem_cons, List.not_mem_nil, or_false] at hi
          subst hi
          have z0_4 : ShAt y4 y0.heap.size tx := ShAt.after (z0_3.put tx) h4
          have z1_4 : ShAt y4 y1.heap.size zeroSh := ShAt.after (z1_3.putFar (c := y0.heap.size) (by omega) tx) h4
          have z2_4 : ShAt y4 y2.heap.size zeroSh := ShAt.after (z2_3.putFar (c := y0.heap.size) (by omega) tx) h4
          have g4 : Gr wA.drew y4 := Gr.trans gg3 h4
          clear h4 z0_3 z1_3 z2_3
          obtain ⟨d0, d1, d2, d3, d4, d5, d6, d7⟩ := z1_4.cells
          obtain ⟨e0, e1, e2, e3, e4, e5, e6, e7⟩ := z1_4.frozens
          refine wpOp_plain rfl rfl ?_
          go_simp
          have gg4 : Gr wA.drew (putSh y4 y1.heap.size tw) := bel_putSh g4 (by show wA.heap.size ≤ _; omega) tw
          refine ⟨gg4, ?_⟩
          clear d0 d1 d2 d3 d4 d5 d6 d7 e0 e1 e2 e3 e4 e5 e6 e7
          refine wpAnyU_all (rs := [11]) (by kernel_rfl) (by decide) ?_
          intro y5 h5 i hi
          simp only [List.mem_cons, List.not_mem_nil, or_false] at hi
          subst hi
          have z0_5 : ShAt y5 y0.heap.size tx := ShAt.after (z0_4.putFar (c := y1.heap.size) (by omega) tw) h5
          have z1_5 : ShAt y5 y1.heap.size tw := ShAt.after (z1_4.put tw) h5
          have z2_5 : ShAt y5 y2.heap.size zeroSh := ShAt.after (z2_4.putFar (c := y1.heap.size) (by omega) tw) h5
          have g5 : Gr wA.drew y5 := Gr.trans gg4 h5
          clear h5 z0_4 z1_4 z2_4
          obtain ⟨d0, d1, d2, d3, d4, d5, d6, d7⟩ := z2_5.cells
          obtain ⟨e0, e1, e2, e3, e4, e5, e6, e7⟩ := z2_5.frozens
          refine wpOp_plain rfl rfl ?_
          go_simp
          have gg5 : Gr wA.drew (putSh y5 y2.heap.size ty) := bel_putSh g5 (by show wA.heap.size ≤ _; omega) ty
          refine ⟨gg5, ?_⟩
          clear d0 d1 d2 d3 d4 d5 d6 d7 e0 e1 e2 e3 e4 e5 e6 e7
          refine wpAnyU_done (by kernel_rfl) ?_
          intro y6 h6
          have z0_6 : ShAt y6 y0.heap.size tx := ShAt.after (z0_5.putFar (c := y2.heap.size) (by omega) ty) h6
          have z1_6 : ShAt y6 y1.heap.size tw := ShAt.after (z1_5.putFar (c := y2.heap.size) (by omega) ty) h6
          have z2_6 : ShAt y6 y2.heap.size ty := ShAt.after (z2_5.put ty) h6
          have g6 : Gr wA.drew y6 := Gr.trans gg5 h6
          clear h6 z0_5 z1_5 z2_5
          go_wp2
          go_meet
          case rel => exact ⟨y0.heap.size, y1.heap.size, y2.heap.size, rfl, rfl, rfl, z0_6, z1_6, z2_6, k0, k1, k2, g6.undrew⟩
        · have z0_1 : ShAt y1 y0.heap.size zeroSh := (ShAt.zero y0).after h1
          have n0_1 : y0.heap.size < y1.heap.size := z0_1.lt
          have g1 : Gr wA.drew y1 := Gr.trans (bel_alloc g0 _) h1
          have k1 : wA.heap.size ≤ y1.heap.size := g1.size
          clear h1
          refine wpOp_plain rfl rfl ?_
          go_simp
          refine ⟨bel_alloc g1 _, ?_⟩
          refine wpAnyU_all (rs := [7]) (by kernel_rfl) (by decide) ?_
          intro y2 h2 i hi
          simp only [List.mem_cons, List.not_mem_nil, or_false] at hi
          subst hi
          have z0_2 : ShAt y2 y0.heap.size zeroSh := (z0_1.alloc _).after h2
          have n0_2 : y0.heap.size < y2.heap.size := z0_2.lt
          have z2_2 : ShAt y2 y1.heap.size zeroSh := (ShAt.zero y1).after h2
          have n1_2 : y1.heap.size < y2.heap.size := z2_2.lt
          have g2 : Gr wA.drew y2 := Gr.trans (bel_alloc g1 _) h2
          have k2 : wA.heap.size ≤ y2.heap.size := g2.size
          clear h2
          refine wpOp_plain rfl rfl ?_
          go_simp
          refine ⟨bel_alloc g2 _, ?_⟩
          refine wpAnyU_all (rs := [9]) (by kernel_rfl) (by decide) ?_
          intro y3 h3 i hi
          simp only [List.mem_cons, List.not_mem_nil, or_false] at hi
          subst hi
          have z0_3 : ShAt y3 y0.heap.size zeroSh := ShAt.after (z0_2.alloc _) h3
          have z1_3 : ShAt y3 y2.heap.size zeroSh := ShAt.after (ShAt.zero y2) h3
          have z2_3 : ShAt y3 y1.heap.size zeroSh := ShAt.after (z2_2.alloc _) h3
          have g3 : Gr wA.drew y3 := Gr.trans (bel_alloc g2 _) h3
          clear h3 z0_2 z2_2
          obtain ⟨d0, d1, d2, d3, d4, d5, d6, d7⟩ := z0_3.cells
          obtain ⟨e0, e1, e2, e3, e4, e5, e6, e7⟩ := z0_3.frozens
          refine wpOp_plain rfl rfl ?_
          go_simp
          have gg3 : Gr wA.drew (putSh y3 y0.heap.size tx) := bel_putSh g3 (by show wA.heap.size ≤ _; omega) tx
          refine ⟨gg3, ?_⟩
          clear d0 d1 d2 d3 d4 d5 d6 d7 e0 e1 e2 e3 e4 e5 e6 e7
          refine wpAnyU_all (rs := [10]) (by kernel_rfl) (by decide) ?_
          intro y4 h4 i hi
          simp only [List.mem_cons, List.not_mem_nil, or_false] at hi
          subst hi
          have z0_4 : ShAt y4 y0.heap.size tx := ShAt.after (z0_3.put tx) h4
          have z1_4 : ShAt y4 y2.heap.size zeroSh := ShAt.after (z1_3.putFar (c := y0.heap.size) (by omega) tx) h4
          have z2_4 : ShAt y4 y1.heap.size zeroSh := ShAt.after (z2_3.putFar (c := y0.heap.size) (by omega) tx) h4
          have g4 : Gr wA.drew y4 := Gr.trans gg3 h4
          clear h4 z0_3 z1_3 z2_3
          obtain ⟨d0, d1, d2, d3, d4, d5, d6, d7⟩ := z1_4.cells
          obtain ⟨e0, e1, e2, e3, e4, e5, e6, e7⟩ := z1_4.frozens
          refine wpOp_plain rfl rfl ?_
          go_simp
          have gg4 : Gr wA.drew (putSh y4 y2.heap.size tw) := bel_putSh g4 (by show wA.heap.size ≤ _; omega) tw
          refine ⟨gg4, ?_⟩
          clear d0 d1 d2 d3 d4 d5 d6 d7 e0 e1 e2 e3 e4 e5 e6 e7
          refine wpAnyU_all (rs := [11]) (by kernel_rfl) (by decide) ?_
          intro y5 h5 i hi
          simp only [List.mem_cons, List.not_mem_nil, or_false] at hi
          subst hi
          have z0_5 : ShAt y5 y0.heap.size tx := ShAt.after (z0_4.putFar (c := y2.heap.size) (by omega) tw) h5
          have z1_5 : ShAt y5 y2.heap.size tw := ShAt.after (z1_4.put tw) h5
          have z2_5 : ShAt y5 y1.heap.size zeroSh := ShAt.after (z2_4.putFar (c := y2.heap.size) (by omega) tw) h5
          have g5 : Gr wA.drew y5 := Gr.trans gg4 h5
          clear h5 z0_4 z1_4 z2_4
          obtain ⟨d0, d1, d2, d3, d4, d5, d6, d7⟩ := z2_5.cells
          obtain ⟨e0, e1, e2, e3, e4, e5, e6, e7⟩ := z2_5.frozens
          refine wpOp_plain rfl rfl ?_
          go_simp
          have gg5 : Gr wA.drew (putSh y5 y1.heap.size ty) := bel_putSh g5 (by show wA.heap.size ≤ _; omega) ty
          refine ⟨gg5, ?_⟩
          clear d0 d1 d2 d3 d4 d5 d6 d7 e0 e1 e2 e3 e4 e5 e6 e7
          refine wpAnyU_done (by kernel_rfl) ?_
          intro y6 h6
          have z0_6 : ShAt y6 y0.heap.size tx := ShAt.after (z0_5.putFar (c := y1.heap.size) (by omega) ty) h6
          have z1_6 : ShAt y6 y2.heap.size tw := ShAt.after (z1_5.putFar (c := y1.heap.size) (by omega) ty) h6
          have z2_6 : ShAt y6 y1.heap.size ty := ShAt.after (z2_5.put ty) h6
          have g6 : Gr wA.drew y6 := Gr.trans gg5 h6
          clear h6 z0_5 z1_5 z2_5
          go_wp2
          go_meet
          case rel => exact ⟨y0.heap.size, y2.heap.size, y1.heap.size, rfl, rfl, rfl, z0_6, z1_6, z2_6, k0, k2, k1, g6.undrew⟩
      · have g0 : Gr wA.drew y0 := h0
        have k0 : wA.heap.size ≤ y0.heap.size := g0.size
        clear h0
        refine wpOp_plain rfl rfl ?_
        go_simp
        refine ⟨bel_alloc g0 _, ?_⟩
        refine wpAnyU_all (rs := [6, 8]) (by kernel_rfl) (by decide) ?_
        intro y1 h1 i hi
        simp only [List.mem_cons, List.not_mem_nil, or_false] at hi
        rcases hi with rfl | rfl
        · have z1_1 : ShAt y1 y0.heap.size zeroSh := (ShAt.zero y0).after h1
          have n0_1 : y0.heap.size < y1.heap.size := z1_1.lt
          have g1 : Gr wA.drew y1 := Gr.trans (bel_alloc g0 _) h1
          have k1 : wA.heap.size ≤ y1.heap.size := g1.size
          clear h1
          refine wpOp_plain rfl rfl ?_
          go_simp
          refine ⟨bel_alloc g1 _, ?_⟩
          refine wpAnyU_all (rs := [8]) (by kernel_rfl) (by decide) ?_
          intro y2 h2 i hi
          simp only [List.mem_cons, List.not_mem_nil, or_false] at hi
          subst hi
          have z1_2 : ShAt y2 y0.heap.size zeroSh := (z1_1.alloc _).after h2
          have n0_2 : y0.heap.size < y2.heap.size := z1_2.lt
          have z0_2 : ShAt y2 y1.heap.size zeroSh := (ShAt.zero y1).after h2
          have n1_2 : y1.heap.size < y2.heap.size := z0_2.lt
          have g2 : Gr wA.drew y2 := Gr.trans (bel_alloc g1 _) h2
          have k2 : wA.heap.size ≤ y2.heap.size := g2.size
          clear h2
          refine wpOp_plain rfl rfl ?_
          go_simp
          refine ⟨bel_alloc g2 _, ?_⟩
          refine wpAnyU_all (rs := [9]) (by kernel_rfl) (by decide) ?_
          intro y3 h3 i hi
          simp only [List.mem_cons, List.not_mem_nil, or_false] at hi
          subst hi
          have z0_3 : ShAt y3 y1.heap.size zeroSh := ShAt.after (z0_2.alloc _) h3
          have z1_3 : ShAt y3 y0.heap.size zeroSh := ShAt.after (z1_2.alloc _) h3
          have z2_3 : ShAt y3 y2.heap.size zeroSh := ShAt.after (ShAt.zero y2) h3
          have g3 : Gr wA.drew y3 := Gr.trans (bel_alloc g2 _) h3
          clear h3 z0_2 z1_2
          obtain ⟨d0, d1, d2, d3, d4, d5, d6, d7⟩ := z0_3.cells
          obtain ⟨e0, e1, e2, e3, e4, e5, e6, e7⟩ := z0_3.frozens
          refine wpOp_plain rfl rfl ?_
          go_simp
          have gg3 : Gr wA.drew (putSh y3 y1.heap.size tx) := bel_putSh g3 (by show wA.heap.size ≤ _; omega) tx
          refine ⟨gg3, ?_⟩
          clear d0 d1 d2 d3 d4 d5 d6 d7 e0 e1 e2 e3 e4 e5 e6 e7
          refine wpAnyU_all (rs := [10]) (by kernel_rfl) (by decide) ?_
          intro y4 h4 i hi
          simp only [List.mem_cons, List.not_mem_nil, or_false] at hi
          subst hi
          have z0_4 : ShAt y4 y1.heap.size tx := ShAt.after (z0_3.put tx) h4
          have z1_4 : ShAt y4 y0.heap.size zeroSh := ShAt.after (z1_3.putFar (c := y1.heap.size) (by omega) tx) h4
          have z2_4 : ShAt y4 y2.heap.size zeroSh := ShAt.after (z2_3.putFar (c := y1.heap.size) (by omega) tx) h4
          have g4 : Gr wA.drew y4 := Gr.trans gg3 h4
          clear h4 z0_3 z1_3 z2_3
          obtain ⟨d0, d1, d2, d3, d4, d5, d6, d7⟩ := z1_4.cells
          obtain ⟨e0, e1, e2, e3, e4, e5, e6, e7⟩ := z1_4.frozens
          refine wpOp_plain rfl rfl ?_
          go_simp
          have gg4 : Gr wA.drew (putSh y4 y0.heap.size tw) := bel_putSh g4 (by show wA.heap.size ≤ _; omega) tw
          refine ⟨gg4, ?_⟩
          clear d0 d1 d2 d3 d4 d5 d6 d7 e0 e1 e2 e3 e4 e5 e6 e7
          refine wpAnyU_all (rs := [11]) (by kernel_rfl) (by decide) ?_
          intro y5 h5 i hi
          simp only [List.mem_cons, List.not_mem_nil, or_false] at hi
          subst hi
          have z0_5 : ShAt y5 y1.heap.size tx := ShAt.after (z0_4.putFar (c := y0.heap.size) (by omega) tw) h5
          have z1_5 : ShAt y5 y0.heap.size tw := ShAt.after (z1_4.put tw) h5
          have z2_5 : ShAt y5 y2.heap.size zeroSh := ShAt.after (z2_4.putFar (c := y0.heap.size) (by omega) tw) h5
          have g5 : Gr wA.drew y5 := Gr.trans gg4 h5
          clear h5 z0_4 z1_4 z2_4
          obtain ⟨d0, d1, d2, d3, d4, d5, d6, d7⟩ := z2_5.cells
          obtain ⟨e0, e1, e2, e3, e4, e5, e6, e7⟩ := z2_5.frozens
          refine wpOp_plain rfl rfl ?_
          go_simp
          have gg5 : Gr wA.drew (putSh y5 y2.heap.size ty) := bel_putSh g5 (by show wA.heap.size ≤ _; omega) ty
          refine ⟨gg5, ?_⟩
          clear d0 d1 d2 d3 d4 d5 d6 d7 e0 e1 e2 e3 e4 e5 e6 e7
          refine wpAnyU_done (by kernel_rfl) ?_
          intro y6 h6
          have z0_6 : ShAt y6 y1.heap.size tx := ShAt.after (z0_5.putFar (c := y2.heap.size) (by omega) ty) h6
          have z1_6 : ShAt y6 y0.heap.size tw := ShAt.after (z1_5.putFar (c := y2.heap.size) (by omega) ty) h6
          have z2_6 : ShAt y6 y2.heap.size ty := ShAt.after (z2_5.put ty) h6
          have g6 : Gr wA.drew y6 := Gr.trans gg5 h6
          clear h6 z0_5 z1_5 z2_5
          go_wp2
          go_meet
          case rel => exact ⟨y1.heap.size, y0.heap.size, y2.heap.size, rfl, rfl, rfl, z0_6, z1_6, z2_6, k1, k0, k2, g6.undrew⟩
        · have z1_1 : ShAt y1 y0.heap.size zeroSh := (ShAt.zero y0).after h1
          have n0_1 : y0.heap.size < y1.heap.size := z1_1.lt
          have g1 : Gr wA.drew y1 := Gr.trans (bel_alloc g0 _) h1
          have k1 : wA.heap.size ≤ y1.heap.size := g1.size
          clear h1
          refine wpOp_plain rfl rfl ?_
          go_simp
          refine ⟨bel_alloc g1 _, ?_⟩
          refine wpAnyU_all (rs := [6]) (by kernel_rfl) (by decide) ?_
          intro y2 h2 i hi
          simp only [List.mem_cons, List.not_mem_nil, or_false] at hi
          subst hi
          have z1_2 : ShAt y2 y0.heap.size zeroSh := (z1_1.alloc _).after h2
          have n0_2 : y0.heap.size < y2.heap.size := z1_2.lt
          have z2_2 : ShAt y2 y1.heap.size zeroSh := (ShAt.zero y1).after h2
          have n1_2 : y1.heap.size < y2.heap.size := z2_2.lt
          have g2 : Gr wA.drew y2 := Gr.trans (bel_alloc g1 _) h2
          have k2 : wA.heap.size ≤ y2.heap.size := g2.size
          clear h2
          refine wpOp_plain rfl rfl ?_
          go_simp
          refine ⟨bel_alloc g2 _, ?_⟩
          refine wpAnyU_all (rs := [9]) (by kernel_rfl) (by decide) ?_
          intro y3 h3 i hi
          simp only [List.mem_cons, List.not_mem_nil, or_false] at hi
          subst hi
          have z0_3 : ShAt y3 y2.heap.size zeroSh := ShAt.after (ShAt.zero y2) h3
          have z1_3 : ShAt y3 y0.heap.size zeroSh := ShAt.after (z1_2.alloc _) h3
          have z2_3 : ShAt y3 y1.heap.size zeroSh := ShAt.after (z2_2.alloc _) h3
          have g3 : Gr wA.drew y3 := Gr.trans (bel_alloc g2 _) h3
          clear h3 z1_2 z2_2
          obtain ⟨d0, d1, d2, d3, d4, d5, d6, d7⟩ := z0_3.cells
          obtain ⟨e0, e1, e2, e3, e4, e5, e6, e7⟩ := z0_3.frozens
          refine wpOp_plain rfl rfl ?_
          go_simp
          have gg3 : Gr wA.drew (putSh y3 y2.heap.size tx) := bel_putSh g3 (by show wA.heap.size ≤ _; omega) tx
          refine ⟨gg3, ?_⟩
          clear d0 d1 d2 d3 d4 d5 d6 d7 e0 e1 e2 e3 e4 e5 e6 e7
          refine wpAnyU_all (rs := [10]) (by kernel_rfl) (by decide) ?_
          intro y4 h4 i hi
          simp only [List.mem_cons, List.not_mem_nil, or_false] at hi
          subst hi
          have z0_4 : ShAt y4 y2.heap.size tx := ShAt.after (z0_3.put tx) h4
          have z1_4 : ShAt y4 y0.heap.size zeroSh := ShAt.after (z1_3.putFar (c := y2.heap.size) (by omega) tx) h4
          have z2_4 : ShAt y4 y1.heap.size zeroSh := ShAt.after (z2_3.putFar (c := y2.heap.size) (by omega) tx) h4
          have g4 : Gr wA.drew y4 := Gr.trans gg3 h4
          clear h4 z0_3 z1_3 z2_3
          obtain ⟨d0, d1, d2, d3, d4, d5, d6, d7⟩ := z1_4.cells
          obtain ⟨e0, e1, e2, e3, e4, e5, e6, e7⟩ := z1_4.frozens
          refine wpOp_plain rfl rfl ?_
          go_simp
          have gg4 : Gr wA.drew (putSh y4 y0.heap.size tw) := bel_putSh g4 (by show wA.heap.size ≤ _; omega) tw
          refine ⟨gg4, ?_⟩
          clear d0 d1 d2 d3 d4 d5 d6 d7 e0 e1 e2 e3 e4 e5 e6 e7
          refine wpAnyU_all (rs := [11]) (by kernel_rfl) (by decide) ?_
          intro y5 h5 i hi
          simp only [List.mem_cons, List.not_mem_nil, or_false] at hi
          subst hi
          have z0_5 : ShAt y5 y2.heap.size tx := ShAt.after (z0_4.putFar (c := y0.heap.size) (by omega) tw) h5
          have z1_5 : ShAt y5 y0.heap.size tw := ShAt.after (z1_4.put tw) h5
          have z2_5 : ShAt y5 y1.heap.size zeroSh := ShAt.after (z2_4.putFar (c := y0.heap.size) (by omega) tw) h5
          have g5 : Gr wA.drew y5 := Gr.trans gg4 h5
          clear h5 z0_4 z1_4 z2_4
          obtain ⟨d0, d1, d2, d3, d4, d5, d6, d7⟩ := z2_5.cells
          obtain ⟨e0, e1, e2, e3, e4, e5, e6, e7⟩ := z2_5.frozens
          refine wpOp_plain rfl rfl ?_
          go_simp
          have gg5 : Gr wA.drew (putSh y5 y1.heap.size ty) := bel_putSh g5 (by show wA.heap.size ≤ _; omega) ty
          refine ⟨gg5, ?_⟩
          clear d0 d1 d2 d3 d4 d5 d6 d7 e0 e1 e2 e3 e4 e5 e6 e7
          refine wpAnyU_done (by kernel_rfl) ?_
          intro y6 h6
          have z0_6 : ShAt y6 y2.heap.size tx := ShAt.after (z0_5.putFar (c := y1.heap.size) (by omega) ty) h6
          have z1_6 : ShAt y6 y0.heap.size tw := ShAt.after (z1_5.putFar (c := y1.heap.size) (by omega) ty) h6
          have z2_6 : ShAt y6 y1.heap.size ty := ShAt.after (z2_5.put ty) h6
          have g6 : Gr wA.drew y6 := Gr.trans gg5 h6
          clear h6 z0_5 z1_5 z2_5
          go_wp2
          go_meet
          case rel => exact ⟨y2.heap.size, y0.heap.size, y1.heap.size, rfl, rfl, rfl, z0_6, z1_6, z2_6, k2, k0, k1, g6.undrew⟩
      · have g0 : Gr wA.drew y0 := h0
        have k0 : wA.heap.size ≤ y0.heap.size := g0.size
        clear h0
        refine wpOp_plain rfl rfl ?_
        go_simp
        refine ⟨bel_alloc g0 _, ?_⟩
        refine wpAnyU_all (rs := [6, 7]) (by kernel_rfl) (by decide) ?_
        intro y1 h1 i hi
        simp only [List.mem_cons, List.not_mem_nil, or_false] at hi
        rcases hi with rfl | rfl
        · have z2_1 : ShAt y1 y0.heap.size zeroSh := (ShAt.zero y0).after h1
          have n0_1 : y0.heap.size < y1.heap.size := z2_1.lt
          have g1 : Gr wA.drew y1 := Gr.trans (bel_alloc g0 _) h1
          have k1 : wA.heap.size ≤ y1.heap.size := g1.size
          clear h1
          refine wpOp_plain rfl rfl ?_
          go_simp
          refine ⟨bel_alloc g1 _, ?_⟩
          refine wpAnyU_all (rs := [7]) (by kernel_rfl) (by decide) ?_
          intro y2 h2 i hi
          simp only [List.mem_cons, List.not_mem_nil, or_false] at hi
          subst hi
          have z2_2 : ShAt y2 y0.heap.size zeroSh := (z2_1.alloc _).after h2
          have n0_2 : y0.heap.size < y2.heap.size := z2_2.lt
          have z0_2 : ShAt y2 y1.heap.size zeroSh := (ShAt.zero y1).after h2
          have n1_2 : y1.heap.size < y2.heap.size := z0_2.lt
          have g2 : Gr wA.drew y2 := Gr.trans (bel_alloc g1 _) h2
          have k2 : wA.heap.size ≤ y2.heap.size := g2.size
          clear h2
          refine wpOp_plain rfl rfl ?_
          go_simp
          refine ⟨bel_alloc g2 _, ?_⟩
          refine wpAnyU_all (rs := [9]) (by kernel_rfl) (by decide) ?_
          intro y3 h3 i hi
          simp only [List.mem_cons, List.not_mem_nil, or_false] at hi
          subst hi
          have z0_3 : ShAt y3 y1.heap.size zeroSh := ShAt.after (z0_2.alloc _) h3
          have z1_3 : ShAt y3 y2.heap.size zeroSh := ShAt.after (ShAt.zero y2) h3
          have z2_3 : ShAt y3 y0.heap.size zeroSh := ShAt.after (z2_2.alloc _) h3
          have g3 : Gr wA.drew y3 := Gr.trans (bel_alloc g2 _) h3
          clear h3 z0_2 z2_2
          obtain ⟨d0, d1, d2, d3, d4, d5, d6, d7⟩ := z0_3.cells
          obtain ⟨e0, e1, e2, e3, e4, e5, e6, e7⟩ := z0_3.frozens
          refine wpOp_plain rfl rfl ?_
          go_simp
          have gg3 : Gr wA.drew (putSh y3 y1.heap.size tx) := bel_putSh g3 (by show wA.heap.size ≤ _; omega) tx
          refine ⟨gg3, ?_⟩
          clear d0 d1 d2 d3 d4 d5 d6 d7 e0 e1 e2 e3 e4 e5 e6 e7
          refine wpAnyU_all (rs := [10]) (by kernel_rfl) (by decide) ?_
          intro y4 h4 i hi
          simp only [List.mem_cons, List.not_mem_nil, or_false] at hi
          subst hi
          have z0_4 : ShAt y4 y1.heap.size tx := ShAt.after (z0_3.put tx) h4
          have z1_4 : ShAt y4 y2.heap.size zeroSh := ShAt.after (z1_3.putFar (c := y1.heap.size) (by omega) tx) h4
          have z2_4 : ShAt y4 y0.heap.size zeroSh := ShAt.after (z2_3.putFar (c := y1.heap.size) (by omega) tx) h4
          have g4 : Gr wA.drew y4 := Gr.trans gg3 h4
          clear h4 z0_3 z1_3 z2_3
          obtain ⟨d0, d1, d2, d3, d4, d5, d6, d7⟩ := z1_4.cells
          obtain ⟨e0, e1, e2, e3, e4, e5, e6, e7⟩ := z1_4.frozens
          refine wpOp_plain rfl rfl ?_
          go_simp
          have gg4 : Gr wA.drew (putSh y4 y2.heap.size tw) := bel_putSh g4 (by show wA.heap.size ≤ _; omega) tw
          refine ⟨gg4, ?_⟩
          clear d0 d1 d2 d3 d4 d5 d6 d7 e0 e1 e2 e3 e4 e5 e6 e7
          refine wpAnyU_all (rs := [11]) (by kernel_rfl) (by decide) ?_
          intro y5 h5 i hi
          simp only [List.mem_cons, List.not_mem_nil, or_false] at hi
          subst hi
          have z0_5 : ShAt y5 y1.heap.size tx := ShAt.after (z0_4.putFar (c := y2.heap.size) (by omega) tw) h5
          have z1_5 : ShAt y5 y2.heap.size tw := ShAt.after (z1_4.put tw) h5
          have z2_5 : ShAt y5 y0.heap.size zeroSh := ShAt.after (z2_4.putFar (c := y2.heap.size) (by omega) tw) h5
          have g5 : Gr wA.drew y5 := Gr.trans gg4 h5
          clear h5 z0_4 z1_4 z2_4
          obtain ⟨d0, d1, d2, d3, d4, d5, d6, d7⟩ := z2_5.cells
          obtain ⟨e0, e1, e2, e3, e4, e5, e6, e7⟩ := z2_5.frozens
          refine wpOp_plain rfl rfl ?_
          go_simp
          have gg5 : Gr wA.drew (putSh y5 y0.heap.size ty) := bel_putSh g5 (by show wA.heap.size ≤ _; omega) ty
          refine ⟨gg5, ?_⟩
          clear d0 d1 d2 d3 d4 d5 d6 d7 e0 e1 e2 e3 e4 e5 e6 e7
          refine wpAnyU_done (by kernel_rfl) ?_
          intro y6 h6
          have z0_6 : ShAt y6 y1.heap.size tx := ShAt.after (z0_5.putFar (c := y0.heap.size) (by omega) ty) h6
          have z1_6 : ShAt y6 y2.heap.size tw := ShAt.after (z1_5.putFar (c := y0.heap.size) (by omega) ty) h6
          have z2_6 : ShAt y6 y0.heap.size ty := ShAt.after (z2_5.put ty) h6
          have g6 : Gr wA.drew y6 := Gr.trans gg5 h6
          clear h6 z0_5 z1_5 z2_5
          go_wp2
          go_meet
          case rel => exact ⟨y1.heap.size, y2.heap.size, y0.heap.size, rfl, rfl, rfl, z0_6, z1_6, z2_6, k1, k2, k0, g6.undrew⟩
        · have z2_1 : ShAt y1 y0.heap.size zeroSh := (ShAt.zero y0).after h1
          have n0_1 : y0.heap.size < y1.heap.size := z2_1.lt
          have g1 : Gr wA.drew y1 := Gr.trans (bel_alloc g0 _) h1
          have k1 : wA.heap.size ≤ y1.heap.size := g1.size
          clear h1
          refine wpOp_plain rfl rfl ?_
          go_simp
          refine ⟨bel_alloc g1 _, ?_⟩
          refine wpAnyU_all (rs := [6]) (by kernel_rfl) (by decide) ?_
          intro y2 h2 i hi
          simp only [List.mem_cons, List.not_mem_nil, or_false] at hi
          subst hi
          have z2_2 : ShAt y2 y0.heap.size zeroSh := (z2_1.alloc _).after h2
          have n0_2 : y0.heap.size < y2.heap.size := z2_2.lt
          have z1_2 : ShAt y2 y1.heap.size zeroSh := (ShAt.zero y1).after h2
          have n1_2 : y1.heap.size < y2.heap.size := z1_2.lt
          have g2 : Gr wA.drew y2 := Gr.trans (bel_alloc g1 _) h2
          have k2 : wA.heap.size ≤ y2.heap.size := g2.size
          clear h2
          refine wpOp_plain rfl rfl ?_
          go_simp
          refine ⟨bel_alloc g2 _, ?_⟩
          refine wpAnyU_all (rs := [9]) (by kernel_rfl) (by decide) ?_
          intro y3 h3 i hi
          simp only [List.mem_cons, List.not_mem_nil, or_false] at hi
          subst hi
          have z0_3 : ShAt y3 y2.heap.size zeroSh := ShAt.after (ShAt.zero y2) h3
          have z1_3 : ShAt y3 y1.heap.size zeroSh := ShAt.after (z1_2.alloc _) h3
          have z2_3 : ShAt y3 y0.heap.size zeroSh := ShAt.after (z2_2.alloc _) h3
          have g3 : Gr wA.drew y3 := Gr.trans (bel_alloc g2 _) h3
          clear h3 z1_2 z2_2
          obtain ⟨d0, d1, d2, d3, d4, d5, d6, d7⟩ := z0_3.cells
          obtain ⟨e0, e1, e2, e3, e4, e5, e6, e7⟩ := z0_3.frozens
          refine wpOp_plain rfl rfl ?_
          go_simp
          have gg3 : Gr wA.drew (putSh y3 y2.heap.size tx) := bel_putSh g3 (by show wA.heap.size ≤ _; omega) tx
          refine ⟨gg3, ?_⟩
          clear d0 d1 d2 d3 d4 d5 d6 d7 e0 e1 e2 e3 e4 e5 e6 e7
          refine wpAnyU_all (rs := [10]) (by kernel_rfl) (by decide) ?_
          intro y4 h4 i hi
          simp only [List.mem_cons, List.not_mem_nil, or_false] at hi
          subst hi
          have z0_4 : ShAt y4 y2.heap.size tx := ShAt.after (z0_3.put tx) h4
          have z1_4 : ShAt y4 y1.heap.size zeroSh := ShAt.after (z1_3.putFar (c := y2.heap.size) (by omega) tx) h4
          have z2_4 : ShAt y4 y0.heap.size zeroSh := ShAt.after (z2_3.putFar (c := y2.heap.size) (by omega) tx) h4
          have g4 : Gr wA.drew y4 := Gr.trans gg3 h4
          clear h4 z0_3 z1_3 z2_3
          obtain ⟨d0, d1, d2, d3, d4, d5, d6, d7⟩ := z1_4.cells
          obtain ⟨e0, e1, e2, e3, e4, e5, e6, e7⟩ := z1_4.frozens
          refine wpOp_plain rfl rfl ?_
          go_simp
          have gg4 : Gr wA.drew (putSh y4 y1.heap.size tw) := bel_putSh g4 (by show wA.heap.size ≤ _; omega) tw
          refine ⟨gg4, ?_⟩
          clear d0 d1 d2 d3 d4 d5 d6 d7 e0 e1 e2 e3 e4 e5 e6 e7
          refine wpAnyU_all (rs := [11]) (by kernel_rfl) (by decide) ?_
          intro y5 h5 i hi
          simp only [List.mem_cons, List.not_mem_nil, or_false] at hi
          subst hi
          have z0_5 : ShAt y5 y2.heap.size tx := ShAt.after (z0_4.putFar (c := y1.heap.size) (by omega) tw) h5
          have z1_5 : ShAt y5 y1.heap.size tw := ShAt.after (z1_4.put tw) h5
          have z2_5 : ShAt y5 y0.heap.size zeroSh := ShAt.after (z2_4.putFar (c := y1.heap.size) (by omega) tw) h5
          have g5 : Gr wA.drew y5 := Gr.trans gg4 h5
          clear h5 z0_4 z1_4 z2_4
          obtain ⟨d0, d1, d2, d3, d4, d5, d6, d7⟩ := z2_5.cells
          obtain ⟨e0, e1, e2, e3, e4, e5, e6, e7⟩ := z2_5.frozens
          refine wpOp_plain rfl rfl ?_
          go_simp
          have gg5 : Gr wA.drew (putSh y5 y0.heap.size ty) := bel_putSh g5 (by show wA.heap.size ≤ _; omega) ty
          refine ⟨gg5, ?_⟩
          clear d0 d1 d2 d3 d4 d5 d6 d7 e0 e1 e2 e3 e4 e5 e6 e7
          refine wpAnyU_done (by kernel_rfl) ?_
          intro y6 h6
          have z0_6 : ShAt y6 y2.heap.size tx := ShAt.after (z0_5.putFar (c := y0.heap.size) (by omega) ty) h6
          have z1_6 : ShAt y6 y1.heap.size tw := ShAt.after (z1_5.putFar (c := y0.heap.size) (by omega) ty) h6
          have z2_6 : ShAt y6 y0.heap.size ty := ShAt.after (z2_5.put ty) h6
          have g6 : Gr wA.drew y6 := Gr.trans gg5 h6
          clear h6 z0_5 z1_5 z2_5
          go_wp2
          go_meet
          case rel => exact ⟨y2.heap.size, y1.heap.size, y0.heap.size, rfl, rfl, rfl, z0_6, z1_6, z2_6, k2, k1, k0, g6.undrew⟩
  case rest =>
    obtain ⟨bx, bw, bv, rfl, rfl, rfl, hX, hW, hY, lx, lw, ly, hbx⟩ := hcut
    have hI1 := hI.after hbx
    have hb1 := bel_step hbA hbx
    clear hA hB hI hbx hbA HTa HSa HSb
    obtain ⟨c0, c1, c2, c3, c4, c5, c6, c7⟩ := hI1.cells
    go_wp2_with fail
    clear c0 c1 c2 c3 c4 c5 c6 c7
    refine (HTi.out _).mono ?_
    rintro e w1 ⟨rfl, kb1⟩
    have hX1 := hX.after kb1
    have hW1 := hW.after kb1
    have hY1 := hY.after kb1
    have hI2 := hI1.after kb1
    have hb2 := bel_step hb1 kb1
    clear hX hW hY hI1 hb1 kb1 HTi
    have hX2 := hX1.putFar (c := w.heap.size + 1 + 1) (by omega) ti
    have hW2 := hW1.putFar (c := w.heap.size + 1 + 1) (by omega) ti
    have hY2 := hY1.putFar (c := w.heap.size + 1 + 1) (by omega) ti
    have hI3 := hI2.put ti
    have hb3 := bel_putSh hb2 (b := w.heap.size + 1 + 1) (by omega) ti
    obtain ⟨U, hU⟩ : ∃ U, putSh w1 (w.heap.size + 1 + 1) ti = U := ⟨_, rfl⟩
    rw [hU] at hX2 hW2 hY2 hI3 hb3
    unfold putSh at hU
    have HU := Lib.hid hU
    clear hU hX1 hW1 hY1 hb2 lx lw ly hle
    obtain ⟨c0, c1, c2, c3, c4, c5, c6, c7⟩ := hI2.cells
    obtain ⟨f0, f1, f2, f3, f4, f5, f6, f7⟩ := hI2.frozens
    go_upto_region 3 with fail
    rw [HU.out]
    clear HU hI2 c0 c1 c2 c3 c4 c5 c6 c7 f0 f1 f2 f3 f4 f5 f6 f7
    obtain ⟨L0, L1, L2, L3, L4, L5, L6, L7⟩ := hX2.laters
    obtain ⟨M0, M1, M2, M3, M4, M5, M6, M7⟩ := hW2.laters
    obtain ⟨N0, N1, N2, N3, N4, N5, N6, N7⟩ := hY2.laters
    refine region_later (by kernel_rfl) (by kernel_rfl) ?_
    repeat (go_big_quiet_step (fail))
    go_big_quiet_step (exact later (HP0.out _))
    repeat (go_big_quiet_step (fail))
    go_big_quiet_step (exact later (HR0.out _))
    repeat (go_big_quiet_step (fail))
    go_big_quiet_step (exact later (HP1.out _))
    repeat (go_big_quiet_step (fail))
    go_big_quiet_step (exact later (HR1.out _))
    repeat (go_big_quiet_step (fail))
    go_big_quiet_step (exact later (HP2.out _))
    repeat (go_big_quiet_step (fail))
    go_big_quiet_step (exact later (HR2.out _))
    repeat (go_big_quiet_step (fail))
    refine wpQuiet_nil ?_
    rintro _ ⟨m, rfl⟩
    have hX3 := hX2.after m.below
    have hW3 := hW2.after m.below
    have hY3 := hY2.after m.below
    have hI4 := hI3.after m.below
    have hb4 := bel_step hb3 m.below
    clear L0 L1 L2 L3 L4 L5 L6 L7 M0 M1 M2 M3 M4 M5 M6 M7 N0 N1 N2 N3 N4 N5 N6 N7 hX2 hW2 hY2 hI3 hb3 HP0 HR0 HP1 HR1 HP2 HR2 E0 E1 E2
    generalize m.at_ = V at *
    go_wp2
    obtain ⟨L0, L1, L2, L3, L4, L5, L6, L7⟩ := hX3.laters
    obtain ⟨M0, M1, M2, M3, M4, M5, M6, M7⟩ := hW3.laters
    refine region_later (by kernel_rfl) (by kernel_rfl) ?_
    repeat (go_big_quiet_step (fail))
    go_big_quiet_step (exact later (HP3.out _))
    repeat (go_big_quiet_step (fail))
    go_big_quiet_step (exact later (HR3.out _))
    repeat (go_big_quiet_step (fail))
    go_big_quiet_step (exact later (HP4.out _))
    repeat (go_big_quiet_step (fail))
    go_big_quiet_step (exact later (HR3.out _))
    repeat (go_big_quiet_step (fail))
    go_big_quiet_step (exact later (HP5.out _))
    repeat (go_big_quiet_step (fail))
    go_big_quiet_step (exact later (HR5.out _))
    repeat (go_big_quiet_step (fail))
    go_big_quiet_step (exact later (HP6.out _))
    repeat (go_big_quiet_step (fail))
    go_big_quiet_step (exact later (HR6.out _))
    repeat (go_big_quiet_step (fail))
    refine wpQuiet_nil ?_
    rintro _ ⟨m2, rfl⟩
    have hX4 := hX3.after m2.below
    have hY4 := hY3.after m2.below
    have hI5 := hI4.after m2.below
    have hb5 := bel_step hb4 m2.below
    clear L0 L1 L2 L3 L4 L5 L6 L7 M0 M1 M2 M3 M4 M5 M6 M7 hX3 hW3 hY3 hI4 hb4 HP3 HR3 HP4 HP5 HR5 HP6 HR6 E3 E4 E5
    generalize m2.at_ = V2 at *
    go_wp2
    obtain ⟨L0, L1, L2, L3, L4, L5, L6, L7⟩ := hX4.laters
    obtain ⟨N0, N1, N2, N3, N4, N5, N6, N7⟩ := hY4.laters
    obtain ⟨O0, O1, O2, O3, O4, O5, O6, O7⟩ := hI5.laters
    refine region_later (by kernel_rfl) (by kernel_rfl) ?_
    repeat (go_big_quiet_step (fail))
    go_big_quiet_step (exact later (HP7.out _))
    repeat (go_big_quiet_step (fail))
    go_big_quiet_step (exact later (HP8.out _))
    repeat (go_big_quiet_step (fail))
    go_big_quiet_step (exact later (HR8.out _))
    repeat (go_big_quiet_step (fail))
    go_big_quiet_step (exact later (HP9.out _))
    repeat (go_big_quiet_step (fail))
    go_big_quiet_step (exact later (HR9.out _))
    repeat (go_big_quiet_step (fail))
    go_big_quiet_step (exact later (HW.out _))
    repeat (go_big_quiet_step (fail))
    refine wpQuiet_nil ?_
    rintro _ ⟨m3, rfl⟩
    go_wp2
    go_ret
    exact ⟨rfl, bel_step hb5 m3.below⟩
end Go.Proofs.Ytjdhidiocchkeaa
