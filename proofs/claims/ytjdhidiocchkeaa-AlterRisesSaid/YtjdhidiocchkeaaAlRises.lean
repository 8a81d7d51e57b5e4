/-
  The walk of conchlaw5.AlterRises. (By wip/tools/gen_alrises.py.)
-/
import Derived.Test.YtjdhidiocchkeaaAlTells
namespace Go.Proofs.Ytjdhidiocchkeaa
open Go.RowKit

theorem lay_fourS (w : World) (a b c d : Sh) : ∃ wA, (((w.alloc (.cells #[.bool a.u, .bool a.e, .int .u64 (wd a.h 0 : Nat), .int .u64 (wd a.h 1 : Nat), .int .u64 (wd a.h 2 : Nat), .int .u64 (wd a.h 3 : Nat), .bool a.k, .string a.l] 26)).alloc (.cells #[.bool b.u, .bool b.e, .int .u64 (wd b.h 0 : Nat), .int .u64 (wd b.h 1 : Nat), .int .u64 (wd b.h 2 : Nat), .int .u64 (wd b.h 3 : Nat), .bool b.k, .string b.l] 26)).alloc (.cells #[.bool c.u, .bool c.e, .int .u64 (wd c.h 0 : Nat), .int .u64 (wd c.h 1 : Nat), .int .u64 (wd c.h 2 : Nat), .int .u64 (wd c.h 3 : Nat), .bool c.k, .string c.l] 26)).alloc (.cells #[.bool d.u, .bool d.e, .int .u64 (wd d.h 0 : Nat), .int .u64 (wd d.h 1 : Nat), .int .u64 (wd d.h 2 : Nat), .int .u64 (wd d.h 3 : Nat), .bool d.k, .string d.l] 26) = wA ∧ Below w.heap.size w wA ∧ ShAt wA w.heap.size a ∧ ShAt wA (w.heap.size + 1) b ∧ ShAt wA (w.heap.size + 1 + 1) c ∧ ShAt wA (w.heap.size + 1 + 1 + 1) d :=
  ⟨_, rfl, bel_alloc (bel_alloc (bel_alloc (bel_alloc (Below.refl _ _) _) _) _) _, (((ShAt.new _ a).alloc _).alloc _).alloc _, ((ShAt.new_at _ b _ (by simp)).alloc _).alloc _, (ShAt.new_at _ c _ (by simp)).alloc _, ShAt.new_at _ d _ (by simp)⟩

set_option maxHeartbeats 32000000 in
set_option maxRecDepth 100000 in
theorem AlterRises_walk (a b d i : Sh) (c : Bool) (w : World) : Calls Try.prog 7 #[shV a, shV b, shV d, shV i, .bool c] w (Gives w (.bool true)) := by
  have HW := Lib.hid awake5_is
  obtain ⟨wA, hwA, hbA, hA, hB, hC, hI⟩ := lay_fourS w a b d i
  have HTa := Lib.hid (Tame_is a)
  have HTb := Lib.hid (Tame_is b)
  have HTi := Lib.hid (Tame_is i)
  have HSc := Lib.hid (set_is d)
  have ox := tame_ok a
  have ob := tame_ok b
  have ow := setSh_ok (tame_ok d)
  have oi := tame_ok i
  generalize tameSh a = tx at *
  generalize tameSh b = tb at *
  generalize setSh (tameSh d) = tw at *
  generalize tameSh i = ti at *
  have hle : wA.heap.size = w.heap.size + 1 + 1 + 1 + 1 := by rw [← hwA]; simp
  have HJ := Lib.hid (Join_is tx tb)
  have oy := join_ok ox ob
  have hj : Lj tx (joinP tx tb) := join_left ox ob
  generalize joinP tx tb = ty at *
  have HR1 := Lib.hid (Read_is tx)
  have HR2 := Lib.hid (Read_is ty)
  have op := read_ok ox
  have oq := read_ok oy
  have up := read_u tx
  have uq := read_u ty
  have hpq : Lj (readP tx) (readP ty) := read_rises ox oy hj
  generalize readP tx = tp at *
  generalize readP ty = tq at *
  have l1 := Leq_is tp tq (ok_len op)
  rw [(leqP_iff op oq).2 hpq.le] at l1
  have c1 := Cat_is tp tw (ok_len64 op) (ok_len64 ow)
  have c2 := Cat_is tq tw (ok_len64 oq) (ok_len64 ow)
  have l2 := Leq_is (catP tp tw) (catP tq tw) (ok_len (cat_ok tp tw))
  rw [(leqP_iff (cat_ok tp tw) (cat_ok tq tw)).2 (cat_rises op oq ow hpq)] at l2
  have k1 := Cut_is tp
  have k2 := Cut_is tq
  have l3 := Leq_is (cutP tp) (cutP tq) (ok_len (cut_ok op))
  rw [(leqP_iff (cut_ok op) (cut_ok oq)).2 (cut_rises op oq up uq hpq).le] at l3
  have d1 := Default_is tx tw c
  have d2 := Default_is ty tw c
  have l4 := Leq_is (defP tx tw c) (defP ty tw c) (ok_len (def_ok ox ow c))
  rw [(leqP_iff (def_ok ox ow c) (def_ok oy ow c)).2 (def_rises ox oy ow hj c)] at l4
  have u1 := Given_is tx c
  have u2 := Given_is ty c
  have l5 := Leq_is (usedP tx c) (usedP ty c) (ok_len (used_ok ox c))
  rw [(leqP_iff (used_ok ox c) (used_ok oy c)).2 (used_rises ox oy hj c).le] at l5
  have o1 := Other_is tx tw c
  have o2 := Other_is ty tw c
  have l6 := Leq_is (othP tx tw c) (othP ty tw c) (ok_len (oth_ok ow c))
  rw [(leqP_iff (oth_ok ow c) (oth_ok ow c)).2 (other_rises ox oy ow hj c)] at l6
  have p1 := MaySplit_is tp ti (ok_len oi)
  have p2 := MaySplit_is tq ti (ok_len oi)
  have IS : Hid (splitB tp ti = true → splitB tq ti = true) := Lib.hid (split_rises hpq ti)
  have b1 := MayGlob_is tp
  have b2 := MayGlob_is tq
  have IG : Hid (globB tp = true → globB tq = true) := Lib.hid (glob_rises hpq)
  have n1 := MayUnset_is tx
  have n2 := MayUnset_is ty
  obtain ⟨a1, ha1⟩ : ∃ a1, tx.u = a1 := ⟨_, rfl⟩
  obtain ⟨a2, ha2⟩ : ∃ a2, ty.u = a2 := ⟨_, rfl⟩
  have IU : Hid (a1 = true → a2 = true) := Lib.hid (by rw [← ha1, ← ha2]; exact hj.u)
  rw [ha1] at n1
  rw [ha2] at n2
  clear ha1 ha2 ox ob ow oi oy op oq up uq hj hpq
  generalize catP tp tw = x1 at *
  generalize catP tq tw = x2 at *
  generalize cutP tp = x3 at *
  generalize cutP tq = x4 at *
  generalize defP tx tw c = x5 at *
  generalize defP ty tw c = x6 at *
  generalize usedP tx c = x7 at *
  generalize usedP ty c = x8 at *
  generalize othP tx tw c = x9 at *
  generalize othP ty tw c = xa at *
  generalize splitB tp ti = s1 at *
  generalize splitB tq ti = s2 at *
  generalize globB tp = g1 at *
  generalize globB tq = g2 at *
  simp only [shV] at HTa HTb HTi HSc HJ HR1 HR2 l1 c1 c2 l2 k1 k2 l3 d1 d2 l4 u1 u2 l5 o1 o2 l6 p1 p2 b1 b2 n1 n2 ⊢
  have HL1 := Lib.hid l1
  clear l1
  have HC1 := Lib.hid c1
  clear c1
  have HC2 := Lib.hid c2
  clear c2
  have HL2 := Lib.hid l2
  clear l2
  have HK1 := Lib.hid k1
  clear k1
  have HK2 := Lib.hid k2
  clear k2
  have HL3 := Lib.hid l3
  clear l3
  have HD1 := Lib.hid d1
  clear d1
  have HD2 := Lib.hid d2
  clear d2
  have HL4 := Lib.hid l4
  clear l4
  have HG1 := Lib.hid u1
  clear u1
  have HG2 := Lib.hid u2
  clear u2
  have HL5 := Lib.hid l5
  clear l5
  have HO1 := Lib.hid o1
  clear o1
  have HO2 := Lib.hid o2
  clear o2
  have HL6 := Lib.hid l6
  clear l6
  have HS1 := Lib.hid p1
  clear p1
  have HS2 := Lib.hid p2
  clear p2
  have HB1 := Lib.hid b1
  clear b1
  have HB2 := Lib.hid b2
  clear b2
  have HU1 := Lib.hid n1
  clear n1
  have HU2 := Lib.hid n2
  clear n2
  go_enter Try.func7, Try.ntmps7
  go_wp2
  clear hwA
  go_cut [11, 12] from 16 (fun p q wx => ∃ x y : Nat, p = .pointer (some ⟨x, 0, none⟩) ∧ q = .pointer (some ⟨y, 0, none⟩) ∧ ShAt wx x tx ∧ ShAt wx y tw ∧ wA.heap.size ≤ x ∧ wA.heap.size ≤ y ∧ Below wA.heap.size wA wx)
  case first =>
    refine region_head 4 ?A1 (by kernel_rfl) (by kernel_rfl) (by kernel_rfl) (by decide) (by kernel_rfl) ?hQ ?head ?tail
    case hQ =>
      intro c a d v w1 h
      cases d <;> exact h
    case head =>
      intro x
      simp only [List.take_succ_cons, List.take_zero]
      obtain ⟨L0, L1, L2, L3, L4, L5, L6, L7⟩ := (ShAt.after hA.drew x.below).laters
      obtain ⟨M0, M1, M2, M3, M4, M5, M6, M7⟩ := (ShAt.after hC.drew x.below).laters
      repeat (go_big_quiet_step (fail))
      go_big_quiet_step (exact later (HTa.out _))
      repeat (go_big_quiet_step (fail))
      go_big_quiet_step (exact later (HSc.out _))
      repeat (go_big_quiet_step (fail))
      refine wpQuiet_nil ?_
      rfl
    case tail =>
      change wpAnyU _ _ _ _ _ (3 + 1) _ _ _
      refine wpAnyU_all (rs := [4, 5]) (by kernel_rfl) (by decide) ?_
      intro y0 h0 i hi
      simp only [List.mem_cons, List.not_mem_nil, or_false] at hi
      rcases hi with rfl | rfl
      · have g0 : Gr wA.drew y0 := h0
        have k0 : wA.heap.size ≤ y0.heap.size := g0.size
        clear h0
        refine wpOp_plain rfl rfl ?_
        go_simp
        refine ⟨bel_alloc g0 _, ?_⟩
        refine wpAnyU_all (rs := [5]) (by kernel_rfl) (by decide) ?_
        intro y1 h1 i hi
        simp only [List.mem_cons, List.not_mem_nil, or_false] at hi
        subst hi
        have z0_1 : ShAt y1 y0.heap.size zeroSh := (ShAt.zero y0).after h1
        have n0_1 : y0.heap.size < y1.heap.size := z0_1.lt
        have g1 : Gr wA.drew y1 := Gr.trans (bel_alloc g0 _) h1
        have k1 : wA.heap.size ≤ y1.heap.size := g1.size
        clear h1
        refine wpOp_plain rfl rfl ?_
        go_simp
        refine ⟨bel_alloc g1 _, ?_⟩
        refine wpAnyU_all (rs := [6]) (by kernel_rfl) (by decide) ?_
        intro y2 h2 i hi
        simp only [List.mem_cons, List.not_mem_nil, or_false] at hi
        subst hi
        have z0_2 : ShAt y2 y0.heap.size zeroSh := ShAt.after (z0_1.alloc _) h2
        have z1_2 : ShAt y2 y1.heap.size zeroSh := ShAt.after (ShAt.zero y1) h2
        have g2 : Gr wA.drew y2 := Gr.trans (bel_alloc g1 _) h2
        clear h2 z0_1
        obtain ⟨d0, d1, d2, d3, d4, d5, d6, d7⟩ := z0_2.cells
        obtain ⟨e0, e1, e2, e3, e4, e5, e6, e7⟩ := z0_2.frozens
        refine wpOp_plain rfl rfl ?_
        go_simp
        have gg2 : Gr wA.drew (putSh y2 y0.heap.size tx) := bel_putSh g2 (by show wA.heap.size ≤ _; omega) tx
        refine ⟨gg2, ?_⟩
        clear d0 d1 d2 d3 d4 d5 d6 d7 e0 e1 e2 e3 e4 e5 e6 e7
        refine wpAnyU_all (rs := [7]) (by kernel_rfl) (by decide) ?_
        intro y3 h3 i hi
        simp only [List.mem_cons, List.not_mem_nil, or_false] at hi
        subst hi
        have z0_3 : ShAt y3 y0.heap.size tx := ShAt.after (z0_2.put tx) h3
        have z1_3 : ShAt y3 y1.heap.size zeroSh := ShAt.after (z1_2.putFar (c := y0.heap.size) (by omega) tx) h3
        have g3 : Gr wA.drew y3 := Gr.trans gg2 h3
        clear h3 z0_2 z1_2
        obtain ⟨d0, d1, d2, d3, d4, d5, d6, d7⟩ := z1_3.cells
        obtain ⟨e0, e1, e2, e3, e4, e5, e6, e7⟩ := z1_3.frozens
        refine wpOp_plain rfl rfl ?_
        go_simp
        have gg3 : Gr wA.drew (putSh y3 y1.heap.size tw) := bel_putSh g3 (by show wA.heap.size ≤ _; omega) tw
        refine ⟨gg3, ?_⟩
        clear d0 d1 d2 d3 d4 d5 d6 d7 e0 e1 e2 e3 e4 e5 e6 e7
        refine wpAnyU_done (by kernel_rfl) ?_
        intro y4 h4
        have z0_4 : ShAt y4 y0.heap.size tx := ShAt.after (z0_3.putFar (c := y1.heap.size) (by omega) tw) h4
        have z1_4 : ShAt y4 y1.heap.size tw := ShAt.after (z1_3.put tw) h4
        have g4 : Gr wA.drew y4 := Gr.trans gg3 h4
        clear h4 z0_3 z1_3
        go_wp2
        go_meet
        case rel => exact ⟨y0.heap.size, y1.heap.size, rfl, rfl, z0_4, z1_4, k0, k1, g4.undrew⟩
      · have g0 : Gr wA.drew y0 := h0
        have k0 : wA.heap.size ≤ y0.heap.size := g0.size
        clear h0
        refine wpOp_plain rfl rfl ?_
        go_simp
        refine ⟨bel_alloc g0 _, ?_⟩
        refine wpAnyU_all (rs := [4]) (by kernel_rfl) (by decide) ?_
        intro y1 h1 i hi
        simp only [List.mem_cons, List.not_mem_nil, or_false] at hi
        subst hi
        have z1_1 : ShAt y1 y0.heap.size zeroSh := (ShAt.zero y0).after h1
        have n0_1 : y0.heap.size < y1.heap.size := z1_1.lt
        have g1 : Gr wA.drew y1 := Gr.trans (bel_alloc g0 _) h1
        have k1 : wA.heap.size ≤ y1.heap.size := g1.size
        clear h1
        refine wpOp_plain rfl rfl ?_
        go_simp
        refine ⟨bel_alloc g1 _, ?_⟩
        refine wpAnyU_all (rs := [6]) (by kernel_rfl) (by decide) ?_
        intro y2 h2 i hi
        simp only [List.mem_cons, List.not_mem_nil, or_false] at hi
        subst hi
        have z0_2 : ShAt y2 y1.heap.size zeroSh := ShAt.after (ShAt.zero y1) h2
        have z1_2 : ShAt y2 y0.heap.size zeroSh := ShAt.after (z1_1.alloc _) h2
        have g2 : Gr wA.drew y2 := Gr.trans (bel_alloc g1 _) h2
        clear h2 z1_1
        obtain ⟨d0, d1, d2, d3, d4, d5, d6, d7⟩ := z0_2.cells
        obtain ⟨e0, e1, e2, e3, e4, e5, e6, e7⟩ := z0_2.frozens
        refine wpOp_plain rfl rfl ?_
        go_simp
        have gg2 : Gr wA.drew (putSh y2 y1.heap.size tx) := bel_putSh g2 (by show wA.heap.size ≤ _; omega) tx
        refine ⟨gg2, ?_⟩
        clear d0 d1 d2 d3 d4 d5 d6 d7 e0 e1 e2 e3 e4 e5 e6 e7
        refine wpAnyU_all (rs := [7]) (by kernel_rfl) (by decide) ?_
        intro y3 h3 i hi
        simp only [List.mem_cons, List.not_mem_nil, or_false] at hi
        subst hi
        have z0_3 : ShAt y3 y1.heap.size tx := ShAt.after (z0_2.put tx) h3
        have z1_3 : ShAt y3 y0.heap.size zeroSh := ShAt.after (z1_2.putFar (c := y1.heap.size) (by omega) tx) h3
        have g3 : Gr wA.drew y3 := Gr.trans gg2 h3
        clear h3 z0_2 z1_2
        obtain ⟨d0, d1, d2, d3, d4, d5, d6, d7⟩ := z1_3.cells
        obtain ⟨e0, e1, e2, e3, e4, e5, e6, e7⟩ := z1_3.frozens
        refine wpOp_plain rfl rfl ?_
        go_simp
        have gg3 : Gr wA.drew (putSh y3 y0.heap.size tw) := bel_putSh g3 (by show wA.heap.size ≤ _; omega) tw
        refine ⟨gg3, ?_⟩
        clear d0 d1 d2 d3 d4 d5 d6 d7 e0 e1 e2 e3 e4 e5 e6 e7
        refine wpAnyU_done (by kernel_rfl) ?_
        intro y4 h4
        have z0_4 : ShAt y4 y1.heap.size tx := ShAt.after (z0_3.putFar (c := y0.heap.size) (by omega) tw) h4
        have z1_4 : ShAt y4 y0.heap.size tw := ShAt.after (z1_3.put tw) h4
        have g4 : Gr wA.drew y4 := Gr.trans gg3 h4
        clear h4 z0_3 z1_3
        go_wp2
        go_meet
        case rel => exact ⟨y1.heap.size, y0.heap.size, rfl, rfl, z0_4, z1_4, k1, k0, g4.undrew⟩
  case rest =>
    obtain ⟨bx, bw, rfl, rfl, hX, hWw, lx, lw, hbx⟩ := hcut
    have hB1 := hB.after hbx
    have hI1 := hI.after hbx
    have hb1 := bel_step hbA hbx
    have ls : wA.heap.size ≤ wc.heap.size := hbx.size
    generalize wc = wcA at *
    clear hA hB hC hI hbx hbA HTa HSc
    go_wp2
    go_cut [13] from 16 (fun p wx => ∃ x : Nat, p = .pointer (some ⟨x, 0, none⟩) ∧ ShAt wx x ty ∧ wcA.heap.size ≤ x ∧ Below wcA.heap.size wcA wx)
    case first =>
      refine region_head 4 ?A2 (by kernel_rfl) (by kernel_rfl) (by kernel_rfl) (by decide) (by kernel_rfl) ?hQ ?head ?tail
      case hQ =>
        intro c a d v w1 h
        cases d <;> exact h
      case head =>
        intro x
        simp only [List.take_succ_cons, List.take_zero]
        obtain ⟨L0, L1, L2, L3, L4, L5, L6, L7⟩ := (ShAt.after hX.drew x.below).laters
        obtain ⟨M0, M1, M2, M3, M4, M5, M6, M7⟩ := (ShAt.after hB1.drew x.below).laters
        repeat (go_big_quiet_step (fail))
        go_big_quiet_step (exact later (HTb.out _))
        repeat (go_big_quiet_step (fail))
        go_big_quiet_step (exact later (HJ.out _))
        repeat (go_big_quiet_step (fail))
        refine wpQuiet_nil ?_
        rfl
      case tail =>
        change wpAnyU _ _ _ _ _ (1 + 1) _ _ _
        refine wpAnyU_all (rs := [4]) (by kernel_rfl) (by decide) ?_
        intro y0 h0 i hi
        simp only [List.mem_cons, List.not_mem_nil, or_false] at hi
        subst hi
        have g0 : Gr wcA.drew y0 := h0
        have k0 : wcA.heap.size ≤ y0.heap.size := g0.size
        clear h0
        refine wpOp_plain rfl rfl ?_
        go_simp
        refine ⟨bel_alloc g0 _, ?_⟩
        refine wpAnyU_all (rs := [5]) (by kernel_rfl) (by decide) ?_
        intro y1 h1 i hi
        simp only [List.mem_cons, List.not_mem_nil, or_false] at hi
        subst hi
        have z0_1 : ShAt y1 y0.heap.size zeroSh := ShAt.after (ShAt.zero y0) h1
        have g1 : Gr wcA.drew y1 := Gr.trans (bel_alloc g0 _) h1
        clear h1 
        obtain ⟨d0, d1, d2, d3, d4, d5, d6, d7⟩ := z0_1.cells
        obtain ⟨e0, e1, e2, e3, e4, e5, e6, e7⟩ := z0_1.frozens
        refine wpOp_plain rfl rfl ?_
        go_simp
        have gg1 : Gr wcA.drew (putSh y1 y0.heap.size ty) := bel_putSh g1 (by show wcA.heap.size ≤ _; omega) ty
        refine ⟨gg1, ?_⟩
        clear d0 d1 d2 d3 d4 d5 d6 d7 e0 e1 e2 e3 e4 e5 e6 e7
        refine wpAnyU_done (by kernel_rfl) ?_
        intro y2 h2
        have z0_2 : ShAt y2 y0.heap.size ty := ShAt.after (z0_1.put ty) h2
        have g2 : Gr wcA.drew y2 := Gr.trans gg1 h2
        clear h2 z0_1
        go_wp2
        go_meet
        case rel => exact ⟨y0.heap.size, rfl, z0_2, k0, g2.undrew⟩
    case rest =>
      obtain ⟨bv, rfl, hY2, ly, hby⟩ := hcut
      have hX2 := hX.after hby
      have hW2 := hWw.after hby
      have hI2 := hI1.after hby
      have hb2 := bel_step hb1 hby
      have ls2 : wcA.heap.size ≤ wc.heap.size := hby.size
      generalize wc = wcB at *
      clear hX hWw hI1 hb1 hB1 hby HTb HJ
      go_wp2
      go_cut [14, 15] from 16 (fun p q wx => ∃ x y : Nat, p = .pointer (some ⟨x, 0, none⟩) ∧ q = .pointer (some ⟨y, 0, none⟩) ∧ ShAt wx x tp ∧ ShAt wx y tq ∧ wcB.heap.size ≤ x ∧ wcB.heap.size ≤ y ∧ Below wcB.heap.size wcB wx)
      case first =>
        refine region_head 4 ?A3 (by kernel_rfl) (by kernel_rfl) (by kernel_rfl) (by decide) (by kernel_rfl) ?hQ ?head ?tail
        case hQ =>
          intro c a d v w1 h
          cases d <;> exact h
        case head =>
          intro x
          simp only [List.take_succ_cons, List.take_zero]
          obtain ⟨L0, L1, L2, L3, L4, L5, L6, L7⟩ := (ShAt.after hX2.drew x.below).laters
          obtain ⟨M0, M1, M2, M3, M4, M5, M6, M7⟩ := (ShAt.after hY2.drew x.below).laters
          repeat (go_big_quiet_step (fail))
          go_big_quiet_step (exact later (HR1.out _))
          repeat (go_big_quiet_step (fail))
          go_big_quiet_step (exact later (HR2.out _))
          repeat (go_big_quiet_step (fail))
          refine wpQuiet_nil ?_
          rfl
        case tail =>
          change wpAnyU _ _ _ _ _ (3 + 1) _ _ _
          refine wpAnyU_all (rs := [4, 5]) (by kernel_rfl) (by decide) ?_
          intro y0 h0 i hi
          simp only [List.mem_cons, List.not_mem_nil, or_false] at hi
          rcases hi with rfl | rfl
          · have g0 : Gr wcB.drew y0 := h0
            have k0 : wcB.heap.size ≤ y0.heap.size := g0.size
            clear h0
            refine wpOp_plain rfl rfl ?_
            go_simp
            refine ⟨bel_alloc g0 _, ?_⟩
            refine wpAnyU_all (rs := [5]) (by kernel_rfl) (by decide) ?_
            intro y1 h1 i hi
            simp only [List.mem_cons, List.not_mem_nil, or_false] at hi
            subst hi
            have z0_1 : ShAt y1 y0.heap.size zeroSh := (ShAt.zero y0).after h1
            have n0_1 : y0.heap.size < y1.heap.size := z0_1.lt
            have g1 : Gr wcB.drew y1 := Gr.trans (bel_alloc g0 _) h1
            have k1 : wcB.heap.size ≤ y1.heap.size := g1.size
            clear h1
            refine wpOp_plain rfl rfl ?_
            go_simp
            refine ⟨bel_alloc g1 _, ?_⟩
            refine wpAnyU_all (rs := [6]) (by kernel_rfl) (by decide) ?_
            intro y2 h2 i hi
            simp only [List.mem_cons, List.not_mem_nil, or_false] at hi
            subst hi
            have z0_2 : ShAt y2 y0.heap.size zeroSh := ShAt.after (z0_1.alloc _) h2
            have z1_2 : ShAt y2 y1.heap.size zeroSh := ShAt.after (ShAt.zero y1) h2
            have g2 : Gr wcB.drew y2 := Gr.trans (bel_alloc g1 _) h2
            clear h2 z0_1
            obtain ⟨d0, d1, d2, d3, d4, d5, d6, d7⟩ := z0_2.cells
            obtain ⟨e0, e1, e2, e3, e4, e5, e6, e7⟩ := z0_2.frozens
            refine wpOp_plain rfl rfl ?_
            go_simp
            have gg2 : Gr wcB.drew (putSh y2 y0.heap.size tp) := bel_putSh g2 (by show wcB.heap.size ≤ _; omega) tp
            refine ⟨gg2, ?_⟩
            clear d0 d1 d2 d3 d4 d5 d6 d7 e0 e1 e2 e3 e4 e5 e6 e7
            refine wpAnyU_all (rs := [7]) (by kernel_rfl) (by decide) ?_
            intro y3 h3 i hi
            simp only [List.mem_cons, List.not_mem_nil, or_false] at hi
            subst hi
            have z0_3 : ShAt y3 y0.heap.size tp := ShAt.after (z0_2.put tp) h3
            have z1_3 : ShAt y3 y1.heap.size zeroSh := ShAt.after (z1_2.putFar (c := y0.heap.size) (by omega) tp) h3
            have g3 : Gr wcB.drew y3 := Gr.trans gg2 h3
            clear h3 z0_2 z1_2
            obtain ⟨d0, d1, d2, d3, d4, d5, d6, d7⟩ := z1_3.cells
            obtain ⟨e0, e1, e2, e3, e4, e5, e6, e7⟩ := z1_3.frozens
            refine wpOp_plain rfl rfl ?_
            go_simp
            have gg3 : Gr wcB.drew (putSh y3 y1.heap.size tq) := bel_putSh g3 (by show wcB.heap.size ≤ _; omega) tq
            refine ⟨gg3, ?_⟩
            clear d0 d1 d2 d3 d4 d5 d6 d7 e0 e1 e2 e3 e4 e5 e6 e7
            refine wpAnyU_done (by kernel_rfl) ?_
            intro y4 h4
            have z0_4 : ShAt y4 y0.heap.size tp := ShAt.after (z0_3.putFar (c := y1.heap.size) (by omega) tq) h4
            have z1_4 : ShAt y4 y1.heap.size tq := ShAt.after (z1_3.put tq) h4
            have g4 : Gr wcB.drew y4 := Gr.trans gg3 h4
            clear h4 z0_3 z1_3
            go_wp2
            go_meet
            case rel => exact ⟨y0.heap.size, y1.heap.size, rfl, rfl, z0_4, z1_4, k0, k1, g4.undrew⟩
          · have g0 : Gr wcB.drew y0 := h0
            have k0 : wcB.heap.size ≤ y0.heap.size := g0.size
            clear h0
            refine wpOp_plain rfl rfl ?_
            go_simp
            refine ⟨bel_alloc g0 _, ?_⟩
            refine wpAnyU_all (rs := [4]) (by kernel_rfl) (by decide) ?_
            intro y1 h1 i hi
            simp only [List.mem_cons, List.not_mem_nil, or_false] at hi
            subst hi
            have z1_1 : ShAt y1 y0.heap.size zeroSh := (ShAt.zero y0).after h1
            have n0_1 : y0.heap.size < y1.heap.size := z1_1.lt
            have g1 : Gr wcB.drew y1 := Gr.trans (bel_alloc g0 _) h1
            have k1 : wcB.heap.size ≤ y1.heap.size := g1.size
            clear h1
            refine wpOp_plain rfl rfl ?_
            go_simp
            refine ⟨bel_alloc g1 _, ?_⟩
            refine wpAnyU_all (rs := [6]) (by kernel_rfl) (by decide) ?_
            intro y2 h2 i hi
            simp only [List.mem_cons, List.not_mem_nil, or_false] at hi
            subst hi
            have z0_2 : ShAt y2 y1.heap.size zeroSh := ShAt.after (ShAt.zero y1) h2
            have z1_2 : ShAt y2 y0.heap.size zeroSh := ShAt.after (z1_1.alloc _) h2
            have g2 : Gr wcB.drew y2 := Gr.trans (bel_alloc g1 _) h2
            clear h2 z1_1
            obtain ⟨d0, d1, d2, d3, d4, d5, d6, d7⟩ := z0_2.cells
            obtain ⟨e0, e1, e2, e3, e4, e5, e6, e7⟩ := z0_2.frozens
            refine wpOp_plain rfl rfl ?_
            go_simp
            have gg2 : Gr wcB.drew (putSh y2 y1.heap.size tp) := bel_putSh g2 (by show wcB.heap.size ≤ _; omega) tp
            refine ⟨gg2, ?_⟩
            clear d0 d1 d2 d3 d4 d5 d6 d7 e0 e1 e2 e3 e4 e5 e6 e7
            refine wpAnyU_all (rs := [7]) (by kernel_rfl) (by decide) ?_
            intro y3 h3 i hi
            simp only [List.mem_cons, List.not_mem_nil, or_false] at hi
            subst hi
            have z0_3 : ShAt y3 y1.heap.size tp := ShAt.after (z0_2.put tp) h3
            have z1_3 : ShAt y3 y0.heap.size zeroSh := ShAt.after (z1_2.putFar (c := y1.heap.size) (by omega) tp) h3
            have g3 : Gr wcB.drew y3 := Gr.trans gg2 h3
            clear h3 z0_2 z1_2
            obtain ⟨d0, d1, d2, d3, d4, d5, d6, d7⟩ := z1_3.cells
            obtain ⟨e0, e1, e2, e3, e4, e5, e6, e7⟩ := z1_3.frozens
            refine wpOp_plain rfl rfl ?_
            go_simp
            have gg3 : Gr wcB.drew (putSh y3 y0.heap.size tq) := bel_putSh g3 (by show wcB.heap.size ≤ _; omega) tq
            refine ⟨gg3, ?_⟩
            clear d0 d1 d2 d3 d4 d5 d6 d7 e0 e1 e2 e3 e4 e5 e6 e7
            refine wpAnyU_done (by kernel_rfl) ?_
            intro y4 h4
            have z0_4 : ShAt y4 y1.heap.size tp := ShAt.after (z0_3.putFar (c := y0.heap.size) (by omega) tq) h4
            have z1_4 : ShAt y4 y0.heap.size tq := ShAt.after (z1_3.put tq) h4
            have g4 : Gr wcB.drew y4 := Gr.trans gg3 h4
            clear h4 z0_3 z1_3
            go_wp2
            go_meet
            case rel => exact ⟨y1.heap.size, y0.heap.size, rfl, rfl, z0_4, z1_4, k1, k0, g4.undrew⟩
      case rest =>
        obtain ⟨bp, bq, rfl, rfl, hP3, hQ3, lp, lq, hbz⟩ := hcut
        have hX3 := hX2.after hbz
        have hW3 := hW2.after hbz
        have hY3 := hY2.after hbz
        have hI3 := hI2.after hbz
        have hb3 := bel_step hb2 hbz
        clear hX2 hW2 hY2 hI2 hb2 hbz HR1 HR2
        obtain ⟨c0, c1, c2, c3, c4, c5, c6, c7⟩ := hI3.cells
        go_wp2_with fail
        clear c0 c1 c2 c3 c4 c5 c6 c7
        refine (HTi.out _).mono ?_
        rintro e w1 ⟨rfl, kb1⟩
        have hX4 := hX3.after kb1
        have hW4 := hW3.after kb1
        have hY4 := hY3.after kb1
        have hP4 := hP3.after kb1
        have hQ4 := hQ3.after kb1
        have hI4 := hI3.after kb1
        have hb4 := bel_step hb3 kb1
        clear hX3 hW3 hY3 hP3 hQ3 hI3 hb3 kb1 HTi
        have hX5 := hX4.putFar (c := w.heap.size + 1 + 1 + 1) (by omega) ti
        have hW5 := hW4.putFar (c := w.heap.size + 1 + 1 + 1) (by omega) ti
        have hY5 := hY4.putFar (c := w.heap.size + 1 + 1 + 1) (by omega) ti
        have hP5 := hP4.putFar (c := w.heap.size + 1 + 1 + 1) (by omega) ti
        have hQ5 := hQ4.putFar (c := w.heap.size + 1 + 1 + 1) (by omega) ti
        have hI5 := hI4.put ti
        have hb6 := bel_putSh hb4 (b := w.heap.size + 1 + 1 + 1) (by omega) ti
        obtain ⟨U, hU⟩ : ∃ U, putSh w1 (w.heap.size + 1 + 1 + 1) ti = U := ⟨_, rfl⟩
        rw [hU] at hX5 hW5 hY5 hP5 hQ5 hI5 hb6
        unfold putSh at hU
        have HU := Lib.hid hU
        clear hU hX4 hW4 hY4 hP4 hQ4 hb4 lx lw ly lp lq ls ls2 hle
        obtain ⟨c0, c1, c2, c3, c4, c5, c6, c7⟩ := hI4.cells
        obtain ⟨f0, f1, f2, f3, f4, f5, f6, f7⟩ := hI4.frozens
        go_upto_region 5 with fail
        rw [HU.out]
        clear HU hI4 c0 c1 c2 c3 c4 c5 c6 c7 f0 f1 f2 f3 f4 f5 f6 f7
        obtain ⟨L0, L1, L2, L3, L4, L5, L6, L7⟩ := hX5.laters
        obtain ⟨M0, M1, M2, M3, M4, M5, M6, M7⟩ := hW5.laters
        obtain ⟨N0, N1, N2, N3, N4, N5, N6, N7⟩ := hY5.laters
        obtain ⟨O0, O1, O2, O3, O4, O5, O6, O7⟩ := hP5.laters
        obtain ⟨Q0, Q1, Q2, Q3, Q4, Q5, Q6, Q7⟩ := hQ5.laters
        obtain ⟨R0, R1, R2, R3, R4, R5, R6, R7⟩ := hI5.laters
        simp only [List.append]
        refine region_later (by kernel_rfl) (by kernel_rfl) ?_
        repeat (go_big_quiet_step (fail))
        go_big_quiet_step (exact later (HL1.out _))
        repeat (go_big_quiet_step (fail))
        go_big_quiet_step (exact later (HC1.out _))
        repeat (go_big_quiet_step (fail))
        go_big_quiet_step (exact later (HC2.out _))
        repeat (go_big_quiet_step (fail))
        go_big_quiet_step (exact later (HL2.out _))
        repeat (go_big_quiet_step (fail))
        go_big_quiet_step (exact later (HK1.out _))
        repeat (go_big_quiet_step (fail))
        go_big_quiet_step (exact later (HK2.out _))
        repeat (go_big_quiet_step (fail))
        go_big_quiet_step (exact later (HL3.out _))
        repeat (go_big_quiet_step (fail))
        go_big_quiet_step (exact later (HD1.out _))
        repeat (go_big_quiet_step (fail))
        go_big_quiet_step (exact later (HD2.out _))
        repeat (go_big_quiet_step (fail))
        go_big_quiet_step (exact later (HL4.out _))
        repeat (go_big_quiet_step (fail))
        go_big_quiet_step (exact later (HG1.out _))
        repeat (go_big_quiet_step (fail))
        go_big_quiet_step (exact later (HG2.out _))
        repeat (go_big_quiet_step (fail))
        go_big_quiet_step (exact later (HL5.out _))
        repeat (go_big_quiet_step (fail))
        go_big_quiet_step (exact later (HO1.out _))
        repeat (go_big_quiet_step (fail))
        go_big_quiet_step (exact later (HO2.out _))
        repeat (go_big_quiet_step (fail))
        go_big_quiet_step (exact later (HL6.out _))
        repeat (go_big_quiet_step (fail))
        go_big_quiet_step (exact later (HS1.out _))
        cases s1 with
        | true =>
          obtain rfl : s2 = true := IS.out rfl
          repeat (go_big_quiet_step (fail))
          go_big_quiet_step (exact later (HS2.out _))
          repeat (go_big_quiet_step (fail))
          go_big_quiet_step (exact later (HB1.out _))
          cases g1 with
          | true =>
            obtain rfl : g2 = true := IG.out rfl
            repeat (go_big_quiet_step (fail))
            go_big_quiet_step (exact later (HB2.out _))
            repeat (go_big_quiet_step (fail))
            go_big_quiet_step (exact later (HU1.out _))
            cases a1 with
            | true =>
              obtain rfl : a2 = true := IU.out rfl
              repeat (go_big_quiet_step (fail))
              go_big_quiet_step (exact later (HU2.out _))
              repeat (go_big_quiet_step (fail))
              go_big_quiet_step (exact later (HW.out _))
              repeat (go_big_quiet_step (fail))
              refine wpQuiet_nil ?_
              rintro _ ⟨m, rfl⟩
              go_wp2
              go_ret
              exact ⟨rfl, bel_step hb6 m.below⟩
            | false =>
              repeat (go_big_quiet_step (fail))
              go_big_quiet_step (exact later (HW.out _))
              repeat (go_big_quiet_step (fail))
              refine wpQuiet_nil ?_
              rintro _ ⟨m, rfl⟩
              go_wp2
              go_ret
              exact ⟨rfl, bel_step hb6 m.below⟩
          | false =>
            repeat (go_big_quiet_step (fail))
            go_big_quiet_step (exact later (HU1.out _))
            cases a1 with
            | true =>
              obtain rfl : a2 = true := IU.out rfl
              repeat (go_big_quiet_step (fail))
              go_big_quiet_step (exact later (HU2.out _))
              repeat (go_big_quiet_step (fail))
              go_big_quiet_step (exact later (HW.out _))
              repeat (go_big_quiet_step (fail))
              refine wpQuiet_nil ?_
              rintro _ ⟨m, rfl⟩
              go_wp2
              go_ret
              exact ⟨rfl, bel_step hb6 m.below⟩
            | false =>
              repeat (go_big_quiet_step (fail))
              go_big_quiet_step (exact later (HW.out _))
              repeat (go_big_quiet_step (fail))
              refine wpQuiet_nil ?_
              rintro _ ⟨m, rfl⟩
              go_wp2
              go_ret
              exact ⟨rfl, bel_step hb6 m.below⟩
        | false =>
          repeat (go_big_quiet_step (fail))
          go_big_quiet_step (exact later (HB1.out _))
          cases g1 with
          | true =>
            obtain rfl : g2 = true := IG.out rfl
            repeat (go_big_quiet_step (fail))
            go_big_quiet_step (exact later (HB2.out _))
            repeat (go_big_quiet_step (fail))
            go_big_quiet_step (exact later (HU1.out _))
            cases a1 with
            | true =>
              obtain rfl : a2 = true := IU.out rfl
              repeat (go_big_quiet_step (fail))
              go_big_quiet_step (exact later (HU2.out _))
              repeat (go_big_quiet_step (fail))
              go_big_quiet_step (exact later (HW.out _))
              repeat (go_big_quiet_step (fail))
              refine wpQuiet_nil ?_
              rintro _ ⟨m, rfl⟩
              go_wp2
              go_ret
              exact ⟨rfl, bel_step hb6 m.below⟩
            | false =>
              repeat (go_big_quiet_step (fail))
              go_big_quiet_step (exact later (HW.out _))
              repeat (go_big_quiet_step (fail))
              refine wpQuiet_nil ?_
              rintro _ ⟨m, rfl⟩
              go_wp2
              go_ret
              exact ⟨rfl, bel_step hb6 m.below⟩
          | false =>
            repeat (go_big_quiet_step (fail))
            go_big_quiet_step (exact later (HU1.out _))
            cases a1 with
            | true =>
              obtain rfl : a2 = true := IU.out rfl
              repeat (go_big_quiet_step (fail))
              go_big_quiet_step (exact later (HU2.out _))
              repeat (go_big_quiet_step (fail))
              go_big_quiet_step (exact later (HW.out _))
              repeat (go_big_quiet_step (fail))
              refine wpQuiet_nil ?_
              rintro _ ⟨m, rfl⟩
              go_wp2
              go_ret
              exact ⟨rfl, bel_step hb6 m.below⟩
            | false =>
              repeat (go_big_quiet_step (fail))
              go_big_quiet_step (exact later (HW.out _))
              repeat (go_big_quiet_step (fail))
              refine wpQuiet_nil ?_
              rintro _ ⟨m, rfl⟩
              go_wp2
              go_ret
              exact ⟨rfl, bel_step hb6 m.below⟩
end Go.Proofs.Ytjdhidiocchkeaa
