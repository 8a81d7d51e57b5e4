/-
  The walk of conchlaw4.ShapeJoins.
-/
import Derived.Test.YtboiplanipgidaaShNone
import Derived.Test.YtboiplanipgidaaSetBytesOf
import Derived.Deep.CutRange
namespace Go.Proofs.Ytboiplanipgidaa
open Go.RowKit

theorem bytes_size (p : Nat → Bool) : (⟨(bytesS p).toArray⟩ : ByteArray).size ≤ 256 := by
  have h1 := bytesS_len p
  have h2 := cntS_le p
  show (bytesS p).toArray.size ≤ 256
  simp only [List.size_toArray]
  omega
theorem lt_of_row {w : World} {b : Nat} {o : Obj} (h : w.heap[b]? = some o) : b < w.heap.size := by
  rcases Nat.lt_or_ge b w.heap.size with hlt | hge
  · exact hlt
  · rw [Array.getElem?_eq_none hge] at h; cases h
theorem ok_lit {x : Sh} (h : OkP x) : x.l.size ≤ 64 := by
  rcases Bool.eq_false_or_eq_true x.k with hk | hk
  · exact (h.lit hk).1.1
  · rw [h.no hk]; decide

set_option maxHeartbeats 8000000 in
set_option maxRecDepth 100000 in
theorem ShapeJoins_walk (a b : Sh) (v : ByteArray) (is : Bool) (w : World) : Calls Try.prog 5 #[shV a, shV b, .string v, .bool is] w (Gives w (.bool true)) := by
  have HW := Lib.hid awake_is
  obtain ⟨wA, hwA, hbA, hA, hB⟩ := lay_two w a b
  by_cases hv : v.size ≤ 100
  · have HTa := Lib.hid (Tame_is a)
    have HTb := Lib.hid (Tame_is b)
    have ha := Lib.hid (tame_ok a)
    have hb := Lib.hid (tame_ok b)
    generalize tameSh a = ta at *
    generalize tameSh b = tb at *
    have HJ := Lib.hid (Join_is ta tb)
    have hj := Lib.hid (join_ok ha.out hb.out)
    have hlj := Lib.hid (join_left ha.out hb.out)
    have hrj := Lib.hid (join_right ha.out hb.out)
    have hcj := Lib.hid (join_comm ha.out hb.out)
    generalize joinP ta tb = j at *
    simp only [shV] at HTa HTb HJ ⊢
    go_enter Try.func5, Try.ntmps5
    go_wp2
    clear hwA
    obtain ⟨L0, L1, L2, L3, L4, L5, L6, L7⟩ := hA.laters
    obtain ⟨M0, M1, M2, M3, M4, M5, M6, M7⟩ := hB.laters
    refine region_tail 4 (by kernel_rfl) (by kernel_rfl) ?_
    simp only [List.take_succ_cons, List.take_zero, List.drop_succ_cons, List.drop_zero]
    repeat (go_big_quiet_step (fail))
    go_big_quiet_step (exact later (HTa.out _))
    repeat (go_big_quiet_step (fail))
    go_big_quiet_step (exact later (HTb.out _))
    repeat (go_big_quiet_step (fail))
    refine wpQuiet_nil ?_
    rintro _ ⟨z, rfl⟩
    have hA2 := hA.after z.below
    have hB2 := hB.after z.below
    have hb2 := bel_step hbA z.below
    clear L0 L1 L2 L3 L4 L5 L6 L7 M0 M1 M2 M3 M4 M5 M6 M7 hA hB hbA HTa HTb
    generalize z.at_ = V at *
    obtain ⟨c0, c1, c2, c3, c4, c5, c6, c7⟩ := hA2.cells
    obtain ⟨d0, d1, d2, d3, d4, d5, d6, d7⟩ := hB2.cells
    obtain ⟨g0, g1, g2, g3, g4, g5, g6, g7⟩ := hA2.frozens
    obtain ⟨k0, k1, k2, k3, k4, k5, k6, k7⟩ := hB2.frozens
    have hA3 := (hA2.put ta).putFar (c := w.heap.size + 1) (by omega) tb
    have hB3 := (hB2.putFar (c := w.heap.size) (by omega) ta).put tb
    have hb3 := bel_putSh (bel_putSh hb2 (Nat.le_refl _) ta) (by omega : w.heap.size ≤ w.heap.size + 1) tb
    go_wp2_with fail
    clear c0 c1 c2 c3 c4 c5 c6 c7 d0 d1 d2 d3 d4 d5 d6 d7 g0 g1 g2 g3 g4 g5 g6 g7 k0 k1 k2 k3 k4 k5 k6 k7 hA2 hB2 hb2
    refine (HJ.out _).mono ?_
    rintro e w1 ⟨rfl, hb1⟩
    have hA4 := hA3.after hb1
    have hB4 := hB3.after hb1
    have hb4 := bel_step hb3 hb1
    clear hA3 hB3 hb3 hb1
    have hA5 := hA4.alloc (.cells #[.bool j.u, .bool j.e, .int .u64 (wd j.h 0 : Nat), .int .u64 (wd j.h 1 : Nat), .int .u64 (wd j.h 2 : Nat), .int .u64 (wd j.h 3 : Nat), .bool j.k, .string j.l] 26)
    have hB5 := hB4.alloc (.cells #[.bool j.u, .bool j.e, .int .u64 (wd j.h 0 : Nat), .int .u64 (wd j.h 1 : Nat), .int .u64 (wd j.h 2 : Nat), .int .u64 (wd j.h 3 : Nat), .bool j.k, .string j.l] 26)
    have hJ5 := ShAt.new w1 j
    have hb5 := bel_alloc hb4 (.cells #[.bool j.u, .bool j.e, .int .u64 (wd j.h 0 : Nat), .int .u64 (wd j.h 1 : Nat), .int .u64 (wd j.h 2 : Nat), .int .u64 (wd j.h 3 : Nat), .bool j.k, .string j.l] 26)
    go_wp2
    clear hA4 hB4 hb4
    generalize w1.alloc (.cells #[.bool j.u, .bool j.e, .int .u64 (wd j.h 0 : Nat), .int .u64 (wd j.h 1 : Nat), .int .u64 (wd j.h 2 : Nat), .int .u64 (wd j.h 3 : Nat), .bool j.k, .string j.l] 26) = U at *
    generalize w1.heap.size = m at *
    go_loopw [10, 11, 12, 13] (fun i _ _ _ wr => ∃ k : Nat, k ≤ 5 ∧ i = .int .i64 k ∧ ShAt wr w.heap.size ta ∧ ShAt wr (w.heap.size + 1) tb ∧ ShAt wr m j ∧ Below w.heap.size w wr) (fun i _ _ _ _ => 5 - (intOf i).toNat)
    case atStart => exact ⟨0, by decide, rfl, hA5, hB5, hJ5, hb5⟩
    case round =>
      obtain ⟨k, hk5, rfl, hA6, hB6, hJ6, hb6⟩ := hrel
      clear hA5 hB5 hJ5 hb5
      by_cases hk : k < 5
      · have HY := Lib.hid (Bytes_is ta.h)
        have hy := bytes_size ta.h
        generalize (⟨(bytesS ta.h).toArray⟩ : ByteArray) = Y at *
        simp only [setV] at HY
        have hla := ok_lit ha.out
        have hlb := ok_lit hb.out
        go_wp2
        go_cut [11] from 25 to 65 (fun s wx => ∃ T : ByteArray, T.size ≤ 256 ∧ s = .string T ∧ ShAt wx w.heap.size ta ∧ ShAt wx (w.heap.size + 1) tb ∧ ShAt wx m j ∧ Below w.heap.size w wx)
        case first =>
          have h5 : k = 0 ∨ k = 1 ∨ k = 2 ∨ k = 3 ∨ k = 4 := by omega
          rcases h5 with rfl | rfl | rfl | rfl | rfl
          · refine region_head 8 ?A0 (by kernel_rfl) (by kernel_rfl) (by kernel_rfl) (by decide) (by kernel_rfl) ?hQ ?head ?tail
            case hQ =>
              intro c a d v w1 h
              cases d <;> exact h
            case head =>
              intro x
              simp only [List.take_succ_cons, List.take_zero]
              obtain ⟨L0, L1, L2, L3, L4, L5, L6, L7⟩ := (ShAt.after hA6.drew x.below).laters
              obtain ⟨M0, M1, M2, M3, M4, M5, M6, M7⟩ := (ShAt.after hB6.drew x.below).laters
              repeat (go_big_quiet_step (fail))
              go_big_quiet_step (exact later (HY.out _))
              repeat (go_big_quiet_step (fail))
              refine wpQuiet_nil ?_
              rfl
            case tail =>
              change wpAnyU _ _ _ _ _ (4 + 1) _ _ _
              refine wpAnyU_all (rs := [8, 9]) (by kernel_rfl) (by decide) ?_
              intro w3 h3 i hi
              simp only [List.mem_cons, List.not_mem_nil, or_false] at hi
              rcases hi with rfl | rfl
              · refine wpOp_plain rfl rfl ?_
                go_simp
                refine ⟨bel_alloc h3 _, ?_⟩
                refine wpAnyU_all (rs := [9]) (by kernel_rfl) (by decide) ?_
                intro w4 h4 i hi
                simp only [List.mem_cons, List.not_mem_nil, or_false] at hi
                subst hi
                have qw4 : w4.heap[w3.heap.size]? = some (.cells #[.string v, .string ⟨#[]⟩, .string ta.l, .string tb.l, .string Y] 9 (0, 0)) := (h4.block _ (by simp)).trans (heap_alloc_new w3 _)
                refine wpOp_plain rfl rfl ?_
                go_simp
                have r4 : Gr wr.drew w4 := Gr.trans (bel_alloc h3 _) h4
                refine ⟨r4, ?_⟩
                refine wpAnyU_all (rs := [10]) (by kernel_rfl) (by decide) ?_
                intro w5 h5 i hi
                simp only [List.mem_cons, List.not_mem_nil, or_false] at hi
                subst hi
                have qw5 : w5.heap[w3.heap.size]? = some (.cells #[.string v, .string ⟨#[]⟩, .string ta.l, .string tb.l, .string Y] 9 (0, 0)) := (h5.block _ (lt_of_row qw4)).trans qw4
                refine wpOp_plain rfl rfl ?_
                go_simp
                have r5 := Gr.trans r4 h5
                refine ⟨r5, ?_⟩
                refine wpAnyU_all (rs := [11]) (by kernel_rfl) (by decide) ?_
                intro w6 h6 i hi
                simp only [List.mem_cons, List.not_mem_nil, or_false] at hi
                subst hi
                have qw6 : w6.heap[w3.heap.size]? = some (.cells #[.string v, .string ⟨#[]⟩, .string ta.l, .string tb.l, .string Y] 9 (0, 0)) := (h6.block _ (lt_of_row qw5)).trans qw5
                have cc := cell_of_row w6 w3.heap.size 0 _ _ _ qw6
                refine wpOp_plain rfl rfl ?_
                go_simp
                have r6 := Gr.trans r5 h6
                refine ⟨r6, ?_⟩
                refine wpAnyU_all (rs := [12]) (by kernel_rfl) (by decide) ?_
                intro w7 h7 i hi
                simp only [List.mem_cons, List.not_mem_nil, or_false] at hi
                subst hi
                refine wpOp_plain rfl rfl ?_
                go_simp
                have r7 := Gr.trans r6 h7
                refine ⟨r7, ?_⟩
                refine wpAnyU_done (by kernel_rfl) ?_
                intro w8 h8
                have r8 := Gr.trans r7 h8
                go_wp2
                go_meet
                case rel => exact ⟨v, by omega, rfl, hA6.after r8.undrew, hB6.after r8.undrew, hJ6.after r8.undrew, bel_step hb6 r8.undrew⟩
              · refine wpOp_plain rfl rfl ?_
                have H3 := Lib.hid h3
                clear h3
                go_simp
                have h3 := H3.out
                refine ⟨h3, ?_⟩
                refine wpAnyU_all (rs := [8]) (by kernel_rfl) (by decide) ?_
                intro w4 h4 i hi
                simp only [List.mem_cons, List.not_mem_nil, or_false] at hi
                subst hi
                refine wpOp_plain rfl rfl ?_
                go_simp
                have r4 : Gr wr.drew w4 := Gr.trans h3 h4
                refine ⟨bel_alloc r4 _, ?_⟩
                refine wpAnyU_all (rs := [10]) (by kernel_rfl) (by decide) ?_
                intro w5 h5 i hi
                simp only [List.mem_cons, List.not_mem_nil, or_false] at hi
                subst hi
                have qw5 : w5.heap[w4.heap.size]? = some (.cells #[.string v, .string ⟨#[]⟩, .string ta.l, .string tb.l, .string Y] 9 (0, 0)) := (h5.block _ (by simp)).trans (heap_alloc_new w4 _)
                refine wpOp_plain rfl rfl ?_
                go_simp
                have r5 : Gr wr.drew w5 := Gr.trans (bel_alloc r4 _) h5
                refine ⟨r5, ?_⟩
                refine wpAnyU_all (rs := [11]) (by kernel_rfl) (by decide) ?_
                intro w6 h6 i hi
                simp only [List.mem_cons, List.not_mem_nil, or_false] at hi
                subst hi
                have qw6 : w6.heap[w4.heap.size]? = some (.cells #[.string v, .string ⟨#[]⟩, .string ta.l, .string tb.l, .string Y] 9 (0, 0)) := (h6.block _ (lt_of_row qw5)).trans qw5
                have cc := cell_of_row w6 w4.heap.size 0 _ _ _ qw6
                refine wpOp_plain rfl rfl ?_
                go_simp
                have r6 := Gr.trans r5 h6
                refine ⟨r6, ?_⟩
                refine wpAnyU_all (rs := [12]) (by kernel_rfl) (by decide) ?_
                intro w7 h7 i hi
                simp only [List.mem_cons, List.not_mem_nil, or_false] at hi
                subst hi
                refine wpOp_plain rfl rfl ?_
                go_simp
                have r7 := Gr.trans r6 h7
                refine ⟨r7, ?_⟩
                refine wpAnyU_done (by kernel_rfl) ?_
                intro w8 h8
                have r8 := Gr.trans r7 h8
                go_wp2
                go_meet
                case rel => exact ⟨v, by omega, rfl, hA6.after r8.undrew, hB6.after r8.undrew, hJ6.after r8.undrew, bel_step hb6 r8.undrew⟩
          · refine region_head 8 ?A1 (by kernel_rfl) (by kernel_rfl) (by kernel_rfl) (by decide) (by kernel_rfl) ?hQ ?head ?tail
            case hQ =>
              intro c a d v w1 h
              cases d <;> exact h
            case head =>
              intro x
              simp only [List.take_succ_cons, List.take_zero]
              obtain ⟨L0, L1, L2, L3, L4, L5, L6, L7⟩ := (ShAt.after hA6.drew x.below).laters
              obtain ⟨M0, M1, M2, M3, M4, M5, M6, M7⟩ := (ShAt.after hB6.drew x.below).laters
              repeat (go_big_quiet_step (fail))
              go_big_quiet_step (exact later (HY.out _))
              repeat (go_big_quiet_step (fail))
              refine wpQuiet_nil ?_
              rfl
            case tail =>
              change wpAnyU _ _ _ _ _ (4 + 1) _ _ _
              refine wpAnyU_all (rs := [8, 9]) (by kernel_rfl) (by decide) ?_
              intro w3 h3 i hi
              simp only [List.mem_cons, List.not_mem_nil, or_false] at hi
              rcases hi with rfl | rfl
              · refine wpOp_plain rfl rfl ?_
                go_simp
                refine ⟨bel_alloc h3 _, ?_⟩
                refine wpAnyU_all (rs := [9]) (by kernel_rfl) (by decide) ?_
                intro w4 h4 i hi
                simp only [List.mem_cons, List.not_mem_nil, or_false] at hi
                subst hi
                have qw4 : w4.heap[w3.heap.size]? = some (.cells #[.string v, .string ⟨#[]⟩, .string ta.l, .string tb.l, .string Y] 9 (0, 0)) := (h4.block _ (by simp)).trans (heap_alloc_new w3 _)
                refine wpOp_plain rfl rfl ?_
                go_simp
                have r4 : Gr wr.drew w4 := Gr.trans (bel_alloc h3 _) h4
                refine ⟨r4, ?_⟩
                refine wpAnyU_all (rs := [10]) (by kernel_rfl) (by decide) ?_
                intro w5 h5 i hi
                simp only [List.mem_cons, List.not_mem_nil, or_false] at hi
                subst hi
                have qw5 : w5.heap[w3.heap.size]? = some (.cells #[.string v, .string ⟨#[]⟩, .string ta.l, .string tb.l, .string Y] 9 (0, 0)) := (h5.block _ (lt_of_row qw4)).trans qw4
                refine wpOp_plain rfl rfl ?_
                go_simp
                have r5 := Gr.trans r4 h5
                refine ⟨r5, ?_⟩
                refine wpAnyU_all (rs := [11]) (by kernel_rfl) (by decide) ?_
                intro w6 h6 i hi
                simp only [List.mem_cons, List.not_mem_nil, or_false] at hi
                subst hi
                have qw6 : w6.heap[w3.heap.size]? = some (.cells #[.string v, .string ⟨#[]⟩, .string ta.l, .string tb.l, .string Y] 9 (0, 0)) := (h6.block _ (lt_of_row qw5)).trans qw5
                have cc := cell_of_row w6 w3.heap.size 1 _ _ _ qw6
                refine wpOp_plain rfl rfl ?_
                go_simp
                have r6 := Gr.trans r5 h6
                refine ⟨r6, ?_⟩
                refine wpAnyU_all (rs := [12]) (by kernel_rfl) (by decide) ?_
                intro w7 h7 i hi
                simp only [List.mem_cons, List.not_mem_nil, or_false] at hi
                subst hi
                refine wpOp_plain rfl rfl ?_
                go_simp
                have r7 := Gr.trans r6 h7
                refine ⟨r7, ?_⟩
                refine wpAnyU_done (by kernel_rfl) ?_
                intro w8 h8
                have r8 := Gr.trans r7 h8
                go_wp2
                go_meet
                case rel => exact ⟨⟨#[]⟩, by decide, rfl, hA6.after r8.undrew, hB6.after r8.undrew, hJ6.after r8.undrew, bel_step hb6 r8.undrew⟩
              · refine wpOp_plain rfl rfl ?_
                have H3 := Lib.hid h3
                clear h3
                go_simp
                have h3 := H3.out
                refine ⟨h3, ?_⟩
                refine wpAnyU_all (rs := [8]) (by kernel_rfl) (by decide) ?_
                intro w4 h4 i hi
                simp only [List.mem_cons, List.not_mem_nil, or_false] at hi
                subst hi
                refine wpOp_plain rfl rfl ?_
                go_simp
                have r4 : Gr wr.drew w4 := Gr.trans h3 h4
                refine ⟨bel_alloc r4 _, ?_⟩
                refine wpAnyU_all (rs := [10]) (by kernel_rfl) (by decide) ?_
                intro w5 h5 i hi
                simp only [List.mem_cons, List.not_mem_nil, or_false] at hi
                subst hi
                have qw5 : w5.heap[w4.heap.size]? = some (.cells #[.string v, .string ⟨#[]⟩, .string ta.l, .string tb.l, .string Y] 9 (0, 0)) := (h5.block _ (by simp)).trans (heap_alloc_new w4 _)
                refine wpOp_plain rfl rfl ?_
                go_simp
                have r5 : Gr wr.drew w5 := Gr.trans (bel_alloc r4 _) h5
                refine ⟨r5, ?_⟩
                refine wpAnyU_all (rs := [11]) (by kernel_rfl) (by decide) ?_
                intro w6 h6 i hi
                simp only [List.mem_cons, List.not_mem_nil, or_false] at hi
                subst hi
                have qw6 : w6.heap[w4.heap.size]? = some (.cells #[.string v, .string ⟨#[]⟩, .string ta.l, .string tb.l, .string Y] 9 (0, 0)) := (h6.block _ (lt_of_row qw5)).trans qw5
                have cc := cell_of_row w6 w4.heap.size 1 _ _ _ qw6
                refine wpOp_plain rfl rfl ?_
                go_simp
                have r6 := Gr.trans r5 h6
                refine ⟨r6, ?_⟩
                refine wpAnyU_all (rs := [12]) (by kernel_rfl) (by decide) ?_
                intro w7 h7 i hi
                simp only [List.mem_cons, List.not_mem_nil, or_false] at hi
                subst hi
                refine wpOp_plain rfl rfl ?_
                go_simp
                have r7 := Gr.trans r6 h7
                refine ⟨r7, ?_⟩
                refine wpAnyU_done (by kernel_rfl) ?_
                intro w8 h8
                have r8 := Gr.trans r7 h8
                go_wp2
                go_meet
                case rel => exact ⟨⟨#[]⟩, by decide, rfl, hA6.after r8.undrew, hB6.after r8.undrew, hJ6.after r8.undrew, bel_step hb6 r8.undrew⟩
          · refine region_head 8 ?A2 (by kernel_rfl) (by kernel_rfl) (by kernel_rfl) (by decide) (by kernel_rfl) ?hQ ?head ?tail
            case hQ =>
              intro c a d v w1 h
              cases d <;> exact h
            case head =>
              intro x
              simp only [List.take_succ_cons, List.take_zero]
              obtain ⟨L0, L1, L2, L3, L4, L5, L6, L7⟩ := (ShAt.after hA6.drew x.below).laters
              obtain ⟨M0, M1, M2, M3, M4, M5, M6, M7⟩ := (ShAt.after hB6.drew x.below).laters
              repeat (go_big_quiet_step (fail))
              go_big_quiet_step (exact later (HY.out _))
              repeat (go_big_quiet_step (fail))
              refine wpQuiet_nil ?_
              rfl
            case tail =>
              change wpAnyU _ _ _ _ _ (4 + 1) _ _ _
              refine wpAnyU_all (rs := [8, 9]) (by kernel_rfl) (by decide) ?_
              intro w3 h3 i hi
              simp only [List.mem_cons, List.not_mem_nil, or_false] at hi
              rcases hi with rfl | rfl
              · refine wpOp_plain rfl rfl ?_
                go_simp
                refine ⟨bel_alloc h3 _, ?_⟩
                refine wpAnyU_all (rs := [9]) (by kernel_rfl) (by decide) ?_
                intro w4 h4 i hi
                simp only [List.mem_cons, List.not_mem_nil, or_false] at hi
                subst hi
                have qw4 : w4.heap[w3.heap.size]? = some (.cells #[.string v, .string ⟨#[]⟩, .string ta.l, .string tb.l, .string Y] 9 (0, 0)) := (h4.block _ (by simp)).trans (heap_alloc_new w3 _)
                refine wpOp_plain rfl rfl ?_
                go_simp
                have r4 : Gr wr.drew w4 := Gr.trans (bel_alloc h3 _) h4
                refine ⟨r4, ?_⟩
                refine wpAnyU_all (rs := [10]) (by kernel_rfl) (by decide) ?_
                intro w5 h5 i hi
                simp only [List.mem_cons, List.not_mem_nil, or_false] at hi
                subst hi
                have qw5 : w5.heap[w3.heap.size]? = some (.cells #[.string v, .string ⟨#[]⟩, .string ta.l, .string tb.l, .string Y] 9 (0, 0)) := (h5.block _ (lt_of_row qw4)).trans qw4
                refine wpOp_plain rfl rfl ?_
                go_simp
                have r5 := Gr.trans r4 h5
                refine ⟨r5, ?_⟩
                refine wpAnyU_all (rs := [11]) (by kernel_rfl) (by decide) ?_
                intro w6 h6 i hi
                simp only [List.mem_cons, List.not_mem_nil, or_false] at hi
                subst hi
                have qw6 : w6.heap[w3.heap.size]? = some (.cells #[.string v, .string ⟨#[]⟩, .string ta.l, .string tb.l, .string Y] 9 (0, 0)) := (h6.block _ (lt_of_row qw5)).trans qw5
                have cc := cell_of_row w6 w3.heap.size 2 _ _ _ qw6
                refine wpOp_plain rfl rfl ?_
                go_simp
                have r6 := Gr.trans r5 h6
                refine ⟨r6, ?_⟩
                refine wpAnyU_all (rs := [12]) (by kernel_rfl) (by decide) ?_
                intro w7 h7 i hi
                simp only [List.mem_cons, List.not_mem_nil, or_false] at hi
                subst hi
                refine wpOp_plain rfl rfl ?_
                go_simp
                have r7 := Gr.trans r6 h7
                refine ⟨r7, ?_⟩
                refine wpAnyU_done (by kernel_rfl) ?_
                intro w8 h8
                have r8 := Gr.trans r7 h8
                go_wp2
                go_meet
                case rel => exact ⟨ta.l, by omega, rfl, hA6.after r8.undrew, hB6.after r8.undrew, hJ6.after r8.undrew, bel_step hb6 r8.undrew⟩
              · refine wpOp_plain rfl rfl ?_
                have H3 := Lib.hid h3
                clear h3
                go_simp
                have h3 := H3.out
                refine ⟨h3, ?_⟩
                refine wpAnyU_all (rs := [8]) (by kernel_rfl) (by decide) ?_
                intro w4 h4 i hi
                simp only [List.mem_cons, List.not_mem_nil, or_false] at hi
                subst hi
                refine wpOp_plain rfl rfl ?_
                go_simp
                have r4 : Gr wr.drew w4 := Gr.trans h3 h4
                refine ⟨bel_alloc r4 _, ?_⟩
                refine wpAnyU_all (rs := [10]) (by kernel_rfl) (by decide) ?_
                intro w5 h5 i hi
                simp only [List.mem_cons, List.not_mem_nil, or_false] at hi
                subst hi
                have qw5 : w5.heap[w4.heap.size]? = some (.cells #[.string v, .string ⟨#[]⟩, .string ta.l, .string tb.l, .string Y] 9 (0, 0)) := (h5.block _ (by simp)).trans (heap_alloc_new w4 _)
                refine wpOp_plain rfl rfl ?_
                go_simp
                have r5 : Gr wr.drew w5 := Gr.trans (bel_alloc r4 _) h5
                refine ⟨r5, ?_⟩
                refine wpAnyU_all (rs := [11]) (by kernel_rfl) (by decide) ?_
                intro w6 h6 i hi
                simp only [List.mem_cons, List.not_mem_nil, or_false] at hi
                subst hi
                have qw6 : w6.heap[w4.heap.size]? = some (.cells #[.string v, .string ⟨#[]⟩, .string ta.l, .string tb.l, .string Y] 9 (0, 0)) := (h6.block _ (lt_of_row qw5)).trans qw5
                have cc := cell_of_row w6 w4.heap.size 2 _ _ _ qw6
                refine wpOp_plain rfl rfl ?_
                go_simp
                have r6 := Gr.trans r5 h6
                refine ⟨r6, ?_⟩
                refine wpAnyU_all (rs := [12]) (by kernel_rfl) (by decide) ?_
                intro w7 h7 i hi
                simp only [List.mem_cons, List.not_mem_nil, or_false] at hi
                subst hi
                refine wpOp_plain rfl rfl ?_
                go_simp
                have r7 := Gr.trans r6 h7
                refine ⟨r7, ?_⟩
                refine wpAnyU_done (by kernel_rfl) ?_
                intro w8 h8
                have r8 := Gr.trans r7 h8
                go_wp2
                go_meet
                case rel => exact ⟨ta.l, by omega, rfl, hA6.after r8.undrew, hB6.after r8.undrew, hJ6.after r8.undrew, bel_step hb6 r8.undrew⟩
          · refine region_head 8 ?A3 (by kernel_rfl) (by kernel_rfl) (by kernel_rfl) (by decide) (by kernel_rfl) ?hQ ?head ?tail
            case hQ =>
              intro c a d v w1 h
              cases d <;> exact h
            case head =>
              intro x
              simp only [List.take_succ_cons, List.take_zero]
              obtain ⟨L0, L1, L2, L3, L4, L5, L6, L7⟩ := (ShAt.after hA6.drew x.below).laters
              obtain ⟨M0, M1, M2, M3, M4, M5, M6, M7⟩ := (ShAt.after hB6.drew x.below).laters
              repeat (go_big_quiet_step (fail))
              go_big_quiet_step (exact later (HY.out _))
              repeat (go_big_quiet_step (fail))
              refine wpQuiet_nil ?_
              rfl
            case tail =>
              change wpAnyU _ _ _ _ _ (4 + 1) _ _ _
              refine wpAnyU_all (rs := [8, 9]) (by kernel_rfl) (by decide) ?_
              intro w3 h3 i hi
              simp only [List.mem_cons, List.not_mem_nil, or_false] at hi
              rcases hi with rfl | rfl
              · refine wpOp_plain rfl rfl ?_
                go_simp
                refine ⟨bel_alloc h3 _, ?_⟩
                refine wpAnyU_all (rs := [9]) (by kernel_rfl) (by decide) ?_
                intro w4 h4 i hi
                simp only [List.mem_cons, List.not_mem_nil, or_false] at hi
                subst hi
                have qw4 : w4.heap[w3.heap.size]? = some (.cells #[.string v, .string ⟨#[]⟩, .string ta.l, .string tb.l, .string Y] 9 (0, 0)) := (h4.block _ (by simp)).trans (heap_alloc_new w3 _)
                refine wpOp_plain rfl rfl ?_
                go_simp
                have r4 : Gr wr.drew w4 := Gr.trans (bel_alloc h3 _) h4
                refine ⟨r4, ?_⟩
                refine wpAnyU_all (rs := [10]) (by kernel_rfl) (by decide) ?_
                intro w5 h5 i hi
                simp only [List.mem_cons, List.not_mem_nil, or_false] at hi
                subst hi
                have qw5 : w5.heap[w3.heap.size]? = some (.cells #[.string v, .string ⟨#[]⟩, .string ta.l, .string tb.l, .string Y] 9 (0, 0)) := (h5.block _ (lt_of_row qw4)).trans qw4
                refine wpOp_plain rfl rfl ?_
                go_simp
                have r5 := Gr.trans r4 h5
                refine ⟨r5, ?_⟩
                refine wpAnyU_all (rs := [11]) (by kernel_rfl) (by decide) ?_
                intro w6 h6 i hi
                simp only [List.mem_cons, List.not_mem_nil, or_false] at hi
                subst hi
                have qw6 : w6.heap[w3.heap.size]? = some (.cells #[.string v, .string ⟨#[]⟩, .string ta.l, .string tb.l, .string Y] 9 (0, 0)) := (h6.block _ (lt_of_row qw5)).trans qw5
                have cc := cell_of_row w6 w3.heap.size 3 _ _ _ qw6
                refine wpOp_plain rfl rfl ?_
                go_simp
                have r6 := Gr.trans r5 h6
                refine ⟨r6, ?_⟩
                refine wpAnyU_all (rs := [12]) (by kernel_rfl) (by decide) ?_
                intro w7 h7 i hi
                simp only [List.mem_cons, List.not_mem_nil, or_false] at hi
                subst hi
                refine wpOp_plain rfl rfl ?_
                go_simp
                have r7 := Gr.trans r6 h7
                refine ⟨r7, ?_⟩
                refine wpAnyU_done (by kernel_rfl) ?_
                intro w8 h8
                have r8 := Gr.trans r7 h8
                go_wp2
                go_meet
                case rel => exact ⟨tb.l, by omega, rfl, hA6.after r8.undrew, hB6.after r8.undrew, hJ6.after r8.undrew, bel_step hb6 r8.undrew⟩
              · refine wpOp_plain rfl rfl ?_
                have H3 := Lib.hid h3
                clear h3
                go_simp
                have h3 := H3.out
                refine ⟨h3, ?_⟩
                refine wpAnyU_all (rs := [8]) (by kernel_rfl) (by decide) ?_
                intro w4 h4 i hi
                simp only [List.mem_cons, List.not_mem_nil, or_false] at hi
                subst hi
                refine wpOp_plain rfl rfl ?_
                go_simp
                have r4 : Gr wr.drew w4 := Gr.trans h3 h4
                refine ⟨bel_alloc r4 _, ?_⟩
                refine wpAnyU_all (rs := [10]) (by kernel_rfl) (by decide) ?_
                intro w5 h5 i hi
                simp only [List.mem_cons, List.not_mem_nil, or_false] at hi
                subst hi
                have qw5 : w5.heap[w4.heap.size]? = some (.cells #[.string v, .string ⟨#[]⟩, .string ta.l, .string tb.l, .string Y] 9 (0, 0)) := (h5.block _ (by simp)).trans (heap_alloc_new w4 _)
                refine wpOp_plain rfl rfl ?_
                go_simp
                have r5 : Gr wr.drew w5 := Gr.trans (bel_alloc r4 _) h5
                refine ⟨r5, ?_⟩
                refine wpAnyU_all (rs := [11]) (by kernel_rfl) (by decide) ?_
                intro w6 h6 i hi
                simp only [List.mem_cons, List.not_mem_nil, or_false] at hi
                subst hi
                have qw6 : w6.heap[w4.heap.size]? = some (.cells #[.string v, .string ⟨#[]⟩, .string ta.l, .string tb.l, .string Y] 9 (0, 0)) := (h6.block _ (lt_of_row qw5)).trans qw5
                have cc := cell_of_row w6 w4.heap.size 3 _ _ _ qw6
                refine wpOp_plain rfl rfl ?_
                go_simp
                have r6 := Gr.trans r5 h6
                refine ⟨r6, ?_⟩
                refine wpAnyU_all (rs := [12]) (by kernel_rfl) (by decide) ?_
                intro w7 h7 i hi
                simp only [List.mem_cons, List.not_mem_nil, or_false] at hi
                subst hi
                refine wpOp_plain rfl rfl ?_
                go_simp
                have r7 := Gr.trans r6 h7
                refine ⟨r7, ?_⟩
                refine wpAnyU_done (by kernel_rfl) ?_
                intro w8 h8
                have r8 := Gr.trans r7 h8
                go_wp2
                go_meet
                case rel => exact ⟨tb.l, by omega, rfl, hA6.after r8.undrew, hB6.after r8.undrew, hJ6.after r8.undrew, bel_step hb6 r8.undrew⟩
          · refine region_head 8 ?A4 (by kernel_rfl) (by kernel_rfl) (by kernel_rfl) (by decide) (by kernel_rfl) ?hQ ?head ?tail
            case hQ =>
              intro c a d v w1 h
              cases d <;> exact h
            case head =>
              intro x
              simp only [List.take_succ_cons, List.take_zero]
              obtain ⟨L0, L1, L2, L3, L4, L5, L6, L7⟩ := (ShAt.after hA6.drew x.below).laters
              obtain ⟨M0, M1, M2, M3, M4, M5, M6, M7⟩ := (ShAt.after hB6.drew x.below).laters
              repeat (go_big_quiet_step (fail))
              go_big_quiet_step (exact later (HY.out _))
              repeat (go_big_quiet_step (fail))
              refine wpQuiet_nil ?_
              rfl
            case tail =>
              change wpAnyU _ _ _ _ _ (4 + 1) _ _ _
              refine wpAnyU_all (rs := [8, 9]) (by kernel_rfl) (by decide) ?_
              intro w3 h3 i hi
              simp only [List.mem_cons, List.not_mem_nil, or_false] at hi
              rcases hi with rfl | rfl
              · refine wpOp_plain rfl rfl ?_
                go_simp
                refine ⟨bel_alloc h3 _, ?_⟩
                refine wpAnyU_all (rs := [9]) (by kernel_rfl) (by decide) ?_
                intro w4 h4 i hi
                simp only [List.mem_cons, List.not_mem_nil, or_false] at hi
                subst hi
                have qw4 : w4.heap[w3.heap.size]? = some (.cells #[.string v, .string ⟨#[]⟩, .string ta.l, .string tb.l, .string Y] 9 (0, 0)) := (h4.block _ (by simp)).trans (heap_alloc_new w3 _)
                refine wpOp_plain rfl rfl ?_
                go_simp
                have r4 : Gr wr.drew w4 := Gr.trans (bel_alloc h3 _) h4
                refine ⟨r4, ?_⟩
                refine wpAnyU_all (rs := [10]) (by kernel_rfl) (by decide) ?_
                intro w5 h5 i hi
                simp only [List.mem_cons, List.not_mem_nil, or_false] at hi
                subst hi
                have qw5 : w5.heap[w3.heap.size]? = some (.cells #[.string v, .string ⟨#[]⟩, .string ta.l, .string tb.l, .string Y] 9 (0, 0)) := (h5.block _ (lt_of_row qw4)).trans qw4
                refine wpOp_plain rfl rfl ?_
                go_simp
                have r5 := Gr.trans r4 h5
                refine ⟨r5, ?_⟩
                refine wpAnyU_all (rs := [11]) (by kernel_rfl) (by decide) ?_
                intro w6 h6 i hi
                simp only [List.mem_cons, List.not_mem_nil, or_false] at hi
                subst hi
                have qw6 : w6.heap[w3.heap.size]? = some (.cells #[.string v, .string ⟨#[]⟩, .string ta.l, .string tb.l, .string Y] 9 (0, 0)) := (h6.block _ (lt_of_row qw5)).trans qw5
                have cc := cell_of_row w6 w3.heap.size 4 _ _ _ qw6
                refine wpOp_plain rfl rfl ?_
                go_simp
                have r6 := Gr.trans r5 h6
                refine ⟨r6, ?_⟩
                refine wpAnyU_all (rs := [12]) (by kernel_rfl) (by decide) ?_
                intro w7 h7 i hi
                simp only [List.mem_cons, List.not_mem_nil, or_false] at hi
                subst hi
                refine wpOp_plain rfl rfl ?_
                go_simp
                have r7 := Gr.trans r6 h7
                refine ⟨r7, ?_⟩
                refine wpAnyU_done (by kernel_rfl) ?_
                intro w8 h8
                have r8 := Gr.trans r7 h8
                go_wp2
                go_meet
                case rel => exact ⟨Y, hy, rfl, hA6.after r8.undrew, hB6.after r8.undrew, hJ6.after r8.undrew, bel_step hb6 r8.undrew⟩
              · refine wpOp_plain rfl rfl ?_
                have H3 := Lib.hid h3
                clear h3
                go_simp
                have h3 := H3.out
                refine ⟨h3, ?_⟩
                refine wpAnyU_all (rs := [8]) (by kernel_rfl) (by decide) ?_
                intro w4 h4 i hi
                simp only [List.mem_cons, List.not_mem_nil, or_false] at hi
                subst hi
                refine wpOp_plain rfl rfl ?_
                go_simp
                have r4 : Gr wr.drew w4 := Gr.trans h3 h4
                refine ⟨bel_alloc r4 _, ?_⟩
                refine wpAnyU_all (rs := [10]) (by kernel_rfl) (by decide) ?_
                intro w5 h5 i hi
                simp only [List.mem_cons, List.not_mem_nil, or_false] at hi
                subst hi
                have qw5 : w5.heap[w4.heap.size]? = some (.cells #[.string v, .string ⟨#[]⟩, .string ta.l, .string tb.l, .string Y] 9 (0, 0)) := (h5.block _ (by simp)).trans (heap_alloc_new w4 _)
                refine wpOp_plain rfl rfl ?_
                go_simp
                have r5 : Gr wr.drew w5 := Gr.trans (bel_alloc r4 _) h5
                refine ⟨r5, ?_⟩
                refine wpAnyU_all (rs := [11]) (by kernel_rfl) (by decide) ?_
                intro w6 h6 i hi
                simp only [List.mem_cons, List.not_mem_nil, or_false] at hi
                subst hi
                have qw6 : w6.heap[w4.heap.size]? = some (.cells #[.string v, .string ⟨#[]⟩, .string ta.l, .string tb.l, .string Y] 9 (0, 0)) := (h6.block _ (lt_of_row qw5)).trans qw5
                have cc := cell_of_row w6 w4.heap.size 4 _ _ _ qw6
                refine wpOp_plain rfl rfl ?_
                go_simp
                have r6 := Gr.trans r5 h6
                refine ⟨r6, ?_⟩
                refine wpAnyU_all (rs := [12]) (by kernel_rfl) (by decide) ?_
                intro w7 h7 i hi
                simp only [List.mem_cons, List.not_mem_nil, or_false] at hi
                subst hi
                refine wpOp_plain rfl rfl ?_
                go_simp
                have r7 := Gr.trans r6 h7
                refine ⟨r7, ?_⟩
                refine wpAnyU_done (by kernel_rfl) ?_
                intro w8 h8
                have r8 := Gr.trans r7 h8
                go_wp2
                go_meet
                case rel => exact ⟨Y, hy, rfl, hA6.after r8.undrew, hB6.after r8.undrew, hJ6.after r8.undrew, bel_step hb6 r8.undrew⟩
        case rest =>
          obtain ⟨T, hT, rfl, hA7, hB7, hJ7, hb7⟩ := hcut
          clear hA6 hB6 hJ6 hb6
          go_wp2
          go_loopw [12, 13] (fun q _ wr => ∃ n : Nat, n ≤ 2 ∧ q = .int .i64 n ∧ ShAt wr w.heap.size ta ∧ ShAt wr (w.heap.size + 1) tb ∧ ShAt wr m j ∧ Below w.heap.size w wr) (fun q _ _ => 2 - (intOf q).toNat)
          case atStart => exact ⟨0, by decide, rfl, hA7, hB7, hJ7, hb7⟩
          case round =>
            obtain ⟨n, hn2, rfl, hA8, hB8, hJ8, hb8⟩ := hrel
            clear hA7 hB7 hJ7 hb7
            by_cases hn : n < 2
            · obtain ⟨X, hX⟩ : ∃ X, (!(is == ((n : Int) == 1))) = X := ⟨_, rfl⟩
              have hMa := May_is ta X T (by omega)
              have hMb := May_is tb X T (by omega)
              have hMj := May_is j X T (by omega)
              have Hma := Lib.hid (may_mono ha.out hj.out hlj.out.le X T)
              have Hmb := Lib.hid (may_mono hb.out hj.out hrj.out.le X T)
              generalize mayB ta X T = m1 at *
              generalize mayB tb X T = m2 at *
              simp only [shV] at hMa hMb hMj
              cases m1 with
              | true =>
                rw [Hma.out rfl] at hMj
                have HMa := Lib.hid hMa
                have HMj := Lib.hid hMj
                clear hMa hMb hMj Hma Hmb
                obtain ⟨c0, c1, c2, c3, c4, c5, c6, c7⟩ := hA8.cells
                go_wp2_with fail
                clear c0 c1 c2 c3 c4 c5 c6 c7
                refine (HMa.out _).mono ?_
                rintro e y9 ⟨rfl, kb9⟩
                have hA9 := hA8.after kb9
                have hB9 := hB8.after kb9
                have hJ9 := hJ8.after kb9
                have hb9 := bel_step hb8 kb9
                clear kb9 hA8 hB8 hJ8 hb8
                obtain ⟨c0, c1, c2, c3, c4, c5, c6, c7⟩ := hJ9.cells
                go_wp2_with fail
                clear c0 c1 c2 c3 c4 c5 c6 c7
                refine (HMj.out _).mono ?_
                rintro e y10 ⟨rfl, kb10⟩
                have hA10 := hA9.after kb10
                have hB10 := hB9.after kb10
                have hJ10 := hJ9.after kb10
                have hb10 := bel_step hb9 kb10
                clear kb10 hA9 hB9 hJ9 hb9
                go_wp2
                go_round
                case rel => exact ⟨n + 1, by omega, rfl, hA10, hB10, hJ10, hb10⟩
                case measure => simp [intOf]; omega
              | false =>
                have HMa := Lib.hid hMa
                cases m2 with
                | true =>
                  rw [Hmb.out rfl] at hMj
                  have HMb := Lib.hid hMb
                  have HMj := Lib.hid hMj
                  clear hMa hMb hMj Hma Hmb
                  obtain ⟨c0, c1, c2, c3, c4, c5, c6, c7⟩ := hA8.cells
                  go_wp2_with fail
                  clear c0 c1 c2 c3 c4 c5 c6 c7
                  refine (HMa.out _).mono ?_
                  rintro e y9 ⟨rfl, kb9⟩
                  have hA9 := hA8.after kb9
                  have hB9 := hB8.after kb9
                  have hJ9 := hJ8.after kb9
                  have hb9 := bel_step hb8 kb9
                  clear kb9 hA8 hB8 hJ8 hb8
                  obtain ⟨c0, c1, c2, c3, c4, c5, c6, c7⟩ := hB9.cells
                  go_wp2_with fail
                  clear c0 c1 c2 c3 c4 c5 c6 c7
                  refine (HMb.out _).mono ?_
                  rintro e y10 ⟨rfl, kb10⟩
                  have hA10 := hA9.after kb10
                  have hB10 := hB9.after kb10
                  have hJ10 := hJ9.after kb10
                  have hb10 := bel_step hb9 kb10
                  clear kb10 hA9 hB9 hJ9 hb9
                  obtain ⟨c0, c1, c2, c3, c4, c5, c6, c7⟩ := hJ10.cells
                  go_wp2_with fail
                  clear c0 c1 c2 c3 c4 c5 c6 c7
                  refine (HMj.out _).mono ?_
                  rintro e y11 ⟨rfl, kb11⟩
                  have hA11 := hA10.after kb11
                  have hB11 := hB10.after kb11
                  have hJ11 := hJ10.after kb11
                  have hb11 := bel_step hb10 kb11
                  clear kb11 hA10 hB10 hJ10 hb10
                  go_wp2
                  go_round
                  case rel => exact ⟨n + 1, by omega, rfl, hA11, hB11, hJ11, hb11⟩
                  case measure => simp [intOf]; omega
                | false =>
                  have HMb := Lib.hid hMb
                  clear hMa hMb hMj Hma Hmb
                  obtain ⟨c0, c1, c2, c3, c4, c5, c6, c7⟩ := hA8.cells
                  go_wp2_with fail
                  clear c0 c1 c2 c3 c4 c5 c6 c7
                  refine (HMa.out _).mono ?_
                  rintro e y9 ⟨rfl, kb9⟩
                  have hA9 := hA8.after kb9
                  have hB9 := hB8.after kb9
                  have hJ9 := hJ8.after kb9
                  have hb9 := bel_step hb8 kb9
                  clear kb9 hA8 hB8 hJ8 hb8
                  obtain ⟨c0, c1, c2, c3, c4, c5, c6, c7⟩ := hB9.cells
                  go_wp2_with fail
                  clear c0 c1 c2 c3 c4 c5 c6 c7
                  refine (HMb.out _).mono ?_
                  rintro e y10 ⟨rfl, kb10⟩
                  have hA10 := hA9.after kb10
                  have hB10 := hB9.after kb10
                  have hJ10 := hJ9.after kb10
                  have hb10 := bel_step hb9 kb10
                  clear kb10 hA9 hB9 hJ9 hb9
                  go_wp2
                  go_round
                  case rel => exact ⟨n + 1, by omega, rfl, hA10, hB10, hJ10, hb10⟩
                  case measure => simp [intOf]; omega
            · have hn3 : n = 2 := by omega
              subst hn3
              go_wp2
              go_round
              case rel => exact ⟨k + 1, by omega, rfl, hA8, hB8, hJ8, hb8⟩
              case measure => simp [intOf]; omega
      · have hk2 : k = 5 := by omega
        subst hk2
        have hK := Ok_is j
        have HJa := Lib.hid (Join_is j ta)
        have HJb := Lib.hid (Join_is tb ta)
        have HJc := Lib.hid (Join_is ta ta)
        have E1 := run_eq_shape (joinP j ta) j
        have E2 := run_eq_shape (joinP tb ta) j
        have E3 := run_eq_shape (joinP ta ta) ta
        have hLa := Leq_is ta j (ok_len ha.out)
        have hLb := Leq_is tb j (ok_len hb.out)
        rw [(okB_iff j).2 hj.out] at hK
        rw [join_absorb ha.out hj.out hlj.out] at E1
        rw [hcj.out] at E2
        rw [join_absorb ha.out ha.out (Lj.refl ta)] at E3
        rw [(leqP_iff ha.out hj.out).2 hlj.out.le] at hLa
        rw [(leqP_iff hb.out hj.out).2 hrj.out.le] at hLb
        have HK := Lib.hid hK
        have HLa := Lib.hid hLa
        have HLb := Lib.hid hLb
        clear hK hLa hLb hcj hlj hrj
        generalize joinP j ta = j1 at *
        generalize joinP tb ta = j2 at *
        generalize joinP ta ta = j3 at *
        simp only [shV] at HK HJa HJb HJc E1 E2 E3 HLa HLb
        go_wp2
        obtain ⟨L0, L1, L2, L3, L4, L5, L6, L7⟩ := hA6.laters
        obtain ⟨M0, M1, M2, M3, M4, M5, M6, M7⟩ := hB6.laters
        obtain ⟨N0, N1, N2, N3, N4, N5, N6, N7⟩ := hJ6.laters
        refine region_later (by kernel_rfl) (by kernel_rfl) ?_
        repeat (go_big_quiet_step (fail))
        go_big_quiet_step (exact later (HK.out _))
        repeat (go_big_quiet_step (fail))
        go_big_quiet_step (exact later (HJa.out _))
        repeat (go_big_quiet_step (fail))
        go_big_quiet_step (exact later (HJb.out _))
        repeat (go_big_quiet_step (fail))
        go_big_quiet_step (exact later (HJc.out _))
        repeat (go_big_quiet_step (fail))
        go_big_quiet_step (exact later (HLa.out _))
        repeat (go_big_quiet_step (fail))
        go_big_quiet_step (exact later (HLb.out _))
        repeat (go_big_quiet_step (fail))
        go_big_quiet_step (exact later (HW.out _))
        repeat (go_big_quiet_step (fail))
        refine wpQuiet_nil ?_
        rintro _ ⟨q, rfl⟩
        go_wp2
        go_ret
        exact ⟨rfl, bel_step hb6 q.below⟩
  · obtain ⟨a0, a1, a2, a3, a4, a5, a6, a7⟩ := hA.cells
    simp only [shV]
    go_enter Try.func5, Try.ntmps5
    go_wp2_with fail
    refine (HW.out _).mono ?_
    rintro e w1 ⟨rfl, hb1⟩
    go_wp2
    go_ret
    exact ⟨rfl, bel_step hbA hb1⟩
end Go.Proofs.Ytboiplanipgidaa
