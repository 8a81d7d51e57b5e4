/-
  The walk of conchlaw3.SetLaws.
-/
import Derived.Test.YthonfodibakkjaaSetAwake
import Derived.Test.YthonfodibakkjaaHead
import Derived.Deep.Cut
namespace Go.Proofs.Ythonfodibakkjaa
open Go.RowKit

theorem SetAt.new_at (w : World) (p : Nat → Bool) (n : Nat) (h : n = w.heap.size) : SetAt (w.alloc (.cells #[.int .u64 (wd p 0 : Nat), .int .u64 (wd p 1 : Nat), .int .u64 (wd p 2 : Nat), .int .u64 (wd p 3 : Nat)] 24)) n p := h ▸ SetAt.new w p

theorem sub_or (p q : Nat → Bool) : subS p (orS p q) = true := (subS_iff _ _).2 fun c _ h => by unfold orS; rw [h, Bool.true_or]
theorem sub_and (p q : Nat → Bool) : subS (andS p q) p = true := (subS_iff _ _).2 fun c _ h => by
  unfold andS at h
  simp only [Bool.and_eq_true] at h
  exact h.1
theorem same_parts (p q : Nat → Bool) : sameS (orS (lessS p q) (andS p q)) p = true := sameS_of fun c _ => by simp only [orS, lessS, andS]; cases p c <;> cases q c <;> rfl
theorem same_none (p q : Nat → Bool) : sameS (andS (lessS p q) q) noS = true := sameS_of fun c _ => by simp only [lessS, andS, noS]; cases p c <;> cases q c <;> rfl
theorem same_twice (p : Nat → Bool) : sameS (orS p p) p = true := sameS_of fun c _ => by simp only [orS]; cases p c <;> rfl
theorem same_turned (p q : Nat → Bool) : sameS (orS q p) (orS p q) = true := sameS_of fun c _ => by simp only [orS]; cases p c <;> cases q c <;> rfl
theorem same_spread (p q r : Nat → Bool) : sameS (andS (orS p q) r) (orS (andS p r) (andS q r)) = true := sameS_of fun c _ => by simp only [orS, andS]; cases p c <;> cases q c <;> cases r c <;> rfl
theorem sub_same (p q : Nat → Bool) : subS p q = sameS (orS p q) q := by
  rw [Bool.eq_iff_iff, subS_iff, sameS_iff]
  refine forall_congr' fun c => forall_congr' fun _ => ?_
  unfold orS
  cases p c <;> cases q c <;> simp
theorem countP_both (p q : Nat → Bool) : ∀ l : List Nat, l.countP (orS p q) + l.countP (andS p q) = l.countP p + l.countP q
  | [] => rfl
  | c :: l => by
    have ih := countP_both p q l
    simp only [List.countP_cons]
    have h : (if orS p q c = true then 1 else 0) + (if andS p q c = true then 1 else 0) = (if p c = true then 1 else 0) + (if q c = true then 1 else 0) := by
      unfold orS andS
      cases p c <;> cases q c <;> rfl
    omega
theorem cnt_both (p q : Nat → Bool) : cntS (orS p q) + cntS (andS p q) = cntS p + cntS q := countP_both p q _

set_option maxHeartbeats 8000000 in
set_option maxRecDepth 100000 in
theorem SetLaws_walk (p q r : Nat → Bool) (w : World) :
    Calls Try.prog 5 #[setV p, setV q, setV r] w (Gives w (.bool true)) := by
  have HO := Lib.hid (Or_is p q)
  have HA := Lib.hid (And_is p q)
  obtain ⟨wA, hwA⟩ : ∃ wA, ((w.alloc (.cells #[.int .u64 (wd p 0 : Nat), .int .u64 (wd p 1 : Nat), .int .u64 (wd p 2 : Nat), .int .u64 (wd p 3 : Nat)] 24)).alloc (.cells #[.int .u64 (wd q 0 : Nat), .int .u64 (wd q 1 : Nat), .int .u64 (wd q 2 : Nat), .int .u64 (wd q 3 : Nat)] 24)).alloc (.cells #[.int .u64 (wd r 0 : Nat), .int .u64 (wd r 1 : Nat), .int .u64 (wd r 2 : Nat), .int .u64 (wd r 3 : Nat)] 24) = wA := ⟨_, rfl⟩
  have hbA : Hid (Below w.heap.size w wA) := Lib.hid (hwA ▸ bel_alloc (bel_alloc (bel_alloc (Below.refl _ _) _) _) _)
  have hpA : SetAt wA w.heap.size p := hwA ▸ (((SetAt.new _ p).alloc _).alloc _)
  have hqA : SetAt wA (w.heap.size + 1) q := hwA ▸ ((SetAt.new_at _ q _ (by simp)).alloc _)
  have hrA : SetAt wA (w.heap.size + 1 + 1) r := hwA ▸ (SetAt.new_at _ r _ (by simp))
  unfold setV at HO HA ⊢
  go_enter Try.func5, Try.ntmps5
  go_wp2
  clear hwA
  go_cut [7, 8] from 9 (fun a b wx => ∃ x y : Nat, a = .pointer (some ⟨x, 0, none⟩) ∧ b = .pointer (some ⟨y, 0, none⟩) ∧ SetAt wx x (orS p q) ∧ SetAt wx y (andS p q) ∧ Below wA.heap.size wA wx)
  case first =>
    refine region_head 6 ?A (by kernel_rfl) (by kernel_rfl) (by kernel_rfl) (by decide) (by kernel_rfl) ?hQ ?head ?tail
    case hQ =>
      intro c a d v w1 h
      cases d <;> exact h
    case head =>
      intro x
      simp only [List.take_succ_cons, List.take_zero]
      have L00 : ∀ y : Later x.at_, y.at_.cell? ⟨w.heap.size, 0, none⟩ = some (.int .u64 (wd p 0 : Nat)) := fun y => ((SetAt.after hpA.drew x.below).after y.below).cells.1
      have L01 : ∀ y : Later x.at_, y.at_.cell? ⟨w.heap.size, 1, none⟩ = some (.int .u64 (wd p 1 : Nat)) := fun y => ((SetAt.after hpA.drew x.below).after y.below).cells.2.1
      have L02 : ∀ y : Later x.at_, y.at_.cell? ⟨w.heap.size, 2, none⟩ = some (.int .u64 (wd p 2 : Nat)) := fun y => ((SetAt.after hpA.drew x.below).after y.below).cells.2.2.1
      have L03 : ∀ y : Later x.at_, y.at_.cell? ⟨w.heap.size, 3, none⟩ = some (.int .u64 (wd p 3 : Nat)) := fun y => ((SetAt.after hpA.drew x.below).after y.below).cells.2.2.2
      have L10 : ∀ y : Later x.at_, y.at_.cell? ⟨w.heap.size + 1, 0, none⟩ = some (.int .u64 (wd q 0 : Nat)) := fun y => ((SetAt.after hqA.drew x.below).after y.below).cells.1
      have L11 : ∀ y : Later x.at_, y.at_.cell? ⟨w.heap.size + 1, 1, none⟩ = some (.int .u64 (wd q 1 : Nat)) := fun y => ((SetAt.after hqA.drew x.below).after y.below).cells.2.1
      have L12 : ∀ y : Later x.at_, y.at_.cell? ⟨w.heap.size + 1, 2, none⟩ = some (.int .u64 (wd q 2 : Nat)) := fun y => ((SetAt.after hqA.drew x.below).after y.below).cells.2.2.1
      have L13 : ∀ y : Later x.at_, y.at_.cell? ⟨w.heap.size + 1, 3, none⟩ = some (.int .u64 (wd q 3 : Nat)) := fun y => ((SetAt.after hqA.drew x.below).after y.below).cells.2.2.2
      repeat (go_big_quiet_step (fail))
      go_big_quiet_step (exact later (HO.out _))
      repeat (go_big_quiet_step (fail))
      go_big_quiet_step (exact later (HA.out _))
      repeat (go_big_quiet_step (fail))
      refine wpQuiet_nil ?_
      rfl
    case tail =>
      change wpAnyU _ _ _ _ _ (3 + 1) _ _ _
      refine wpAnyU_all (rs := [6, 7]) (by kernel_rfl) (by decide) ?_
      intro w2 h2 i hi
      simp only [List.mem_cons, List.not_mem_nil, or_false] at hi
      rcases hi with rfl | rfl
      · refine wpOp_plain rfl rfl ?_
        go_simp
        refine ⟨bel_alloc h2 _, ?_⟩
        refine wpAnyU_all (rs := [7]) (by kernel_rfl) (by decide) ?_
        intro w3 h3 i hi
        simp only [List.mem_cons, List.not_mem_nil, or_false] at hi
        subst hi
        have z2 : SetAt w3 w2.heap.size noS := (SetAt.zero w2).after h3
        have g3 : Gr wA.drew w3 := Gr.trans (bel_alloc h2 _) h3
        have n3 : w2.heap.size < w3.heap.size := z2.lt
        have k2 : wA.heap.size ≤ w2.heap.size := h2.size
        clear h3
        refine wpOp_plain rfl rfl ?_
        go_simp
        refine ⟨bel_alloc g3 _, ?_⟩
        refine wpAnyU_all (rs := [8]) (by kernel_rfl) (by decide) ?_
        intro w4 h4 i hi
        simp only [List.mem_cons, List.not_mem_nil, or_false] at hi
        subst hi
        have y2 : SetAt w4 w2.heap.size noS := (z2.alloc _).after h4
        have y3 : SetAt w4 w3.heap.size noS := (SetAt.zero w3).after h4
        have g4 : Gr wA.drew w4 := Gr.trans (bel_alloc g3 _) h4
        clear h4 z2 g3
        obtain ⟨d0, d1, d2, d3⟩ := y2.cells
        have e0 := y2.frozen 0
        have e1 := y2.frozen 1
        have e2 := y2.frozen 2
        have e3 := y2.frozen 3
        refine wpOp_plain rfl rfl ?_
        go_simp
        refine ⟨bel_set (bel_set (bel_set (bel_set g4 _ (by simp; omega) _) _ (by simp; omega) _) _ (by simp; omega) _) _ (by simp; omega) _, ?_⟩
        refine wpAnyU_all (rs := [9]) (by kernel_rfl) (by decide) ?_
        intro w5 h5 i hi
        simp only [List.mem_cons, List.not_mem_nil, or_false] at hi
        subst hi
        have vx : SetAt w5 w2.heap.size (orS p q) := (y2.put _).after h5
        have vy : SetAt w5 w3.heap.size noS := ((((y3.far (by simp; omega) _).far (by simp; omega) _).far (by simp; omega) _).far (by simp; omega) _).after h5
        have g5 : Gr wA.drew w5 := Gr.trans (bel_set (bel_set (bel_set (bel_set g4 _ (by simp; omega) _) _ (by simp; omega) _) _ (by simp; omega) _) _ (by simp; omega) _) h5
        clear h5 g4 y2 y3 d0 d1 d2 d3 e0 e1 e2 e3
        obtain ⟨d0, d1, d2, d3⟩ := vy.cells
        have e0 := vy.frozen 0
        have e1 := vy.frozen 1
        have e2 := vy.frozen 2
        have e3 := vy.frozen 3
        refine wpOp_plain rfl rfl ?_
        go_simp
        have g6 := bel_set (bel_set (bel_set (bel_set g5 ⟨w3.heap.size, 0, none⟩ (by simp; omega) (.int .u64 (wd (andS p q) 0 : Nat))) ⟨w3.heap.size, 1, none⟩ (by simp; omega) (.int .u64 (wd (andS p q) 1 : Nat))) ⟨w3.heap.size, 2, none⟩ (by simp; omega) (.int .u64 (wd (andS p q) 2 : Nat))) ⟨w3.heap.size, 3, none⟩ (by simp; omega) (.int .u64 (wd (andS p q) 3 : Nat))
        refine ⟨g6, ?_⟩
        refine wpAnyU_done (by kernel_rfl) ?_
        intro w6 h6
        have ux : SetAt w6 w2.heap.size (orS p q) := ((((vx.far (by simp; omega) _).far (by simp; omega) _).far (by simp; omega) _).far (by simp; omega) _).after h6
        have uy : SetAt w6 w3.heap.size (andS p q) := (vy.put _).after h6
        have g7 : Gr wA.drew w6 := Gr.trans g6 h6
        clear h6 g6 g5 vx vy d0 d1 d2 d3 e0 e1 e2 e3
        go_wp2
        go_meet
        case rel => exact ⟨w2.heap.size, w3.heap.size, rfl, rfl, ux, uy, g7.undrew⟩
      · refine wpOp_plain rfl rfl ?_
        go_simp
        refine ⟨bel_alloc h2 _, ?_⟩
        refine wpAnyU_all (rs := [6]) (by kernel_rfl) (by decide) ?_
        intro w3 h3 i hi
        simp only [List.mem_cons, List.not_mem_nil, or_false] at hi
        subst hi
        have z2 : SetAt w3 w2.heap.size noS := (SetAt.zero w2).after h3
        have g3 : Gr wA.drew w3 := Gr.trans (bel_alloc h2 _) h3
        have n3 : w2.heap.size < w3.heap.size := z2.lt
        have k2 : wA.heap.size ≤ w2.heap.size := h2.size
        clear h3
        refine wpOp_plain rfl rfl ?_
        go_simp
        refine ⟨bel_alloc g3 _, ?_⟩
        refine wpAnyU_all (rs := [8]) (by kernel_rfl) (by decide) ?_
        intro w4 h4 i hi
        simp only [List.mem_cons, List.not_mem_nil, or_false] at hi
        subst hi
        have y2 : SetAt w4 w2.heap.size noS := (z2.alloc _).after h4
        have y3 : SetAt w4 w3.heap.size noS := (SetAt.zero w3).after h4
        have g4 : Gr wA.drew w4 := Gr.trans (bel_alloc g3 _) h4
        clear h4 z2 g3
        obtain ⟨d0, d1, d2, d3⟩ := y3.cells
        have e0 := y3.frozen 0
        have e1 := y3.frozen 1
        have e2 := y3.frozen 2
        have e3 := y3.frozen 3
        refine wpOp_plain rfl rfl ?_
        go_simp
        refine ⟨bel_set (bel_set (bel_set (bel_set g4 _ (by simp; omega) _) _ (by simp; omega) _) _ (by simp; omega) _) _ (by simp; omega) _, ?_⟩
        refine wpAnyU_all (rs := [9]) (by kernel_rfl) (by decide) ?_
        intro w5 h5 i hi
        simp only [List.mem_cons, List.not_mem_nil, or_false] at hi
        subst hi
        have vx : SetAt w5 w3.heap.size (orS p q) := (y3.put _).after h5
        have vy : SetAt w5 w2.heap.size noS := ((((y2.far (by simp; omega) _).far (by simp; omega) _).far (by simp; omega) _).far (by simp; omega) _).after h5
        have g5 : Gr wA.drew w5 := Gr.trans (bel_set (bel_set (bel_set (bel_set g4 _ (by simp; omega) _) _ (by simp; omega) _) _ (by simp; omega) _) _ (by simp; omega) _) h5
        clear h5 g4 y2 y3 d0 d1 d2 d3 e0 e1 e2 e3
        obtain ⟨d0, d1, d2, d3⟩ := vy.cells
        have e0 := vy.frozen 0
        have e1 := vy.frozen 1
        have e2 := vy.frozen 2
        have e3 := vy.frozen 3
        refine wpOp_plain rfl rfl ?_
        go_simp
        have g6 := bel_set (bel_set (bel_set (bel_set g5 ⟨w2.heap.size, 0, none⟩ (by simp; omega) (.int .u64 (wd (andS p q) 0 : Nat))) ⟨w2.heap.size, 1, none⟩ (by simp; omega) (.int .u64 (wd (andS p q) 1 : Nat))) ⟨w2.heap.size, 2, none⟩ (by simp; omega) (.int .u64 (wd (andS p q) 2 : Nat))) ⟨w2.heap.size, 3, none⟩ (by simp; omega) (.int .u64 (wd (andS p q) 3 : Nat))
        refine ⟨g6, ?_⟩
        refine wpAnyU_done (by kernel_rfl) ?_
        intro w6 h6
        have ux : SetAt w6 w3.heap.size (orS p q) := ((((vx.far (by simp; omega) _).far (by simp; omega) _).far (by simp; omega) _).far (by simp; omega) _).after h6
        have uy : SetAt w6 w2.heap.size (andS p q) := (vy.put _).after h6
        have g7 : Gr wA.drew w6 := Gr.trans g6 h6
        clear h6 g6 g5 vx vy d0 d1 d2 d3 e0 e1 e2 e3
        go_wp2
        go_meet
        case rel => exact ⟨w3.heap.size, w2.heap.size, rfl, rfl, ux, uy, g7.undrew⟩
  case rest =>
    obtain ⟨bx, bv, rfl, rfl, hx, hy, hbx⟩ := hcut
    have ha := hpA.after hbx
    have hb := hqA.after hbx
    have hc := hrA.after hbx
    have hB := Lib.hid (bel_step hbA.out hbx)
    clear hpA hqA hrA hbx hbA HA
    have W1 := Lib.hid (Within_is p (orS p q))
    rw [sub_or] at W1
    have W2 := Lib.hid (Within_is (andS p q) p)
    rw [sub_and] at W2
    have L := Lib.hid (Less_is p q)
    have O1 := Lib.hid (Or_is (lessS p q) (andS p q))
    have E1 := run_eq_set (orS (lessS p q) (andS p q)) p
    rw [same_parts] at E1
    have A1 := Lib.hid (And_is (lessS p q) q)
    have E2 := run_eq_set (andS (lessS p q) q) noS
    rw [same_none, setV_no] at E2
    have O2 := Lib.hid (Or_is p p)
    have E3 := run_eq_set (orS p p) p
    rw [same_twice] at E3
    have O3 := Lib.hid (Or_is q p)
    have E4 := run_eq_set (orS q p) (orS p q)
    rw [same_turned] at E4
    unfold setV at W1 W2 L O1 E1 A1 E2 O2 E3 O3 E4
    go_wp2
    have L00 : ∀ x : Later wc, x.at_.cell? ⟨w.heap.size, 0, none⟩ = some (.int .u64 (wd p 0 : Nat)) := fun x => (ha.after x.below).cells.1
    have L01 : ∀ x : Later wc, x.at_.cell? ⟨w.heap.size, 1, none⟩ = some (.int .u64 (wd p 1 : Nat)) := fun x => (ha.after x.below).cells.2.1
    have L02 : ∀ x : Later wc, x.at_.cell? ⟨w.heap.size, 2, none⟩ = some (.int .u64 (wd p 2 : Nat)) := fun x => (ha.after x.below).cells.2.2.1
    have L03 : ∀ x : Later wc, x.at_.cell? ⟨w.heap.size, 3, none⟩ = some (.int .u64 (wd p 3 : Nat)) := fun x => (ha.after x.below).cells.2.2.2
    have L10 : ∀ x : Later wc, x.at_.cell? ⟨w.heap.size + 1, 0, none⟩ = some (.int .u64 (wd q 0 : Nat)) := fun x => (hb.after x.below).cells.1
    have L11 : ∀ x : Later wc, x.at_.cell? ⟨w.heap.size + 1, 1, none⟩ = some (.int .u64 (wd q 1 : Nat)) := fun x => (hb.after x.below).cells.2.1
    have L12 : ∀ x : Later wc, x.at_.cell? ⟨w.heap.size + 1, 2, none⟩ = some (.int .u64 (wd q 2 : Nat)) := fun x => (hb.after x.below).cells.2.2.1
    have L13 : ∀ x : Later wc, x.at_.cell? ⟨w.heap.size + 1, 3, none⟩ = some (.int .u64 (wd q 3 : Nat)) := fun x => (hb.after x.below).cells.2.2.2
    have L20 : ∀ x : Later wc, x.at_.cell? ⟨bx, 0, none⟩ = some (.int .u64 (wd (orS p q) 0 : Nat)) := fun x => (hx.after x.below).cells.1
    have L21 : ∀ x : Later wc, x.at_.cell? ⟨bx, 1, none⟩ = some (.int .u64 (wd (orS p q) 1 : Nat)) := fun x => (hx.after x.below).cells.2.1
    have L22 : ∀ x : Later wc, x.at_.cell? ⟨bx, 2, none⟩ = some (.int .u64 (wd (orS p q) 2 : Nat)) := fun x => (hx.after x.below).cells.2.2.1
    have L23 : ∀ x : Later wc, x.at_.cell? ⟨bx, 3, none⟩ = some (.int .u64 (wd (orS p q) 3 : Nat)) := fun x => (hx.after x.below).cells.2.2.2
    have L30 : ∀ x : Later wc, x.at_.cell? ⟨bv, 0, none⟩ = some (.int .u64 (wd (andS p q) 0 : Nat)) := fun x => (hy.after x.below).cells.1
    have L31 : ∀ x : Later wc, x.at_.cell? ⟨bv, 1, none⟩ = some (.int .u64 (wd (andS p q) 1 : Nat)) := fun x => (hy.after x.below).cells.2.1
    have L32 : ∀ x : Later wc, x.at_.cell? ⟨bv, 2, none⟩ = some (.int .u64 (wd (andS p q) 2 : Nat)) := fun x => (hy.after x.below).cells.2.2.1
    have L33 : ∀ x : Later wc, x.at_.cell? ⟨bv, 3, none⟩ = some (.int .u64 (wd (andS p q) 3 : Nat)) := fun x => (hy.after x.below).cells.2.2.2
    refine region_later (by kernel_rfl) (by kernel_rfl) ?_
    repeat (go_big_quiet_step (fail))
    go_big_quiet_step (exact later (W1.out _))
    repeat (go_big_quiet_step (fail))
    go_big_quiet_step (exact later (W2.out _))
    repeat (go_big_quiet_step (fail))
    go_big_quiet_step (exact later (L.out _))
    repeat (go_big_quiet_step (fail))
    go_big_quiet_step (exact later (O1.out _))
    repeat (go_big_quiet_step (fail))
    go_big_quiet_step (exact later (L.out _))
    repeat (go_big_quiet_step (fail))
    go_big_quiet_step (exact later (A1.out _))
    repeat (go_big_quiet_step (fail))
    go_big_quiet_step (exact later (O2.out _))
    repeat (go_big_quiet_step (fail))
    go_big_quiet_step (exact later (O3.out _))
    repeat (go_big_quiet_step (fail))
    refine wpQuiet_nil ?_
    rintro _ ⟨x1, rfl⟩
    clear L00 L01 L02 L03 L10 L11 L12 L13 L20 L21 L22 L23 L30 L31 L32 L33
    have ha1 := ha.after x1.below
    have hb1 := hb.after x1.below
    have hc1 := hc.after x1.below
    have hx1 := hx.after x1.below
    have hy1 := hy.after x1.below
    have hB1 := Lib.hid (bel_step hB.out x1.below)
    generalize x1.at_ = w1 at *
    clear ha hb hc hx hy hB W1 W2 L O1 E1 A1 E2 O2 E3 O3 E4
    have A2 := Lib.hid (And_is (orS p q) r)
    have A3 := Lib.hid (And_is p r)
    have A4 := Lib.hid (And_is q r)
    have O4 := Lib.hid (Or_is (andS p r) (andS q r))
    have E5 := run_eq_set (andS (orS p q) r) (orS (andS p r) (andS q r))
    rw [same_spread] at E5
    have C1 := Lib.hid (Count_is (orS p q))
    have C2 := Lib.hid (Count_is (andS p q))
    have C3 := Lib.hid (Count_is p)
    have C4 := Lib.hid (Count_is q)
    have s1 : IntKind.i64.wrap ((cntS (orS p q) : Int) + (cntS (andS p q) : Int)) = ((cntS p + cntS q : Nat) : Int) := by
      have k1 := cntS_le p
      have k2 := cntS_le q
      have k3 := cnt_both p q
      rw [IntWalk.i64_in _ (by omega)]
      omega
    have s2 : IntKind.i64.wrap ((cntS p : Int) + (cntS q : Int)) = ((cntS p + cntS q : Nat) : Int) := by
      have k1 := cntS_le p
      have k2 := cntS_le q
      rw [IntWalk.i64_in _ (by omega)]
      omega
    generalize cntS p + cntS q = total at *
    unfold setV at A2 A3 A4 O4 E5 C1 C2 C3 C4
    go_wp2
    have L00 : ∀ x : Later w1, x.at_.cell? ⟨w.heap.size, 0, none⟩ = some (.int .u64 (wd p 0 : Nat)) := fun x => (ha1.after x.below).cells.1
    have L01 : ∀ x : Later w1, x.at_.cell? ⟨w.heap.size, 1, none⟩ = some (.int .u64 (wd p 1 : Nat)) := fun x => (ha1.after x.below).cells.2.1
    have L02 : ∀ x : Later w1, x.at_.cell? ⟨w.heap.size, 2, none⟩ = some (.int .u64 (wd p 2 : Nat)) := fun x => (ha1.after x.below).cells.2.2.1
    have L03 : ∀ x : Later w1, x.at_.cell? ⟨w.heap.size, 3, none⟩ = some (.int .u64 (wd p 3 : Nat)) := fun x => (ha1.after x.below).cells.2.2.2
    have L10 : ∀ x : Later w1, x.at_.cell? ⟨w.heap.size + 1, 0, none⟩ = some (.int .u64 (wd q 0 : Nat)) := fun x => (hb1.after x.below).cells.1
    have L11 : ∀ x : Later w1, x.at_.cell? ⟨w.heap.size + 1, 1, none⟩ = some (.int .u64 (wd q 1 : Nat)) := fun x => (hb1.after x.below).cells.2.1
    have L12 : ∀ x : Later w1, x.at_.cell? ⟨w.heap.size + 1, 2, none⟩ = some (.int .u64 (wd q 2 : Nat)) := fun x => (hb1.after x.below).cells.2.2.1
    have L13 : ∀ x : Later w1, x.at_.cell? ⟨w.heap.size + 1, 3, none⟩ = some (.int .u64 (wd q 3 : Nat)) := fun x => (hb1.after x.below).cells.2.2.2
    have L20 : ∀ x : Later w1, x.at_.cell? ⟨w.heap.size + 1 + 1, 0, none⟩ = some (.int .u64 (wd r 0 : Nat)) := fun x => (hc1.after x.below).cells.1
    have L21 : ∀ x : Later w1, x.at_.cell? ⟨w.heap.size + 1 + 1, 1, none⟩ = some (.int .u64 (wd r 1 : Nat)) := fun x => (hc1.after x.below).cells.2.1
    have L22 : ∀ x : Later w1, x.at_.cell? ⟨w.heap.size + 1 + 1, 2, none⟩ = some (.int .u64 (wd r 2 : Nat)) := fun x => (hc1.after x.below).cells.2.2.1
    have L23 : ∀ x : Later w1, x.at_.cell? ⟨w.heap.size + 1 + 1, 3, none⟩ = some (.int .u64 (wd r 3 : Nat)) := fun x => (hc1.after x.below).cells.2.2.2
    have L30 : ∀ x : Later w1, x.at_.cell? ⟨bx, 0, none⟩ = some (.int .u64 (wd (orS p q) 0 : Nat)) := fun x => (hx1.after x.below).cells.1
    have L31 : ∀ x : Later w1, x.at_.cell? ⟨bx, 1, none⟩ = some (.int .u64 (wd (orS p q) 1 : Nat)) := fun x => (hx1.after x.below).cells.2.1
    have L32 : ∀ x : Later w1, x.at_.cell? ⟨bx, 2, none⟩ = some (.int .u64 (wd (orS p q) 2 : Nat)) := fun x => (hx1.after x.below).cells.2.2.1
    have L33 : ∀ x : Later w1, x.at_.cell? ⟨bx, 3, none⟩ = some (.int .u64 (wd (orS p q) 3 : Nat)) := fun x => (hx1.after x.below).cells.2.2.2
    have L40 : ∀ x : Later w1, x.at_.cell? ⟨bv, 0, none⟩ = some (.int .u64 (wd (andS p q) 0 : Nat)) := fun x => (hy1.after x.below).cells.1
    have L41 : ∀ x : Later w1, x.at_.cell? ⟨bv, 1, none⟩ = some (.int .u64 (wd (andS p q) 1 : Nat)) := fun x => (hy1.after x.below).cells.2.1
    have L42 : ∀ x : Later w1, x.at_.cell? ⟨bv, 2, none⟩ = some (.int .u64 (wd (andS p q) 2 : Nat)) := fun x => (hy1.after x.below).cells.2.2.1
    have L43 : ∀ x : Later w1, x.at_.cell? ⟨bv, 3, none⟩ = some (.int .u64 (wd (andS p q) 3 : Nat)) := fun x => (hy1.after x.below).cells.2.2.2
    refine region_later (by kernel_rfl) (by kernel_rfl) ?_
    repeat (go_big_quiet_step (fail))
    go_big_quiet_step (exact later (HO.out _))
    repeat (go_big_quiet_step (fail))
    go_big_quiet_step (exact later (A2.out _))
    repeat (go_big_quiet_step (fail))
    go_big_quiet_step (exact later (A3.out _))
    repeat (go_big_quiet_step (fail))
    go_big_quiet_step (exact later (A4.out _))
    repeat (go_big_quiet_step (fail))
    go_big_quiet_step (exact later (O4.out _))
    repeat (go_big_quiet_step (fail))
    go_big_quiet_step (exact later (C1.out _))
    repeat (go_big_quiet_step (fail))
    go_big_quiet_step (exact later (C2.out _))
    repeat (go_big_quiet_step (fail))
    go_big_quiet_step (exact later (C3.out _))
    repeat (go_big_quiet_step (fail))
    go_big_quiet_step (exact later (C4.out _))
    repeat (go_big_quiet_step (fail))
    refine wpQuiet_nil ?_
    rintro _ ⟨x2, rfl⟩
    clear L00 L01 L02 L03 L10 L11 L12 L13 L20 L21 L22 L23 L30 L31 L32 L33 L40 L41 L42 L43
    have ha2 := ha1.after x2.below
    have hb2 := hb1.after x2.below
    have hB2 := Lib.hid (bel_step hB1.out x2.below)
    generalize x2.at_ = w2 at *
    clear ha1 hb1 hc1 hx1 hy1 hB1 A2 A3 A4 O4 E5 C1 C2 C3 C4 s1 s2
    have W3 := Lib.hid (Within_is p q)
    rw [sub_same] at W3
    have E6 := run_eq_set (orS p q) q
    generalize sameS (orS p q) q = z at *
    have hT : (⟨(bytesS p).toArray⟩ : ByteArray).size ≤ 1048576 := by
      have h1 := cntS_le p
      have h2 : (⟨(bytesS p).toArray⟩ : ByteArray).size = cntS p := by rw [← bytesS_len p]; simp [ByteArray.size]
      omega
    have B1 := Lib.hid (Bytes_is p)
    have F1 := Lib.hid (Of_is ⟨(bytesS p).toArray⟩ hT)
    have E7 := run_eq_set (ofS (bytesS p)) p
    rw [sameS_of (fun c hc => ofS_bytesS p c hc)] at E7
    simp only at F1
    generalize ofS (bytesS p) = p2 at *
    generalize (⟨(bytesS p).toArray⟩ : ByteArray) = T at *
    have AW := Lib.hid awake_is
    unfold setV at W3 E6 B1 F1 E7
    go_wp2
    have L00 : ∀ x : Later w2, x.at_.cell? ⟨w.heap.size, 0, none⟩ = some (.int .u64 (wd p 0 : Nat)) := fun x => (ha2.after x.below).cells.1
    have L01 : ∀ x : Later w2, x.at_.cell? ⟨w.heap.size, 1, none⟩ = some (.int .u64 (wd p 1 : Nat)) := fun x => (ha2.after x.below).cells.2.1
    have L02 : ∀ x : Later w2, x.at_.cell? ⟨w.heap.size, 2, none⟩ = some (.int .u64 (wd p 2 : Nat)) := fun x => (ha2.after x.below).cells.2.2.1
    have L03 : ∀ x : Later w2, x.at_.cell? ⟨w.heap.size, 3, none⟩ = some (.int .u64 (wd p 3 : Nat)) := fun x => (ha2.after x.below).cells.2.2.2
    have L10 : ∀ x : Later w2, x.at_.cell? ⟨w.heap.size + 1, 0, none⟩ = some (.int .u64 (wd q 0 : Nat)) := fun x => (hb2.after x.below).cells.1
    have L11 : ∀ x : Later w2, x.at_.cell? ⟨w.heap.size + 1, 1, none⟩ = some (.int .u64 (wd q 1 : Nat)) := fun x => (hb2.after x.below).cells.2.1
    have L12 : ∀ x : Later w2, x.at_.cell? ⟨w.heap.size + 1, 2, none⟩ = some (.int .u64 (wd q 2 : Nat)) := fun x => (hb2.after x.below).cells.2.2.1
    have L13 : ∀ x : Later w2, x.at_.cell? ⟨w.heap.size + 1, 3, none⟩ = some (.int .u64 (wd q 3 : Nat)) := fun x => (hb2.after x.below).cells.2.2.2
    refine region_later (by kernel_rfl) (by kernel_rfl) ?_
    repeat (go_big_quiet_step (fail))
    go_big_quiet_step (exact later (W3.out _))
    repeat (go_big_quiet_step (fail))
    go_big_quiet_step (exact later (HO.out _))
    repeat (go_big_quiet_step (fail))
    go_big_quiet_step (exact later (B1.out _))
    repeat (go_big_quiet_step (fail))
    go_big_quiet_step (exact later (F1.out _))
    repeat (go_big_quiet_step (fail))
    go_big_quiet_step (exact later (AW.out _))
    repeat (go_big_quiet_step (fail))
    refine wpQuiet_nil ?_
    rintro _ ⟨x3, rfl⟩
    go_wp2
    go_ret
    exact ⟨rfl, bel_step hB2.out x3.below⟩
end Go.Proofs.Ythonfodibakkjaa
