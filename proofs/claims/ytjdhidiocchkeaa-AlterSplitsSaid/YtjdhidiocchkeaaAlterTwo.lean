/-
  Contracts of package alter (separators, MaySplit, Set, Cut, Cat, Given, Default, Assigned, Other), over the translation. (By wip/tools/gen_alter2.py.)
-/
import Derived.Test.YtjdhidiocchkeaaAlter
namespace Go.Proofs.Ytjdhidiocchkeaa
open Go.RowKit

/-- the world with a set written over block b -/
def putSt (w : World) (b : Nat) (q : Nat → Bool) : World := (((w.setCell ⟨b, 0, none⟩ (.int .u64 (wd q 0 : Nat))).setCell ⟨b, 1, none⟩ (.int .u64 (wd q 1 : Nat))).setCell ⟨b, 2, none⟩ (.int .u64 (wd q 2 : Nat))).setCell ⟨b, 3, none⟩ (.int .u64 (wd q 3 : Nat))
theorem SetAt.putSt {w : World} {b : Nat} {p : Nat → Bool} (h : SetAt w b p) (q : Nat → Bool) : SetAt (Go.Proofs.Ytjdhidiocchkeaa.putSt w b q) b q := h.put q
theorem SetAt.putStFar {w : World} {b c : Nat} {p : Nat → Bool} (h : SetAt w b p) (hc : b ≠ c) (q : Nat → Bool) : SetAt (Go.Proofs.Ytjdhidiocchkeaa.putSt w c q) b p :=
  (((h.far (by exact hc) _).far (by exact hc) _).far (by exact hc) _).far (by exact hc) _
theorem ShAt.putStFar {w : World} {b c : Nat} {x : Sh} (h : ShAt w b x) (hc : b ≠ c) (q : Nat → Bool) : ShAt (putSt w c q) b x :=
  (((h.far (by exact hc) _).far (by exact hc) _).far (by exact hc) _).far (by exact hc) _
theorem bel_putSt {w w' : World} (h : Below w.heap.size w w') {b : Nat} (hb : w.heap.size ≤ b) (q : Nat → Bool) : Below w.heap.size w (putSt w' b q) :=
  bel_set (bel_set (bel_set (bel_set h _ hb _) _ hb _) _ hb _) _ hb _
theorem SetAt.new_at (w : World) (p : Nat → Bool) (n : Nat) (h : w.heap.size = n) : SetAt (w.alloc (.cells #[.int .u64 (wd p 0 : Nat), .int .u64 (wd p 1 : Nat), .int .u64 (wd p 2 : Nat), .int .u64 (wd p 3 : Nat)] 24)) n p := h ▸ SetAt.new w p
theorem SetAt.zero_at (w : World) (n : Nat) (h : w.heap.size = n) : SetAt (w.alloc (.cells #[.int .u64 0, .int .u64 0, .int .u64 0, .int .u64 0] 24)) n noS := h ▸ SetAt.zero w
/-- one shape among the arguments, and a set to hand back -/
theorem lay_oneS (w : World) (a : Sh) : ∃ wA, (w.alloc (.cells #[.bool a.u, .bool a.e, .int .u64 (wd a.h 0 : Nat), .int .u64 (wd a.h 1 : Nat), .int .u64 (wd a.h 2 : Nat), .int .u64 (wd a.h 3 : Nat), .bool a.k, .string a.l] 26)).alloc (.cells #[.int .u64 0, .int .u64 0, .int .u64 0, .int .u64 0] 24) = wA ∧ Below w.heap.size w wA ∧ ShAt wA w.heap.size a ∧ SetAt wA (w.heap.size + 1) noS ∧ wA.heap.size = w.heap.size + 1 + 1 :=
  ⟨_, rfl, bel_alloc (bel_alloc (Below.refl _ _) _) _, (ShAt.new _ a).alloc _, SetAt.zero_at _ _ (by simp), by simp⟩

set_option maxHeartbeats 4000000 in
set_option maxRecDepth 100000 in
theorem sep_is (x : Sh) (hx : x.l.size ≤ 1048576) (w : World) : Calls Try.prog 40 #[shV x] w (Gives w (setV (sepP x))) := by
  obtain ⟨u, e, h, k, l⟩ := x
  obtain ⟨wA, hwA, hbA, hA, hZ0, hsz⟩ := lay_oneS w ⟨u, e, h, k, l⟩
  have hB0 := Of_is ⟨#[32, 9, 10]⟩ (by decide)
  rw [show (⟨#[32, 9, 10]⟩ : ByteArray).data.toList = blanks from rfl] at hB0
  have HB := Lib.hid hB0
  clear hB0
  have hS := SetAt.new_at wA h (w.heap.size + 1 + 1) hsz
  have hZ := hZ0.alloc (.cells #[.int .u64 (wd h 0 : Nat), .int .u64 (wd h 1 : Nat), .int .u64 (wd h 2 : Nat), .int .u64 (wd h 3 : Nat)] 24)
  have hC := hA.alloc (.cells #[.int .u64 (wd h 0 : Nat), .int .u64 (wd h 1 : Nat), .int .u64 (wd h 2 : Nat), .int .u64 (wd h 3 : Nat)] 24)
  have hB := bel_alloc hbA (.cells #[.int .u64 (wd h 0 : Nat), .int .u64 (wd h 1 : Nat), .int .u64 (wd h 2 : Nat), .int .u64 (wd h 3 : Nat)] 24)
  have hne : w.heap.size + 1 ≠ w.heap.size + 1 + 1 := by omega
  have hnc : w.heap.size ≠ w.heap.size + 1 + 1 := by omega
  have hle : w.heap.size ≤ w.heap.size + 1 + 1 := by omega
  obtain ⟨U0, hU0⟩ : ∃ U0, wA.alloc (.cells #[.int .u64 (wd h 0 : Nat), .int .u64 (wd h 1 : Nat), .int .u64 (wd h 2 : Nat), .int .u64 (wd h 3 : Nat)] 24) = U0 := ⟨_, rfl⟩
  rw [hU0] at hS hZ hC hB
  have HU0 := Lib.hid hU0
  clear hU0
  have HE : Hid (sepP ⟨u, e, h, k, l⟩ = if u then orS (if k then ofS l.data.toList else h) (ofS blanks) else (if k then ofS l.data.toList else h)) := Lib.hid rfl
  generalize sepP ⟨u, e, h, k, l⟩ = o at *
  simp only [shV, setV] at hwA ⊢
  go_enter Try.func40, Try.ntmps40
  obtain ⟨c0, c1, c2, c3, c4, c5, c6, c7⟩ := hA.cells
  dsimp only at c0 c1 c2 c3 c4 c5 c6 c7
  go_upto_region 2 with fail
  rw [HU0.out]
  clear hwA c0 c1 c2 c3 c4 c5 c6 c7 HU0 hsz hA hZ0 hbA
  dsimp only at hx
  cases k with
  | false =>
    cases u with
    | false =>
      obtain rfl : h = o := HE.out.symm
      clear HE
      obtain ⟨c0, c1, c2, c3, c4, c5, c6, c7⟩ := hC.cells
      dsimp only at c0 c1 c2 c3 c4 c5 c6 c7
      clear HB
      obtain ⟨s0, s1, s2, s3⟩ := hS.cells
      obtain ⟨z0, z1, z2, z3⟩ := hZ.cells
      have g0 := hZ.frozen 0
      have g1 := hZ.frozen 1
      have g2 := hZ.frozen 2
      have g3 := hZ.frozen 3
      go_wp2
      refine bodyPost_ret (v := setV h) ?_ rfl ⟨rfl, bel_putSt hB (by omega) h⟩
      exact results_cell_row rfl _ _ _ _ _ _ _ rfl (hZ.putSt h) Try.underlying24 rfl (by kernel_rfl)
    | true =>
      obtain rfl : o = orS h (ofS blanks) := HE.out
      clear HE
      obtain ⟨c0, c1, c2, c3, c4, c5, c6, c7⟩ := hC.cells
      dsimp only at c0 c1 c2 c3 c4 c5 c6 c7
      have HR := Lib.hid (Or_is h (ofS blanks))
      generalize ofS blanks = q at *
      simp only [setV] at HR HB
      go_wp2
      clear c0 c1 c2 c3 c4 c5 c6 c7
      obtain ⟨L0, L1, L2, L3⟩ := hS.laters
      refine region_tail 3 (by kernel_rfl) (by kernel_rfl) ?_
      simp only [List.take_succ_cons, List.take_zero, List.drop_succ_cons, List.drop_zero]
      repeat (go_big_quiet_step (fail))
      go_big_quiet_step (exact later (HB.out _))
      repeat (go_big_quiet_step (fail))
      go_big_quiet_step (exact later (HR.out _))
      repeat (go_big_quiet_step (fail))
      refine wpQuiet_nil ?_
      rintro _ ⟨y, rfl⟩
      have hS3 := hS.after y.below
      have hZ3 := hZ.after y.below
      have hB3 := bel_step hB y.below
      clear hS hZ hB HB HR L0 L1 L2 L3
      generalize y.at_ = V at *
      obtain ⟨s0, s1, s2, s3⟩ := hS3.cells
      have f0 := hS3.frozen 0
      have f1 := hS3.frozen 1
      have f2 := hS3.frozen 2
      have f3 := hS3.frozen 3
      obtain ⟨z0, z1, z2, z3⟩ := hZ3.cells
      have g0 := hZ3.frozen 0
      have g1 := hZ3.frozen 1
      have g2 := hZ3.frozen 2
      have g3 := hZ3.frozen 3
      have hne2 : w.heap.size + 1 + 1 ≠ w.heap.size + 1 := by omega
      go_wp2
      refine bodyPost_ret (v := setV (orS h q)) ?_ rfl ⟨rfl, bel_putSt (bel_putSt hB3 hle (orS h q)) (by omega) (orS h q)⟩
      exact results_cell_row rfl _ _ _ _ _ _ _ rfl ((hZ3.putStFar hne (orS h q)).putSt (orS h q)) Try.underlying24 rfl (by kernel_rfl)
  | true =>
    cases u with
    | false =>
      obtain rfl : o = ofS l.data.toList := HE.out
      clear HE
      have HO := Lib.hid (Of_is l hx)
      simp only [setV] at HO
      obtain ⟨c0, c1, c2, c3, c4, c5, c6, c7⟩ := hC.cells
      dsimp only at c0 c1 c2 c3 c4 c5 c6 c7
      go_wp2_with fail
      clear c0 c1 c2 c3 c4 c5 c6 c7
      refine (HO.out _).mono ?_
      rintro ending w1 ⟨rfl, hb1⟩
      have hC1 := hC.after hb1
      have hS1 := hS.after hb1
      have hZ1 := hZ.after hb1
      have hB1 := bel_step hB hb1
      clear hb1 hC hS hZ hB HO
      have hS2 := hS1.putSt (ofS l.data.toList)
      have hZ2 := hZ1.putStFar hne (ofS l.data.toList)
      have hC2 := hC1.putStFar hnc (ofS l.data.toList)
      have hB2 := bel_putSt hB1 hle (ofS l.data.toList)
      obtain ⟨U, hU⟩ : ∃ U, putSt w1 (w.heap.size + 1 + 1) (ofS l.data.toList) = U := ⟨_, rfl⟩
      rw [hU] at hS2 hZ2 hC2 hB2
      unfold putSt at hU
      have HU := Lib.hid hU
      clear hU
      obtain ⟨s0, s1, s2, s3⟩ := hS1.cells
      have f0 := hS1.frozen 0
      have f1 := hS1.frozen 1
      have f2 := hS1.frozen 2
      have f3 := hS1.frozen 3
      go_upto_region 4 with fail
      rw [HU.out]
      clear HU s0 s1 s2 s3 f0 f1 f2 f3 hS1 hZ1 hC1 hB1
      generalize ofS l.data.toList = p at *
      obtain ⟨c0, c1, c2, c3, c4, c5, c6, c7⟩ := hC2.cells
      dsimp only at c0 c1 c2 c3 c4 c5 c6 c7
      clear HB
      obtain ⟨s0, s1, s2, s3⟩ := hS2.cells
      obtain ⟨z0, z1, z2, z3⟩ := hZ2.cells
      have g0 := hZ2.frozen 0
      have g1 := hZ2.frozen 1
      have g2 := hZ2.frozen 2
      have g3 := hZ2.frozen 3
      go_wp2
      refine bodyPost_ret (v := setV p) ?_ rfl ⟨rfl, bel_putSt hB2 (by omega) p⟩
      exact results_cell_row rfl _ _ _ _ _ _ _ rfl (hZ2.putSt p) Try.underlying24 rfl (by kernel_rfl)
    | true =>
      obtain rfl : o = orS (ofS l.data.toList) (ofS blanks) := HE.out
      clear HE
      have HO := Lib.hid (Of_is l hx)
      simp only [setV] at HO
      obtain ⟨c0, c1, c2, c3, c4, c5, c6, c7⟩ := hC.cells
      dsimp only at c0 c1 c2 c3 c4 c5 c6 c7
      go_wp2_with fail
      clear c0 c1 c2 c3 c4 c5 c6 c7
      refine (HO.out _).mono ?_
      rintro ending w1 ⟨rfl, hb1⟩
      have hC1 := hC.after hb1
      have hS1 := hS.after hb1
      have hZ1 := hZ.after hb1
      have hB1 := bel_step hB hb1
      clear hb1 hC hS hZ hB HO
      have hS2 := hS1.putSt (ofS l.data.toList)
      have hZ2 := hZ1.putStFar hne (ofS l.data.toList)
      have hC2 := hC1.putStFar hnc (ofS l.data.toList)
      have hB2 := bel_putSt hB1 hle (ofS l.data.toList)
      obtain ⟨U, hU⟩ : ∃ U, putSt w1 (w.heap.size + 1 + 1) (ofS l.data.toList) = U := ⟨_, rfl⟩
      rw [hU] at hS2 hZ2 hC2 hB2
      unfold putSt at hU
      have HU := Lib.hid hU
      clear hU
      obtain ⟨s0, s1, s2, s3⟩ := hS1.cells
      have f0 := hS1.frozen 0
      have f1 := hS1.frozen 1
      have f2 := hS1.frozen 2
      have f3 := hS1.frozen 3
      go_upto_region 4 with fail
      rw [HU.out]
      clear HU s0 s1 s2 s3 f0 f1 f2 f3 hS1 hZ1 hC1 hB1
      generalize ofS l.data.toList = p at *
      obtain ⟨c0, c1, c2, c3, c4, c5, c6, c7⟩ := hC2.cells
      dsimp only at c0 c1 c2 c3 c4 c5 c6 c7
      have HR := Lib.hid (Or_is p (ofS blanks))
      generalize ofS blanks = q at *
      simp only [setV] at HR HB
      go_wp2
      clear c0 c1 c2 c3 c4 c5 c6 c7
      obtain ⟨L0, L1, L2, L3⟩ := hS2.laters
      refine region_tail 3 (by kernel_rfl) (by kernel_rfl) ?_
      simp only [List.take_succ_cons, List.take_zero, List.drop_succ_cons, List.drop_zero]
      repeat (go_big_quiet_step (fail))
      go_big_quiet_step (exact later (HB.out _))
      repeat (go_big_quiet_step (fail))
      go_big_quiet_step (exact later (HR.out _))
      repeat (go_big_quiet_step (fail))
      refine wpQuiet_nil ?_
      rintro _ ⟨y, rfl⟩
      have hS3 := hS2.after y.below
      have hZ3 := hZ2.after y.below
      have hB3 := bel_step hB2 y.below
      clear hS2 hZ2 hB2 HB HR L0 L1 L2 L3
      generalize y.at_ = V at *
      obtain ⟨s0, s1, s2, s3⟩ := hS3.cells
      have f0 := hS3.frozen 0
      have f1 := hS3.frozen 1
      have f2 := hS3.frozen 2
      have f3 := hS3.frozen 3
      obtain ⟨z0, z1, z2, z3⟩ := hZ3.cells
      have g0 := hZ3.frozen 0
      have g1 := hZ3.frozen 1
      have g2 := hZ3.frozen 2
      have g3 := hZ3.frozen 3
      have hne2 : w.heap.size + 1 + 1 ≠ w.heap.size + 1 := by omega
      go_wp2
      refine bodyPost_ret (v := setV (orS p q)) ?_ rfl ⟨rfl, bel_putSt (bel_putSt hB3 hle (orS p q)) (by omega) (orS p q)⟩
      exact results_cell_row rfl _ _ _ _ _ _ _ rfl ((hZ3.putStFar hne (orS p q)).putSt (orS p q)) Try.underlying24 rfl (by kernel_rfl)

set_option maxHeartbeats 4000000 in
set_option maxRecDepth 100000 in
theorem MaySplit_is (x i : Sh) (hi : i.l.size ≤ 1048576) (w : World) : Calls Try.prog 11 #[shV x, shV i] w (Gives w (.bool (splitB x i))) := by
  obtain ⟨u, e, h, k, l⟩ := x
  obtain ⟨wA, hwA, hbA, hA, hB⟩ := lay_two w ⟨u, e, h, k, l⟩ i
  have HS := Lib.hid (sep_is i hi)
  have HM := Lib.hid (meet_is h (sepP i))
  unfold splitB
  generalize meetB h (sepP i) = z at *
  generalize sepP i = q at *
  simp only [shV, setV] at hwA HS HM ⊢
  obtain ⟨L0, L1, L2, L3, L4, L5, L6, L7⟩ := hA.laters
  obtain ⟨M0, M1, M2, M3, M4, M5, M6, M7⟩ := hB.laters
  dsimp only at L0 L1 L2 L3 L4 L5 L6 L7
  cases e with
  | true =>
    go_enter Try.func11, Try.ntmps11
    go_wp2
    clear hwA
    refine region_later (by kernel_rfl) (by kernel_rfl) ?_
    repeat (go_big_quiet_step (fail))
    refine wpQuiet_nil ?_
    rintro _ ⟨y, rfl⟩
    go_wp2
    go_ret
    exact ⟨rfl, bel_step hbA y.below⟩
  | false =>
    go_enter Try.func11, Try.ntmps11
    go_wp2
    clear hwA
    refine region_later (by kernel_rfl) (by kernel_rfl) ?_
    repeat (go_big_quiet_step (fail))
    go_big_quiet_step (exact later (HS.out _))
    repeat (go_big_quiet_step (fail))
    go_big_quiet_step (exact later (HM.out _))
    repeat (go_big_quiet_step (fail))
    refine wpQuiet_nil ?_
    rintro _ ⟨y, rfl⟩
    go_wp2
    go_ret
    exact ⟨rfl, bel_step hbA y.below⟩

set_option maxHeartbeats 4000000 in
set_option maxRecDepth 100000 in
theorem Read_is (x : Sh) (w : World) : Calls Try.prog 18 #[shV x] w (Gives w (shV (readP x))) := by
  obtain ⟨u, e, h, k, l⟩ := x
  obtain ⟨wA, hwA, hbA, hA, hZ⟩ := lay_oneZ w ⟨u, e, h, k, l⟩
  cases u with
  | false =>
    rw [show readP ⟨false, e, h, k, l⟩ = ⟨false, e, h, k, l⟩ from rfl]
    simp only [shV] at hwA ⊢
    go_enter Try.func18, Try.ntmps18
    obtain ⟨c0, c1, c2, c3, c4, c5, c6, c7⟩ := hA.cells
    obtain ⟨d0, d1, d2, d3, d4, d5, d6, d7⟩ := hZ.cells
    obtain ⟨g0, g1, g2, g3, g4, g5, g6, g7⟩ := hZ.frozens
    dsimp only at c0 c1 c2 c3 c4 c5 c6 c7
    go_wp2
    refine bodyPost_ret (v := shV ⟨false, e, h, k, l⟩) ?_ rfl ⟨rfl, bel_putSh hbA (by omega) ⟨false, e, h, k, l⟩⟩
    exact results_cell_row rfl _ _ _ _ _ _ _ rfl (hZ.put ⟨false, e, h, k, l⟩) Try.underlying26 rfl (by kernel_rfl)
  | true =>
    have HI := Lib.hid (ifSet_is ⟨true, e, h, k, l⟩)
    have hN := None_is (setSh ⟨true, e, h, k, l⟩)
    have HE : Hid (readP ⟨true, e, h, k, l⟩ = if noneB (setSh ⟨true, e, h, k, l⟩) then litSh ⟨#[]⟩ else ofSh h true) := Lib.hid rfl
    generalize readP ⟨true, e, h, k, l⟩ = o at *
    generalize noneB (setSh ⟨true, e, h, k, l⟩) = z at *
    have HL := Lib.hid (Lit_is ⟨#[]⟩ (by decide))
    have HO := Lib.hid (OfSh_is h true)
    generalize litSh ⟨#[]⟩ = y1 at *
    generalize ofSh h true = y2 at *
    simp only [shV, setV, setSh] at hwA HI hN HL HO ⊢
    have HN := Lib.hid hN
    clear hN
    go_enter Try.func18, Try.ntmps18
    obtain ⟨c0, c1, c2, c3, c4, c5, c6, c7⟩ := hA.cells
    dsimp only at c0 c1 c2 c3 c4 c5 c6 c7
    go_wp2_with fail
    clear hwA c0 c1 c2 c3 c4 c5 c6 c7
    refine (HI.out _).mono ?_
    rintro ending w1 ⟨rfl, hb1⟩
    go_wp2_with fail
    refine (HN.out _).mono ?_
    rintro ending w2 ⟨rfl, hb2⟩
    have hA2 := (hA.after hb1).after hb2
    have hZ2 := (hZ.after hb1).after hb2
    have hB2 := bel_step (bel_step hbA hb1) hb2
    clear hA hZ hbA hb1 hb2 HI HN
    cases z with
    | true =>
      obtain rfl : o = y1 := HE.out
      clear HE HO
      go_wp2_with fail
      refine (HL.out _).mono ?_
      rintro ending w3 ⟨rfl, hb3⟩
      have hZ3 := hZ2.after hb3
      have hB3 := bel_step hB2 hb3
      obtain ⟨d0, d1, d2, d3, d4, d5, d6, d7⟩ := hZ3.cells
      obtain ⟨g0, g1, g2, g3, g4, g5, g6, g7⟩ := hZ3.frozens
      go_wp2
      refine bodyPost_ret (v := shV o) ?_ rfl ⟨rfl, bel_putSh hB3 (by omega) o⟩
      exact results_cell_row rfl _ _ _ _ _ _ _ rfl (hZ3.put o) Try.underlying26 rfl (by kernel_rfl)
    | false =>
      obtain rfl : o = y2 := HE.out
      clear HE HL
      obtain ⟨c0, c1, c2, c3, c4, c5, c6, c7⟩ := hA2.cells
      dsimp only at c0 c1 c2 c3 c4 c5 c6 c7
      go_wp2_with fail
      clear c0 c1 c2 c3 c4 c5 c6 c7
      refine (HO.out _).mono ?_
      rintro ending w3 ⟨rfl, hb3⟩
      have hZ3 := hZ2.after hb3
      have hB3 := bel_step hB2 hb3
      obtain ⟨d0, d1, d2, d3, d4, d5, d6, d7⟩ := hZ3.cells
      obtain ⟨g0, g1, g2, g3, g4, g5, g6, g7⟩ := hZ3.frozens
      go_wp2
      refine bodyPost_ret (v := shV o) ?_ rfl ⟨rfl, bel_putSh hB3 (by omega) o⟩
      exact results_cell_row rfl _ _ _ _ _ _ _ rfl (hZ3.put o) Try.underlying26 rfl (by kernel_rfl)

set_option maxHeartbeats 4000000 in
set_option maxRecDepth 100000 in
theorem Cut_is (x : Sh) (w : World) : Calls Try.prog 22 #[shV x] w (Gives w (shV (cutP x))) := by
  obtain ⟨wA, hwA, hbA, hA, hZ⟩ := lay_oneZ w x
  have hN := None_is x
  have HL := Lib.hid (Lit_is ⟨#[]⟩ (by decide))
  have HO := Lib.hid (OfSh_is x.h true)
  have HQ := run_eq_shape x (litSh ⟨#[]⟩)
  unfold cutP
  generalize noneB x = z at *
  generalize sameSh x (litSh ⟨#[]⟩) = s at *
  generalize litSh ⟨#[]⟩ = y1 at *
  generalize ofSh x.h true = y2 at *
  simp only [shV, setV] at hN HL HO HQ ⊢
  cases z with
  | true =>
    have HN := Lib.hid hN
    clear hN
    go_enter Try.func22, Try.ntmps22
    go_wp2
    clear hwA
    obtain ⟨L0, L1, L2, L3, L4, L5, L6, L7⟩ := hA.laters
    refine region_later (by kernel_rfl) (by kernel_rfl) ?_
    repeat (go_big_quiet_step (fail))
    go_big_quiet_step (exact later (HN.out _))
    repeat (go_big_quiet_step (fail))
    refine wpQuiet_nil ?_
    rintro _ ⟨y, rfl⟩
    have hA1 := hA.after y.below
    have hZ1 := hZ.after y.below
    have hB1 := bel_step hbA y.below
    clear hA hZ hbA L0 L1 L2 L3 L4 L5 L6 L7
    generalize y.at_ = V at *
    obtain ⟨c0, c1, c2, c3, c4, c5, c6, c7⟩ := hA1.cells
    obtain ⟨d0, d1, d2, d3, d4, d5, d6, d7⟩ := hZ1.cells
    obtain ⟨g0, g1, g2, g3, g4, g5, g6, g7⟩ := hZ1.frozens
    go_wp2
    refine bodyPost_ret (v := shV x) ?_ rfl ⟨rfl, bel_putSh hB1 (by omega) x⟩
    exact results_cell_row rfl _ _ _ _ _ _ _ rfl (hZ1.put x) Try.underlying26 rfl (by kernel_rfl)
  | false =>
    cases s with
    | true =>
      have HN := Lib.hid hN
      clear hN
      go_enter Try.func22, Try.ntmps22
      go_wp2
      clear hwA
      obtain ⟨L0, L1, L2, L3, L4, L5, L6, L7⟩ := hA.laters
      refine region_later (by kernel_rfl) (by kernel_rfl) ?_
      repeat (go_big_quiet_step (fail))
      go_big_quiet_step (exact later (HN.out _))
      repeat (go_big_quiet_step (fail))
      go_big_quiet_step (exact later (HL.out _))
      repeat (go_big_quiet_step (fail))
      refine wpQuiet_nil ?_
      rintro _ ⟨y, rfl⟩
      have hA1 := hA.after y.below
      have hZ1 := hZ.after y.below
      have hB1 := bel_step hbA y.below
      clear hA hZ hbA L0 L1 L2 L3 L4 L5 L6 L7
      generalize y.at_ = V at *
      obtain ⟨c0, c1, c2, c3, c4, c5, c6, c7⟩ := hA1.cells
      obtain ⟨d0, d1, d2, d3, d4, d5, d6, d7⟩ := hZ1.cells
      obtain ⟨g0, g1, g2, g3, g4, g5, g6, g7⟩ := hZ1.frozens
      go_wp2
      refine bodyPost_ret (v := shV x) ?_ rfl ⟨rfl, bel_putSh hB1 (by omega) x⟩
      exact results_cell_row rfl _ _ _ _ _ _ _ rfl (hZ1.put x) Try.underlying26 rfl (by kernel_rfl)
    | false =>
      have HN := Lib.hid hN
      clear hN
      go_enter Try.func22, Try.ntmps22
      go_wp2
      clear hwA
      obtain ⟨L0, L1, L2, L3, L4, L5, L6, L7⟩ := hA.laters
      refine region_later (by kernel_rfl) (by kernel_rfl) ?_
      repeat (go_big_quiet_step (fail))
      go_big_quiet_step (exact later (HN.out _))
      repeat (go_big_quiet_step (fail))
      go_big_quiet_step (exact later (HL.out _))
      repeat (go_big_quiet_step (fail))
      refine wpQuiet_nil ?_
      rintro _ ⟨y, rfl⟩
      have hA1 := hA.after y.below
      have hZ1 := hZ.after y.below
      have hB1 := bel_step hbA y.below
      clear hA hZ hbA L0 L1 L2 L3 L4 L5 L6 L7
      generalize y.at_ = V at *
      obtain ⟨c0, c1, c2, c3, c4, c5, c6, c7⟩ := hA1.cells
      go_wp2_with fail
      clear c0 c1 c2 c3 c4 c5 c6 c7
      refine (HO.out _).mono ?_
      rintro ending w3 ⟨rfl, hb3⟩
      have hZ3 := hZ1.after hb3
      have hB3 := bel_step hB1 hb3
      obtain ⟨d0, d1, d2, d3, d4, d5, d6, d7⟩ := hZ3.cells
      obtain ⟨g0, g1, g2, g3, g4, g5, g6, g7⟩ := hZ3.frozens
      go_wp2
      refine bodyPost_ret (v := shV y2) ?_ rfl ⟨rfl, bel_putSh hB3 (by omega) y2⟩
      exact results_cell_row rfl _ _ _ _ _ _ _ rfl (hZ3.put y2) Try.underlying26 rfl (by kernel_rfl)

set_option maxHeartbeats 4000000 in
set_option maxRecDepth 100000 in
theorem Given_is (x : Sh) (c : Bool) (w : World) : Calls Try.prog 27 #[shV x, .bool c] w (Gives w (shV (usedP x c))) := by
  obtain ⟨wA, hwA, hbA, hA, hZ⟩ := lay_oneZ w x
  have HU := Lib.hid (used_is x c)
  generalize usedP x c = y at *
  simp only [shV] at HU ⊢
  go_enter Try.func27, Try.ntmps27
  obtain ⟨c0, c1, c2, c3, c4, c5, c6, c7⟩ := hA.cells
  go_wp2_with fail
  clear hwA c0 c1 c2 c3 c4 c5 c6 c7
  refine (HU.out _).mono ?_
  rintro ending w1 ⟨rfl, hb1⟩
  have hZ1 := hZ.after hb1
  have hB1 := bel_step hbA hb1
  obtain ⟨d0, d1, d2, d3, d4, d5, d6, d7⟩ := hZ1.cells
  obtain ⟨g0, g1, g2, g3, g4, g5, g6, g7⟩ := hZ1.frozens
  go_wp2
  refine bodyPost_ret (v := shV y) ?_ rfl ⟨rfl, bel_putSh hB1 (by omega) y⟩
  exact results_cell_row rfl _ _ _ _ _ _ _ rfl (hZ1.put y) Try.underlying26 rfl (by kernel_rfl)

set_option maxHeartbeats 4000000 in
set_option maxRecDepth 100000 in
theorem Default_is (x y : Sh) (c : Bool) (w : World) : Calls Try.prog 24 #[shV x, shV y, .bool c] w (Gives w (shV (defP x y c))) := by
  obtain ⟨wA, hwA, hbA, hA, hB, hZ⟩ := lay_three w x y
  have hO := oth_is x c
  have HU := Lib.hid (used_is x c)
  have HJ := Lib.hid (Join_is (usedP x c) y)
  obtain ⟨r, hr⟩ : ∃ r, defP x y c = r := ⟨_, rfl⟩
  rw [hr]
  unfold defP at hr
  generalize joinP (usedP x c) y = j at *
  generalize usedP x c = v at *
  generalize othB x c = o at *
  have HE := Lib.hid hr
  clear hr
  simp only [shV] at hO HU HJ ⊢
  have HO := Lib.hid hO
  clear hO
  go_enter Try.func24, Try.ntmps24
  obtain ⟨c0, c1, c2, c3, c4, c5, c6, c7⟩ := hA.cells
  go_wp2_with fail
  clear hwA c0 c1 c2 c3 c4 c5 c6 c7
  refine (HO.out _).mono ?_
  rintro ending w1 ⟨rfl, hb1⟩
  have hA1 := hA.after hb1
  have hB1 := hB.after hb1
  have hZ1 := hZ.after hb1
  have hb := bel_step hbA hb1
  clear hA hB hZ hbA hb1 HO
  cases o with
  | false =>
    obtain rfl : v = r := HE.out
    clear HE
    obtain ⟨c0, c1, c2, c3, c4, c5, c6, c7⟩ := hA1.cells
    go_wp2_with fail
    clear c0 c1 c2 c3 c4 c5 c6 c7
    refine (HU.out _).mono ?_
    rintro ending w2 ⟨rfl, hb2⟩
    have hZ2 := hZ1.after hb2
    have hB2 := bel_step hb hb2
    obtain ⟨d0, d1, d2, d3, d4, d5, d6, d7⟩ := hZ2.cells
    obtain ⟨g0, g1, g2, g3, g4, g5, g6, g7⟩ := hZ2.frozens
    go_wp2
    refine bodyPost_ret (v := shV v) ?_ rfl ⟨rfl, bel_putSh hB2 (by omega) v⟩
    exact results_cell_row rfl _ _ _ _ _ _ _ rfl (hZ2.put v) Try.underlying26 rfl (by kernel_rfl)
  | true =>
    obtain rfl : j = r := HE.out
    clear HE
    go_wp2
    obtain ⟨L0, L1, L2, L3, L4, L5, L6, L7⟩ := hA1.laters
    obtain ⟨M0, M1, M2, M3, M4, M5, M6, M7⟩ := hB1.laters
    refine region_tail 5 (by kernel_rfl) (by kernel_rfl) ?_
    simp only [List.take_succ_cons, List.take_zero, List.drop_succ_cons, List.drop_zero]
    repeat (go_big_quiet_step (fail))
    go_big_quiet_step (exact later (HU.out _))
    repeat (go_big_quiet_step (fail))
    go_big_quiet_step (exact later (HJ.out _))
    repeat (go_big_quiet_step (fail))
    refine wpQuiet_nil ?_
    rintro _ ⟨z, rfl⟩
    have hZ2 := hZ1.after z.below
    have hB2 := bel_step hb z.below
    clear L0 L1 L2 L3 L4 L5 L6 L7 M0 M1 M2 M3 M4 M5 M6 M7
    obtain ⟨d0, d1, d2, d3, d4, d5, d6, d7⟩ := hZ2.cells
    obtain ⟨g0, g1, g2, g3, g4, g5, g6, g7⟩ := hZ2.frozens
    go_wp2
    refine bodyPost_ret (v := shV j) ?_ rfl ⟨rfl, bel_putSh hB2 (by omega) j⟩
    exact results_cell_row rfl _ _ _ _ _ _ _ rfl (hZ2.put j) Try.underlying26 rfl (by kernel_rfl)

set_option maxHeartbeats 4000000 in
set_option maxRecDepth 100000 in
theorem Assigned_is (x y : Sh) (c : Bool) (w : World) : Calls Try.prog 26 #[shV x, shV y, .bool c] w (Gives w (shV (defP x y c))) := by
  obtain ⟨wA, hwA, hbA, hA, hB, hZ⟩ := lay_three w x y
  have HU := Lib.hid (Default_is x y c)
  generalize defP x y c = v at *
  simp only [shV] at HU ⊢
  go_enter Try.func26, Try.ntmps26
  obtain ⟨c0, c1, c2, c3, c4, c5, c6, c7⟩ := hA.cells
  obtain ⟨b0, b1, b2, b3, b4, b5, b6, b7⟩ := hB.cells
  go_wp2_with fail
  clear hwA c0 c1 c2 c3 c4 c5 c6 c7 b0 b1 b2 b3 b4 b5 b6 b7
  refine (HU.out _).mono ?_
  rintro ending w1 ⟨rfl, hb1⟩
  have hZ1 := hZ.after hb1
  have hB1 := bel_step hbA hb1
  obtain ⟨d0, d1, d2, d3, d4, d5, d6, d7⟩ := hZ1.cells
  obtain ⟨g0, g1, g2, g3, g4, g5, g6, g7⟩ := hZ1.frozens
  go_wp2
  refine bodyPost_ret (v := shV v) ?_ rfl ⟨rfl, bel_putSh hB1 (by omega) v⟩
  exact results_cell_row rfl _ _ _ _ _ _ _ rfl (hZ1.put v) Try.underlying26 rfl (by kernel_rfl)

set_option maxHeartbeats 4000000 in
set_option maxRecDepth 100000 in
theorem Other_is (x y : Sh) (c : Bool) (w : World) : Calls Try.prog 29 #[shV x, shV y, .bool c] w (Gives w (shV (othP x y c))) := by
  obtain ⟨wA, hwA, hbA, hA, hB, hZ⟩ := lay_three w x y
  obtain ⟨b, hb⟩ : ∃ b, wA.heap.size = b := ⟨_, rfl⟩
  have hsz : wA.heap.size = w.heap.size + 1 + 1 + 1 := by rw [← hwA]; simp
  have hY1 := ShAt.zero_at wA b hb
  have hA1 := hA.alloc (.cells #[.bool false, .bool false, .int .u64 0, .int .u64 0, .int .u64 0, .int .u64 0, .bool false, .string ⟨#[]⟩] 26)
  have hB1 := hB.alloc (.cells #[.bool false, .bool false, .int .u64 0, .int .u64 0, .int .u64 0, .int .u64 0, .bool false, .string ⟨#[]⟩] 26)
  have hZ1 := hZ.alloc (.cells #[.bool false, .bool false, .int .u64 0, .int .u64 0, .int .u64 0, .int .u64 0, .bool false, .string ⟨#[]⟩] 26)
  have hb1 := bel_alloc hbA (.cells #[.bool false, .bool false, .int .u64 0, .int .u64 0, .int .u64 0, .int .u64 0, .bool false, .string ⟨#[]⟩] 26)
  have hne : w.heap.size + 1 + 1 ≠ b := by omega
  have hnc : w.heap.size ≠ b := by omega
  have hle : w.heap.size ≤ b := by omega
  obtain ⟨U0, hU0⟩ : ∃ U0, wA.alloc (.cells #[.bool false, .bool false, .int .u64 0, .int .u64 0, .int .u64 0, .int .u64 0, .bool false, .string ⟨#[]⟩] 26) = U0 := ⟨_, rfl⟩
  rw [hU0] at hA1 hB1 hZ1 hY1 hb1
  have HU0 := Lib.hid hU0
  clear hU0
  have HU := Lib.hid (used_is x c)
  have hN := None_is (usedP x c)
  have hO := oth_is x c
  have HL := Lib.hid (Lit_is ⟨#[]⟩ (by decide))
  have hJ := Join_is (elseP x y c) (litSh ⟨#[]⟩)
  have HE : Hid (elseP x y c = if noneB (usedP x c) then zeroSh else y) := Lib.hid rfl
  obtain ⟨r, hr⟩ : ∃ r, othP x y c = r := ⟨_, rfl⟩
  rw [hr]
  unfold othP at hr
  generalize joinP (elseP x y c) (litSh ⟨#[]⟩) = j at *
  generalize elseP x y c = s at *
  generalize noneB (usedP x c) = n at *
  generalize usedP x c = v at *
  generalize othB x c = o at *
  generalize litSh ⟨#[]⟩ = y1 at *
  simp only [shV] at HU hN hO HL ⊢
  have HN := Lib.hid hN
  have HO := Lib.hid hO
  have HQ := Lib.hid hr
  clear hN hO hr
  go_enter Try.func29, Try.ntmps29
  go_upto_region 2 with fail
  rw [HU0.out]
  clear hwA HU0 hb hsz hA hB hZ hbA
  obtain ⟨c0, c1, c2, c3, c4, c5, c6, c7⟩ := hA1.cells
  go_wp2_with fail
  clear c0 c1 c2 c3 c4 c5 c6 c7
  refine (HU.out _).mono ?_
  rintro ending w1 ⟨rfl, kb1⟩
  go_wp2_with fail
  refine (HN.out _).mono ?_
  rintro ending w2 ⟨rfl, kb2⟩
  have hA2 := (hA1.after kb1).after kb2
  have hB2 := (hB1.after kb1).after kb2
  have hZ2 := (hZ1.after kb1).after kb2
  have hY2 := (hY1.after kb1).after kb2
  have hb2 := bel_step (bel_step hb1 kb1) kb2
  clear hA1 hB1 hZ1 hY1 hb1 kb1 kb2 HU HN
  cases n with
  | true =>
    obtain rfl : s = zeroSh := HE.out
    clear HE
    rw [shV_zero] at hJ
    simp only [shV] at hJ
    have HJ := Lib.hid hJ
    clear hJ
    have hA3 := hA2
    have hZ3 := hZ2
    have hY3 := hY2
    have hb3 := hb2
    clear hA2 hZ2 hY2 hb2 hB2
    cases o with
    | false =>
      obtain rfl : zeroSh = r := HQ.out
      clear HQ
      obtain ⟨c0, c1, c2, c3, c4, c5, c6, c7⟩ := hA3.cells
      go_wp2_with fail
      clear c0 c1 c2 c3 c4 c5 c6 c7
      refine (HO.out _).mono ?_
      rintro ending w4 ⟨rfl, hb4⟩
      have hA4 := hA3.after hb4
      have hZ4 := hZ3.after hb4
      have hY4 := hY3.after hb4
      have hB4 := bel_step hb3 hb4
      clear hA3 hZ3 hY3 hb3 hb4 HO
      obtain ⟨y0, y1, y2, y3, y4, y5, y6, y7⟩ := hY4.cells
      simp only [zeroSh, wd_no] at y0 y1 y2 y3 y4 y5 y6 y7
      obtain ⟨d0, d1, d2, d3, d4, d5, d6, d7⟩ := hZ4.cells
      obtain ⟨g0, g1, g2, g3, g4, g5, g6, g7⟩ := hZ4.frozens
      go_wp2
      refine bodyPost_ret (v := shV zeroSh) ?_ rfl ⟨rfl, bel_putZ hB4 (by omega)⟩
      exact results_cell_row rfl _ _ _ _ _ _ _ rfl (hZ4.putZ) Try.underlying26 rfl (by kernel_rfl)
    | true =>
      obtain rfl : j = r := HQ.out
      clear HQ
      obtain ⟨c0, c1, c2, c3, c4, c5, c6, c7⟩ := hA3.cells
      go_wp2_with fail
      clear c0 c1 c2 c3 c4 c5 c6 c7
      refine (HO.out _).mono ?_
      rintro ending w4 ⟨rfl, hb4⟩
      have hA4 := hA3.after hb4
      have hZ4 := hZ3.after hb4
      have hY4 := hY3.after hb4
      have hB4 := bel_step hb3 hb4
      clear hA3 hZ3 hY3 hb3 hb4 HO
      go_wp2
      obtain ⟨L0, L1, L2, L3, L4, L5, L6, L7⟩ := hY4.laters
      simp only [zeroSh, wd_no] at L0 L1 L2 L3 L4 L5 L6 L7
      refine region_tail 3 (by kernel_rfl) (by kernel_rfl) ?_
      simp only [List.take_succ_cons, List.take_zero, List.drop_succ_cons, List.drop_zero]
      repeat (go_big_quiet_step (fail))
      go_big_quiet_step (exact later (HL.out _))
      repeat (go_big_quiet_step (fail))
      go_big_quiet_step (exact later (HJ.out _))
      repeat (go_big_quiet_step (fail))
      refine wpQuiet_nil ?_
      rintro _ ⟨z, rfl⟩
      have hZ5 := hZ4.after z.below
      have hY5 := hY4.after z.below
      have hB5 := bel_step hB4 z.below
      clear L0 L1 L2 L3 L4 L5 L6 L7 hA4 hZ4 hY4 hB4 HL HJ
      generalize z.at_ = V at *
      have hY6 := hY5.put j
      have hZ6 := hZ5.putFar (c := b) hne j
      have hB6 := bel_putSh hB5 (b := b) hle j
      obtain ⟨U, hU⟩ : ∃ U, putSh V b j = U := ⟨_, rfl⟩
      rw [hU] at hY6 hZ6 hB6
      unfold putSh at hU
      have HU2 := Lib.hid hU
      clear hU
      obtain ⟨y0, y1, y2, y3, y4, y5, y6, y7⟩ := hY5.cells
      obtain ⟨f0, f1, f2, f3, f4, f5, f6, f7⟩ := hY5.frozens
      go_upto_region 6 with fail
      rw [HU2.out]
      clear HU2 y0 y1 y2 y3 y4 y5 y6 y7 f0 f1 f2 f3 f4 f5 f6 f7 hY5 hZ5 hB5
      obtain ⟨y0, y1, y2, y3, y4, y5, y6, y7⟩ := hY6.cells
      obtain ⟨d0, d1, d2, d3, d4, d5, d6, d7⟩ := hZ6.cells
      obtain ⟨g0, g1, g2, g3, g4, g5, g6, g7⟩ := hZ6.frozens
      go_wp2
      refine bodyPost_ret (v := shV j) ?_ rfl ⟨rfl, bel_putSh hB6 (by omega) j⟩
      exact results_cell_row rfl _ _ _ _ _ _ _ rfl (hZ6.put j) Try.underlying26 rfl (by kernel_rfl)
  | false =>
    obtain rfl : s = y := HE.out
    clear HE
    simp only [shV] at hJ
    have HJ := Lib.hid hJ
    clear hJ
    have hY3 := hY2.put s
    have hZ3 := hZ2.putFar (c := b) hne s
    have hA3 := hA2.putFar (c := b) hnc s
    have hb3 := bel_putSh hb2 (b := b) hle s
    obtain ⟨U, hU⟩ : ∃ U, putSh w2 b s = U := ⟨_, rfl⟩
    rw [hU] at hY3 hZ3 hA3 hb3
    unfold putSh at hU
    have HU2 := Lib.hid hU
    clear hU
    obtain ⟨c0, c1, c2, c3, c4, c5, c6, c7⟩ := hB2.cells
    obtain ⟨y0, y1, y2, y3, y4, y5, y6, y7⟩ := hY2.cells
    obtain ⟨f0, f1, f2, f3, f4, f5, f6, f7⟩ := hY2.frozens
    go_upto_region 4 with fail
    rw [HU2.out]
    clear HU2 c0 c1 c2 c3 c4 c5 c6 c7 y0 y1 y2 y3 y4 y5 y6 y7 f0 f1 f2 f3 f4 f5 f6 f7 hA2 hZ2 hY2 hb2 hB2
    cases o with
    | false =>
      obtain rfl : s = r := HQ.out
      clear HQ
      obtain ⟨c0, c1, c2, c3, c4, c5, c6, c7⟩ := hA3.cells
      go_wp2_with fail
      clear c0 c1 c2 c3 c4 c5 c6 c7
      refine (HO.out _).mono ?_
      rintro ending w4 ⟨rfl, hb4⟩
      have hA4 := hA3.after hb4
      have hZ4 := hZ3.after hb4
      have hY4 := hY3.after hb4
      have hB4 := bel_step hb3 hb4
      clear hA3 hZ3 hY3 hb3 hb4 HO
      obtain ⟨y0, y1, y2, y3, y4, y5, y6, y7⟩ := hY4.cells
      obtain ⟨d0, d1, d2, d3, d4, d5, d6, d7⟩ := hZ4.cells
      obtain ⟨g0, g1, g2, g3, g4, g5, g6, g7⟩ := hZ4.frozens
      go_wp2
      refine bodyPost_ret (v := shV s) ?_ rfl ⟨rfl, bel_putSh hB4 (by omega) s⟩
      exact results_cell_row rfl _ _ _ _ _ _ _ rfl (hZ4.put s) Try.underlying26 rfl (by kernel_rfl)
    | true =>
      obtain rfl : j = r := HQ.out
      clear HQ
      obtain ⟨c0, c1, c2, c3, c4, c5, c6, c7⟩ := hA3.cells
      go_wp2_with fail
      clear c0 c1 c2 c3 c4 c5 c6 c7
      refine (HO.out _).mono ?_
      rintro ending w4 ⟨rfl, hb4⟩
      have hA4 := hA3.after hb4
      have hZ4 := hZ3.after hb4
      have hY4 := hY3.after hb4
      have hB4 := bel_step hb3 hb4
      clear hA3 hZ3 hY3 hb3 hb4 HO
      go_wp2
      obtain ⟨L0, L1, L2, L3, L4, L5, L6, L7⟩ := hY4.laters
      refine region_tail 3 (by kernel_rfl) (by kernel_rfl) ?_
      simp only [List.take_succ_cons, List.take_zero, List.drop_succ_cons, List.drop_zero]
      repeat (go_big_quiet_step (fail))
      go_big_quiet_step (exact later (HL.out _))
      repeat (go_big_quiet_step (fail))
      go_big_quiet_step (exact later (HJ.out _))
      repeat (go_big_quiet_step (fail))
      refine wpQuiet_nil ?_
      rintro _ ⟨z, rfl⟩
      have hZ5 := hZ4.after z.below
      have hY5 := hY4.after z.below
      have hB5 := bel_step hB4 z.below
      clear L0 L1 L2 L3 L4 L5 L6 L7 hA4 hZ4 hY4 hB4 HL HJ
      generalize z.at_ = V at *
      have hY6 := hY5.put j
      have hZ6 := hZ5.putFar (c := b) hne j
      have hB6 := bel_putSh hB5 (b := b) hle j
      obtain ⟨U, hU⟩ : ∃ U, putSh V b j = U := ⟨_, rfl⟩
      rw [hU] at hY6 hZ6 hB6
      unfold putSh at hU
      have HU2 := Lib.hid hU
      clear hU
      obtain ⟨y0, y1, y2, y3, y4, y5, y6, y7⟩ := hY5.cells
      obtain ⟨f0, f1, f2, f3, f4, f5, f6, f7⟩ := hY5.frozens
      go_upto_region 6 with fail
      rw [HU2.out]
      clear HU2 y0 y1 y2 y3 y4 y5 y6 y7 f0 f1 f2 f3 f4 f5 f6 f7 hY5 hZ5 hB5
      obtain ⟨y0, y1, y2, y3, y4, y5, y6, y7⟩ := hY6.cells
      obtain ⟨d0, d1, d2, d3, d4, d5, d6, d7⟩ := hZ6.cells
      obtain ⟨g0, g1, g2, g3, g4, g5, g6, g7⟩ := hZ6.frozens
      go_wp2
      refine bodyPost_ret (v := shV j) ?_ rfl ⟨rfl, bel_putSh hB6 (by omega) j⟩
      exact results_cell_row rfl _ _ _ _ _ _ _ rfl (hZ6.put j) Try.underlying26 rfl (by kernel_rfl)

theorem catS_none1 {a b : Sh} (h : noneB a = true) : catS a b = zeroSh := by unfold catS; rw [h]; rfl
theorem catS_none2 {a b : Sh} (h : noneB a = false) (k : noneB b = true) : catS a b = zeroSh := by unfold catS; rw [h, k]; rfl
theorem catS_lit {a b : Sh} (h : noneB a = false) (k : noneB b = false) (c : kkB a b = true) : catS a b = litSh (a.l ++ b.l) := by unfold catS; rw [h, k, c]; rfl
theorem catS_not {a b : Sh} (h : noneB a = false) (k : noneB b = false) (c : kkB a b = false) : catS a b = ofSh (orS a.h b.h) (if a.e then b.e else false) := by unfold catS; rw [h, k, c]; rfl

set_option maxHeartbeats 4000000 in
set_option maxRecDepth 100000 in
theorem Cat_is (a b : Sh) (ha : a.l.size ≤ 64) (hb : b.l.size ≤ 64) (w : World) : Calls Try.prog 20 #[shV a, shV b] w (Gives w (shV (catP a b))) := by
  obtain ⟨wA, hwA, hbA, hA, hB, hZ⟩ := lay_three w a b
  have HIa := Lib.hid (ifSet_is a)
  have HIb := Lib.hid (ifSet_is b)
  unfold catP
  have hla : (setSh a).l.size ≤ 64 := ha
  have hlb : (setSh b).l.size ≤ 64 := hb
  clear ha hb
  generalize setSh a = x at *
  generalize setSh b = y at *
  obtain ⟨s, hs0⟩ : ∃ s, catS x y = s := ⟨_, rfl⟩
  rw [hs0]
  have HSS := Lib.hid hs0
  clear hs0
  simp only [shV] at HIa HIb ⊢
  go_enter Try.func20, Try.ntmps20
  go_wp2
  clear hwA
  obtain ⟨L0, L1, L2, L3, L4, L5, L6, L7⟩ := hA.laters
  obtain ⟨M0, M1, M2, M3, M4, M5, M6, M7⟩ := hB.laters
  refine region_tail 4 (by kernel_rfl) (by kernel_rfl) ?_
  simp only [List.take_succ_cons, List.take_zero, List.drop_succ_cons, List.drop_zero]
  repeat (go_big_quiet_step (fail))
  go_big_quiet_step (exact later (HIa.out _))
  repeat (go_big_quiet_step (fail))
  go_big_quiet_step (exact later (HIb.out _))
  repeat (go_big_quiet_step (fail))
  refine wpQuiet_nil ?_
  rintro _ ⟨z, rfl⟩
  have hA2 := hA.after z.below
  have hB2 := hB.after z.below
  have hZ2 := hZ.after z.below
  have hb2 := bel_step hbA z.below
  clear L0 L1 L2 L3 L4 L5 L6 L7 M0 M1 M2 M3 M4 M5 M6 M7 hA hB hZ hbA HIa HIb
  generalize z.at_ = V at *
  obtain ⟨c0, c1, c2, c3, c4, c5, c6, c7⟩ := hA2.cells
  obtain ⟨d0, d1, d2, d3, d4, d5, d6, d7⟩ := hB2.cells
  obtain ⟨g0, g1, g2, g3, g4, g5, g6, g7⟩ := hA2.frozens
  obtain ⟨k0, k1, k2, k3, k4, k5, k6, k7⟩ := hB2.frozens
  have hA3 := (hA2.put x).putFar (c := w.heap.size + 1) (by omega) y
  have hB3 := (hB2.putFar (c := w.heap.size) (by omega) x).put y
  have hZ3 := (hZ2.putFar (c := w.heap.size) (by omega) x).putFar (c := w.heap.size + 1) (by omega) y
  have hb3 := bel_putSh (bel_putSh hb2 (Nat.le_refl _) x) (by omega : w.heap.size ≤ w.heap.size + 1) y
  obtain ⟨U, hU⟩ : ∃ U, putSh (putSh V w.heap.size x) (w.heap.size + 1) y = U := ⟨_, rfl⟩
  rw [hU] at hA3 hB3 hZ3 hb3
  unfold putSh at hU
  have HU := Lib.hid hU
  clear hU
  go_upto_region 2 with fail
  rw [HU.out]
  clear HU c0 c1 c2 c3 c4 c5 c6 c7 d0 d1 d2 d3 d4 d5 d6 d7 g0 g1 g2 g3 g4 g5 g6 g7 k0 k1 k2 k3 k4 k5 k6 k7 hA2 hB2 hZ2 hb2
  have hNa := None_is x
  have hNb := None_is y
  simp only [shV] at hNa hNb
  rcases Bool.eq_false_or_eq_true (noneB x) with hna | hna
  · rw [hna] at hNa
    have HNa := Lib.hid hNa
    clear hNa hNb
    obtain rfl : s = zeroSh := HSS.out.symm.trans (catS_none1 hna)
    clear hna
    obtain ⟨c0, c1, c2, c3, c4, c5, c6, c7⟩ := hA3.cells
    go_wp2_with fail
    clear c0 c1 c2 c3 c4 c5 c6 c7
    refine (HNa.out _).mono ?_
    rintro ending w4 ⟨rfl, kb4⟩
    have hZ5 := hZ3.after kb4
    have hb5 := bel_step hb3 kb4
    clear hZ3 hb3 kb4
    obtain ⟨d0, d1, d2, d3, d4, d5, d6, d7⟩ := hZ5.cells
    obtain ⟨g0, g1, g2, g3, g4, g5, g6, g7⟩ := hZ5.frozens
    go_wp2
    refine bodyPost_ret (v := shV zeroSh) ?_ rfl ⟨rfl, bel_putZ hb5 (by omega)⟩
    exact results_cell_row rfl _ _ _ _ _ _ _ rfl (hZ5.putZ) Try.underlying26 rfl (by kernel_rfl)
  · rw [hna] at hNa
    have HNa := Lib.hid hNa
    clear hNa
    obtain ⟨c0, c1, c2, c3, c4, c5, c6, c7⟩ := hA3.cells
    go_wp2_with fail
    clear c0 c1 c2 c3 c4 c5 c6 c7
    refine (HNa.out _).mono ?_
    rintro ending w4 ⟨rfl, kb4⟩
    have hA4 := hA3.after kb4
    have hB4 := hB3.after kb4
    have hZ4 := hZ3.after kb4
    have hb4 := bel_step hb3 kb4
    clear hA3 hB3 hZ3 hb3 kb4
    obtain ⟨c0, c1, c2, c3, c4, c5, c6, c7⟩ := hB4.cells
    rcases Bool.eq_false_or_eq_true (noneB y) with hnb | hnb
    · rw [hnb] at hNb
      have HNb := Lib.hid hNb
      clear hNb
      obtain rfl : s = zeroSh := HSS.out.symm.trans (catS_none2 hna hnb)
      clear hna hnb
      go_wp2_with fail
      clear c0 c1 c2 c3 c4 c5 c6 c7
      refine (HNb.out _).mono ?_
      rintro ending w5 ⟨rfl, kb5⟩
      have hA5 := hA4.after kb5
      have hB5 := hB4.after kb5
      have hZ5 := hZ4.after kb5
      have hb5 := bel_step hb4 kb5
      clear hA4 hB4 hZ4 hb4 kb5
      obtain ⟨d0, d1, d2, d3, d4, d5, d6, d7⟩ := hZ5.cells
      obtain ⟨g0, g1, g2, g3, g4, g5, g6, g7⟩ := hZ5.frozens
      go_wp2
      refine bodyPost_ret (v := shV zeroSh) ?_ rfl ⟨rfl, bel_putZ hb5 (by omega)⟩
      exact results_cell_row rfl _ _ _ _ _ _ _ rfl (hZ5.putZ) Try.underlying26 rfl (by kernel_rfl)
    · rw [hnb] at hNb
      have HNb := Lib.hid hNb
      clear hNb
      have HNN := Lib.hid hna
      have HNM := Lib.hid hnb
      clear hna hnb
      go_wp2_with fail
      clear c0 c1 c2 c3 c4 c5 c6 c7
      refine (HNb.out _).mono ?_
      rintro ending w5 ⟨rfl, kb5⟩
      have hA5 := hA4.after kb5
      have hB5 := hB4.after kb5
      have hZ5 := hZ4.after kb5
      have hb5 := bel_step hb4 kb5
      clear hA4 hB4 hZ4 hb4 kb5
      obtain ⟨c0, c1, c2, c3, c4, c5, c6, c7⟩ := hA5.cells
      obtain ⟨v0, v1, v2, v3, v4, v5, v6, v7⟩ := hB5.cells
      rcases Bool.eq_false_or_eq_true x.k with hak | hak
      · have c6' := c6.trans (by rw [hak])
        rcases Bool.eq_false_or_eq_true y.k with hbk | hbk
        · have v6' := v6.trans (by rw [hbk])
          by_cases hsz : x.l.size + y.l.size ≤ 64
          · have hsl : s = litSh (x.l ++ y.l) := HSS.out.symm.trans (catS_lit HNN.out HNM.out (by unfold kkB; rw [hak, hbk]; simpa using hsz))
            have hL := Lit_is (x.l ++ y.l) (by rw [ByteArray.size_append]; omega)
            rw [← hsl] at hL
            have HL := Lib.hid hL
            clear c6 v6 hak hbk hL hsl
            simp only [shV] at HL
            go_wp2_with fail
            clear c0 c1 c2 c3 c4 c5 c6' c7 v0 v1 v2 v3 v4 v5 v6' v7
            refine (HL.out _).mono ?_
            rintro ending w6 ⟨rfl, kb6⟩
            have hZ6 := hZ5.after kb6
            have hB6 := bel_step hb5 kb6
            clear hZ5 hb5 kb6
            obtain ⟨d0, d1, d2, d3, d4, d5, d6, d7⟩ := hZ6.cells
            obtain ⟨g0, g1, g2, g3, g4, g5, g6, g7⟩ := hZ6.frozens
            go_wp2
            refine bodyPost_ret (v := shV s) ?_ rfl ⟨rfl, bel_putSh hB6 (by omega) s⟩
            exact results_cell_row rfl _ _ _ _ _ _ _ rfl (hZ6.put s) Try.underlying26 rfl (by kernel_rfl)
          · have HE : Hid (s = ofSh (orS x.h y.h) (if x.e then y.e else false)) := Lib.hid (HSS.out.symm.trans (catS_not HNN.out HNM.out (by unfold kkB; rw [hak, hbk]; simpa using hsz)))
            clear c6 v6 hak hbk
            rcases Bool.eq_false_or_eq_true x.e with hea | hea
            · have hsh := OfSh_is (orS x.h y.h) y.e
              have hsl : s = ofSh (orS x.h y.h) y.e := HE.out.trans (by rw [hea]; rfl)
              rw [← hsl] at hsh
              have HEA := Lib.hid hea
              clear hea HE hsl
              have HR := Lib.hid (Or_is x.h y.h)
              have HS := Lib.hid hsh
              clear hsh
              simp only [shV, setV] at HR HS
              go_wp2
              clear c0 c1 c2 c3 c4 c5 c6' c7 v0 v1 v2 v3 v4 v5 v6' v7
              obtain ⟨L0, L1, L2, L3, L4, L5, L6, L7⟩ := hA5.laters
              obtain ⟨M0, M1, M2, M3, M4, M5, M6, M7⟩ := hB5.laters
              have E1 := fun q => (L1 q).trans (by rw [HEA.out])
              clear L1
              refine region_tail 12 (by kernel_rfl) (by kernel_rfl) ?_
              simp only [List.take_succ_cons, List.take_zero, List.drop_succ_cons, List.drop_zero]
              repeat (go_big_quiet_step (fail))
              go_big_quiet_step (exact later (HR.out _))
              repeat (go_big_quiet_step (fail))
              go_big_quiet_step (exact later (HS.out _))
              repeat (go_big_quiet_step (fail))
              refine wpQuiet_nil ?_
              rintro _ ⟨z, rfl⟩
              have hZ6 := hZ5.after z.below
              have hB6 := bel_step hb5 z.below
              clear E1 L0 L2 L3 L4 L5 L6 L7 M0 M1 M2 M3 M4 M5 M6 M7
              generalize z.at_ = V at *
              obtain ⟨d0, d1, d2, d3, d4, d5, d6, d7⟩ := hZ6.cells
              obtain ⟨g0, g1, g2, g3, g4, g5, g6, g7⟩ := hZ6.frozens
              go_wp2
              refine bodyPost_ret (v := shV s) ?_ rfl ⟨rfl, bel_putSh hB6 (by omega) s⟩
              exact results_cell_row rfl _ _ _ _ _ _ _ rfl (hZ6.put s) Try.underlying26 rfl (by kernel_rfl)
            · have hsh := OfSh_is (orS x.h y.h) false
              have hsl : s = ofSh (orS x.h y.h) false := HE.out.trans (by rw [hea]; rfl)
              rw [← hsl] at hsh
              have HEA := Lib.hid hea
              clear hea HE hsl
              have HR := Lib.hid (Or_is x.h y.h)
              have HS := Lib.hid hsh
              clear hsh
              simp only [shV, setV] at HR HS
              go_wp2
              clear c0 c1 c2 c3 c4 c5 c6' c7 v0 v1 v2 v3 v4 v5 v6' v7
              obtain ⟨L0, L1, L2, L3, L4, L5, L6, L7⟩ := hA5.laters
              obtain ⟨M0, M1, M2, M3, M4, M5, M6, M7⟩ := hB5.laters
              have E1 := fun q => (L1 q).trans (by rw [HEA.out])
              clear L1
              refine region_tail 12 (by kernel_rfl) (by kernel_rfl) ?_
              simp only [List.take_succ_cons, List.take_zero, List.drop_succ_cons, List.drop_zero]
              repeat (go_big_quiet_step (fail))
              go_big_quiet_step (exact later (HR.out _))
              repeat (go_big_quiet_step (fail))
              go_big_quiet_step (exact later (HS.out _))
              repeat (go_big_quiet_step (fail))
              refine wpQuiet_nil ?_
              rintro _ ⟨z, rfl⟩
              have hZ6 := hZ5.after z.below
              have hB6 := bel_step hb5 z.below
              clear E1 L0 L2 L3 L4 L5 L6 L7 M0 M1 M2 M3 M4 M5 M6 M7
              generalize z.at_ = V at *
              obtain ⟨d0, d1, d2, d3, d4, d5, d6, d7⟩ := hZ6.cells
              obtain ⟨g0, g1, g2, g3, g4, g5, g6, g7⟩ := hZ6.frozens
              go_wp2
              refine bodyPost_ret (v := shV s) ?_ rfl ⟨rfl, bel_putSh hB6 (by omega) s⟩
              exact results_cell_row rfl _ _ _ _ _ _ _ rfl (hZ6.put s) Try.underlying26 rfl (by kernel_rfl)
        · have v6' := v6.trans (by rw [hbk])
          have HE : Hid (s = ofSh (orS x.h y.h) (if x.e then y.e else false)) := Lib.hid (HSS.out.symm.trans (catS_not HNN.out HNM.out (by unfold kkB; rw [hak, hbk]; rfl)))
          clear c6 v6 hak hbk
          rcases Bool.eq_false_or_eq_true x.e with hea | hea
          · have hsh := OfSh_is (orS x.h y.h) y.e
            have hsl : s = ofSh (orS x.h y.h) y.e := HE.out.trans (by rw [hea]; rfl)
            rw [← hsl] at hsh
            have HEA := Lib.hid hea
            clear hea HE hsl
            have HR := Lib.hid (Or_is x.h y.h)
            have HS := Lib.hid hsh
            clear hsh
            simp only [shV, setV] at HR HS
            go_wp2
            clear c0 c1 c2 c3 c4 c5 c6' c7 v0 v1 v2 v3 v4 v5 v6' v7
            obtain ⟨L0, L1, L2, L3, L4, L5, L6, L7⟩ := hA5.laters
            obtain ⟨M0, M1, M2, M3, M4, M5, M6, M7⟩ := hB5.laters
            have E1 := fun q => (L1 q).trans (by rw [HEA.out])
            clear L1
            refine region_tail 12 (by kernel_rfl) (by kernel_rfl) ?_
            simp only [List.take_succ_cons, List.take_zero, List.drop_succ_cons, List.drop_zero]
            repeat (go_big_quiet_step (fail))
            go_big_quiet_step (exact later (HR.out _))
            repeat (go_big_quiet_step (fail))
            go_big_quiet_step (exact later (HS.out _))
            repeat (go_big_quiet_step (fail))
            refine wpQuiet_nil ?_
            rintro _ ⟨z, rfl⟩
            have hZ6 := hZ5.after z.below
            have hB6 := bel_step hb5 z.below
            clear E1 L0 L2 L3 L4 L5 L6 L7 M0 M1 M2 M3 M4 M5 M6 M7
            generalize z.at_ = V at *
            obtain ⟨d0, d1, d2, d3, d4, d5, d6, d7⟩ := hZ6.cells
            obtain ⟨g0, g1, g2, g3, g4, g5, g6, g7⟩ := hZ6.frozens
            go_wp2
            refine bodyPost_ret (v := shV s) ?_ rfl ⟨rfl, bel_putSh hB6 (by omega) s⟩
            exact results_cell_row rfl _ _ _ _ _ _ _ rfl (hZ6.put s) Try.underlying26 rfl (by kernel_rfl)
          · have hsh := OfSh_is (orS x.h y.h) false
            have hsl : s = ofSh (orS x.h y.h) false := HE.out.trans (by rw [hea]; rfl)
            rw [← hsl] at hsh
            have HEA := Lib.hid hea
            clear hea HE hsl
            have HR := Lib.hid (Or_is x.h y.h)
            have HS := Lib.hid hsh
            clear hsh
            simp only [shV, setV] at HR HS
            go_wp2
            clear c0 c1 c2 c3 c4 c5 c6' c7 v0 v1 v2 v3 v4 v5 v6' v7
            obtain ⟨L0, L1, L2, L3, L4, L5, L6, L7⟩ := hA5.laters
            obtain ⟨M0, M1, M2, M3, M4, M5, M6, M7⟩ := hB5.laters
            have E1 := fun q => (L1 q).trans (by rw [HEA.out])
            clear L1
            refine region_tail 12 (by kernel_rfl) (by kernel_rfl) ?_
            simp only [List.take_succ_cons, List.take_zero, List.drop_succ_cons, List.drop_zero]
            repeat (go_big_quiet_step (fail))
            go_big_quiet_step (exact later (HR.out _))
            repeat (go_big_quiet_step (fail))
            go_big_quiet_step (exact later (HS.out _))
            repeat (go_big_quiet_step (fail))
            refine wpQuiet_nil ?_
            rintro _ ⟨z, rfl⟩
            have hZ6 := hZ5.after z.below
            have hB6 := bel_step hb5 z.below
            clear E1 L0 L2 L3 L4 L5 L6 L7 M0 M1 M2 M3 M4 M5 M6 M7
            generalize z.at_ = V at *
            obtain ⟨d0, d1, d2, d3, d4, d5, d6, d7⟩ := hZ6.cells
            obtain ⟨g0, g1, g2, g3, g4, g5, g6, g7⟩ := hZ6.frozens
            go_wp2
            refine bodyPost_ret (v := shV s) ?_ rfl ⟨rfl, bel_putSh hB6 (by omega) s⟩
            exact results_cell_row rfl _ _ _ _ _ _ _ rfl (hZ6.put s) Try.underlying26 rfl (by kernel_rfl)
      · have c6' := c6.trans (by rw [hak])
        have HE : Hid (s = ofSh (orS x.h y.h) (if x.e then y.e else false)) := Lib.hid (HSS.out.symm.trans (catS_not HNN.out HNM.out (by unfold kkB; rw [hak]; rfl)))
        clear c6 hak
        rcases Bool.eq_false_or_eq_true x.e with hea | hea
        · have hsh := OfSh_is (orS x.h y.h) y.e
          have hsl : s = ofSh (orS x.h y.h) y.e := HE.out.trans (by rw [hea]; rfl)
          rw [← hsl] at hsh
          have HEA := Lib.hid hea
          clear hea HE hsl
          have HR := Lib.hid (Or_is x.h y.h)
          have HS := Lib.hid hsh
          clear hsh
          simp only [shV, setV] at HR HS
          go_wp2
          clear c0 c1 c2 c3 c4 c5 c6' c7 v0 v1 v2 v3 v4 v5 v6 v7
          obtain ⟨L0, L1, L2, L3, L4, L5, L6, L7⟩ := hA5.laters
          obtain ⟨M0, M1, M2, M3, M4, M5, M6, M7⟩ := hB5.laters
          have E1 := fun q => (L1 q).trans (by rw [HEA.out])
          clear L1
          refine region_tail 12 (by kernel_rfl) (by kernel_rfl) ?_
          simp only [List.take_succ_cons, List.take_zero, List.drop_succ_cons, List.drop_zero]
          repeat (go_big_quiet_step (fail))
          go_big_quiet_step (exact later (HR.out _))
          repeat (go_big_quiet_step (fail))
          go_big_quiet_step (exact later (HS.out _))
          repeat (go_big_quiet_step (fail))
          refine wpQuiet_nil ?_
          rintro _ ⟨z, rfl⟩
          have hZ6 := hZ5.after z.below
          have hB6 := bel_step hb5 z.below
          clear E1 L0 L2 L3 L4 L5 L6 L7 M0 M1 M2 M3 M4 M5 M6 M7
          generalize z.at_ = V at *
          obtain ⟨d0, d1, d2, d3, d4, d5, d6, d7⟩ := hZ6.cells
          obtain ⟨g0, g1, g2, g3, g4, g5, g6, g7⟩ := hZ6.frozens
          go_wp2
          refine bodyPost_ret (v := shV s) ?_ rfl ⟨rfl, bel_putSh hB6 (by omega) s⟩
          exact results_cell_row rfl _ _ _ _ _ _ _ rfl (hZ6.put s) Try.underlying26 rfl (by kernel_rfl)
        · have hsh := OfSh_is (orS x.h y.h) false
          have hsl : s = ofSh (orS x.h y.h) false := HE.out.trans (by rw [hea]; rfl)
          rw [← hsl] at hsh
          have HEA := Lib.hid hea
          clear hea HE hsl
          have HR := Lib.hid (Or_is x.h y.h)
          have HS := Lib.hid hsh
          clear hsh
          simp only [shV, setV] at HR HS
          go_wp2
          clear c0 c1 c2 c3 c4 c5 c6' c7 v0 v1 v2 v3 v4 v5 v6 v7
          obtain ⟨L0, L1, L2, L3, L4, L5, L6, L7⟩ := hA5.laters
          obtain ⟨M0, M1, M2, M3, M4, M5, M6, M7⟩ := hB5.laters
          have E1 := fun q => (L1 q).trans (by rw [HEA.out])
          clear L1
          refine region_tail 12 (by kernel_rfl) (by kernel_rfl) ?_
          simp only [List.take_succ_cons, List.take_zero, List.drop_succ_cons, List.drop_zero]
          repeat (go_big_quiet_step (fail))
          go_big_quiet_step (exact later (HR.out _))
          repeat (go_big_quiet_step (fail))
          go_big_quiet_step (exact later (HS.out _))
          repeat (go_big_quiet_step (fail))
          refine wpQuiet_nil ?_
          rintro _ ⟨z, rfl⟩
          have hZ6 := hZ5.after z.below
          have hB6 := bel_step hb5 z.below
          clear E1 L0 L2 L3 L4 L5 L6 L7 M0 M1 M2 M3 M4 M5 M6 M7
          generalize z.at_ = V at *
          obtain ⟨d0, d1, d2, d3, d4, d5, d6, d7⟩ := hZ6.cells
          obtain ⟨g0, g1, g2, g3, g4, g5, g6, g7⟩ := hZ6.frozens
          go_wp2
          refine bodyPost_ret (v := shV s) ?_ rfl ⟨rfl, bel_putSh hB6 (by omega) s⟩
          exact results_cell_row rfl _ _ _ _ _ _ _ rfl (hZ6.put s) Try.underlying26 rfl (by kernel_rfl)
end Go.Proofs.Ytjdhidiocchkeaa
