/-
  The contract of package pat's takeAt.
-/
import Derived.Test.YtmpneifjjnfckaaPmTake
import Derived.Test.YtmpneifjjnfckaaHeadX
namespace Go.Proofs.Ytmpneifjjnfckaa
open Go.RowKit

/-- the bytes of which a place of a pattern takes one -/
def tokS (t : List UInt8) (v : List Bool) (i c : Nat) : Bool := if isB t v i 63 then true else match brB t v i with
  | some e => amB t v i e c
  | none => decide (c = byt t i)

theorem bkS_am (t : List UInt8) (v : List Bool) (i e c : Nat) : bkS t v (bkF t v i) e (isB t v (i + 1) 33) c = amB t v i e c := by
  unfold bkS bkF amB
  cases isB t v (i + 1) 33 <;> rfl

theorem LiveOff.gx {w w' : World} {L : Value} {v : List Bool} {c : Nat} (h : LiveOff w L v c) (g : Gx c w w') : LiveOff w' L v c := by
  obtain ⟨ao, cap, h1, h2, h3⟩ := h
  exact ⟨ao, cap, h1, h2, fun j x hj => by obtain ⟨b, o, g1, g2, g3⟩ := h3 j x hj; exact ⟨b, o, g1, g2, g.cell g3 g2⟩⟩

set_option maxHeartbeats 16000000 in
set_option maxRecDepth 100000 in
theorem takeAt_is (t : ByteArray) (ht : t.size ≤ 1048576) (L : Value) (v : List Bool) (i : Nat) (hi : i < t.size) (w : World) (hL : LiveAt w L v) : Calls Try.prog 32 #[patV t L, .int .i64 (i : Int), .int .i64 (lastI t.data.toList v t.size)] w (Gives w (.tuple #[setV (tokS t.data.toList v i), .int .i64 ((nextAt t.data.toList v i - i : Nat) : Int)])) := by
  obtain ⟨wA, hwA, hb, hP⟩ := lay_pat w t L
  have hLA := hL.after hb
  have hoff : ∀ c, w.heap.size ≤ c → ∀ w' : World, LiveAt w' L v → LiveOff w' L v c := fun c hc w' h => LiveOff.move (hL.off c hc) h
  clear hL
  obtain ⟨R, hR⟩ : ∃ R, Value.tuple #[setV (tokS t.data.toList v i), .int .i64 ((nextAt t.data.toList v i - i : Nat) : Int)] = R := ⟨_, rfl⟩
  rw [hR]
  have HR := Lib.hid hR
  clear hR
  have hsA : wA.heap.size = w.heap.size + 1 := by rw [← hwA]; simp
  have hZ := SetAt.zero wA
  rw [hsA] at hZ
  have hP0 := hP.alloc (.cells #[.int .u64 0, .int .u64 0, .int .u64 0, .int .u64 0] 57)
  have hb0 := bel_alloc hb (.cells #[.int .u64 0, .int .u64 0, .int .u64 0, .int .u64 0] 57)
  have hL0 := hLA.after (bel_alloc (Below.refl _ wA) (.cells #[.int .u64 0, .int .u64 0, .int .u64 0, .int .u64 0] 57))
  obtain ⟨w0, hw0⟩ : ∃ w0, wA.alloc (.cells #[.int .u64 0, .int .u64 0, .int .u64 0, .int .u64 0] 57) = w0 := ⟨_, rfl⟩
  have hs0 : w0.heap.size = w.heap.size + 2 := by rw [← hw0]; simp [hsA]
  rw [hw0] at hZ hP0 hb0 hL0
  have HI1 := Lib.hid (means_is t L v i 63)
  have HBk := Lib.hid (bracketAt_is t ht L v i (by omega))
  obtain ⟨lst, hlst⟩ : ∃ lst, lastI t.data.toList v t.size = lst := ⟨_, rfl⟩
  rw [hlst] at HBk ⊢
  clear hlst
  obtain ⟨z1, hz1⟩ : ∃ z, isB t.data.toList v i 63 = z := ⟨_, rfl⟩
  rw [hz1] at HI1
  have Z1 := Lib.hid hz1
  clear hz1 hb hP hLA
  have c0 := hP0.cell 0 (v := .string t) rfl
  have c1 := hP0.cell 1 (v := L) rfl
  unfold patV at HI1 HBk ⊢
  have HW := Lib.hid hw0
  have HA := Lib.hid hwA
  clear hw0 hwA
  go_enter Try.func32, Try.ntmps32
  go_upto_region 1 with fail
  rw [HA.out, HW.out]
  go_wp2_with fail
  refine (HI1.out _ hL0).mono ?_
  rintro ending w1 ⟨rfl, hb1⟩
  have hs1 : w0.heap.size ≤ w1.heap.size := hb1.size
  have hb2 := bel_step hb0 hb1
  have hP1 := hP0.after hb1
  have hZ1 := hZ.after hb1
  have hL1 := hL0.after hb1
  clear hb0 hb1 hP0 hZ hL0 c0 c1 HI1 HA HW
  cases z1 with
  | true =>
    have hE : Value.tuple #[setV (notS noS), .int .i64 1] = R := by
      rw [← HR.out, show nextAt t.data.toList v i - i = 1 by unfold nextAt; rw [brB_other Z1.out (by decide)]; exact Nat.add_sub_cancel_left i 1]
      rw [setV_congr (p := notS noS) (q := tokS t.data.toList v i) fun c _ => by unfold notS noS tokS; rw [Z1.out]; rfl]
      rfl
    have HQ := Lib.hid hE
    clear hE HR HBk
    have HT := Lib.hid (pwithout_is noS)
    rw [setV_no] at HT
    simp only [setV] at HT
    go_wp2_with fail
    refine (HT.out _).mono ?_
    rintro ending w3 ⟨rfl, hb3⟩
    have hZ3 := hZ1.after hb3
    have hb4 := bel_step hb2 hb3
    clear hZ1 hP1 hL1 hb2 hb3 HT
    obtain ⟨a0, a1, a2, a3⟩ := hZ3.cells
    have g0 := hZ3.frozen 0
    have g1 := hZ3.frozen 1
    have g2 := hZ3.frozen 2
    have g3 := hZ3.frozen 3
    go_wp2
    refine bodyPost_ret (v := .tuple #[setV (notS noS), .int .i64 1]) ?_ rfl ⟨congrArg Ending.returned HQ.out, bel_put4 hb4 (b := w.heap.size + 1) (by omega) (notS noS)⟩
    exact results_row_tmp rfl _ _ _ _ _ _ _ _ rfl rfl (hZ3.put (notS noS)) Try.underlying57 rfl (by kernel_rfl)
  | false =>
    have c0 := hP1.cell 0 (v := .string t) rfl
    have c1 := hP1.cell 1 (v := L) rfl
    cases hbr : brB t.data.toList v i with
    | some e =>
      have hbe := brB_in hbr
      rw [len_list] at hbe
      obtain ⟨fr, hfr⟩ : ∃ fr, bkF t.data.toList v i = fr := ⟨_, rfl⟩
      obtain ⟨nt, hnt⟩ : ∃ nt, isB t.data.toList v (i + 1) 33 = nt := ⟨_, rfl⟩
      have hbk : bkV t.data.toList v i = .tuple #[.agg #[.int .i64 (fr : Int), .int .i64 (e : Int), .bool nt], .bool true] := by unfold bkV; rw [hbr, hfr, hnt]
      rw [hbk] at HBk
      have hfe : fr ≤ e := by rw [← hfr]; unfold bkF; split <;> omega
      have HS := Lib.hid (bset_is t ht L v fr e nt hfe hbe.2.1)
      obtain ⟨q, hq⟩ : ∃ q, bkS t.data.toList v fr e nt = q := ⟨_, rfl⟩
      rw [hq] at HS
      obtain ⟨e1, he1⟩ : ∃ e1, e + 1 = e1 := ⟨_, rfl⟩
      obtain ⟨d, hd⟩ : ∃ d, e1 - i = d := ⟨_, rfl⟩
      have EE : (e : Int) + 1 = (e1 : Int) := by omega
      have ED : (e1 : Int) - (i : Int) = (d : Int) := by omega
      have hE : Value.tuple #[setV q, .int .i64 (d : Int)] = R := by
        rw [← HR.out, show nextAt t.data.toList v i - i = d by unfold nextAt; rw [hbr]; simp only; omega, ← hq, ← hfr, ← hnt]
        congr 2
        rw [setV_congr (p := bkS t.data.toList v (bkF t.data.toList v i) e (isB t.data.toList v (i + 1) 33)) (q := tokS t.data.toList v i) fun c _ => by rw [bkS_am]; unfold tokS; rw [Z1.out, hbr]; rfl]
      have HQ := Lib.hid hE
      have hdm : d ≤ 1048577 := by omega
      have hem : e ≤ 1048576 := by omega
      clear hE HR hbk hfr hnt hq he1 hd hbr hbe hfe
      unfold patV at HS
      simp only [setV] at HS
      go_wp2_with fail
      refine (HBk.out _ hL1).mono ?_
      rintro ending w3 ⟨rfl, hb3⟩
      have hs3 := hb3.size
      have hP3 := (hP1.after hb3).alloc (.cells #[.int .i64 (fr : Int), .int .i64 (e : Int), .bool nt] 48)
      have hZ3 := (hZ1.after hb3).alloc (.cells #[.int .i64 (fr : Int), .int .i64 (e : Int), .bool nt] 48)
      have hB3 := BlkAt.new w3 #[.int .i64 (fr : Int), .int .i64 (e : Int), .bool nt] 48
      have hL3 := (hL1.after hb3).after (bel_alloc (Below.refl _ w3) (.cells #[.int .i64 (fr : Int), .int .i64 (e : Int), .bool nt] 48))
      have hb4 := bel_alloc (bel_step hb2 hb3) (.cells #[.int .i64 (fr : Int), .int .i64 (e : Int), .bool nt] 48)
      clear hP1 hZ1 hL1 hb2 hb3 HBk c0 c1
      go_wp2
      generalize w3.alloc (.cells #[.int .i64 (fr : Int), .int .i64 (e : Int), .bool nt] 48) = U at *
      have hn1 : w3.heap.size ≠ w.heap.size + 1 := by omega
      have hn2 : w.heap.size ≠ w.heap.size + 1 := by omega
      have hoff1 := hoff (w.heap.size + 1) (by omega) U hL3
      refine region_headx (w.heap.size + 1) 8 ?A1 (by kernel_rfl) (by kernel_rfl) (by kernel_rfl) (by decide) (by kernel_rfl) ?hQ ?head ?tail
      case hQ =>
        intro c a d v w1 h
        cases d <;> exact h
      case head =>
        intro x
        simp only [List.take_succ_cons, List.take_zero]
        have gx : Gx (w.heap.size + 1) U x.at_ := x.below.undrew
        have hPx := hP3.gx gx hn2
        have hBx := hB3.gx gx hn1
        have hLx := (hoff1.gx gx).at_
        have L0 : ∀ y : Later x.at_, y.at_.cell? ⟨w.heap.size, 0, none⟩ = some (.string t) := fun y => (hPx.after y.below).cell 0 rfl
        have L1 : ∀ y : Later x.at_, y.at_.cell? ⟨w.heap.size, 1, none⟩ = some L := fun y => (hPx.after y.below).cell 1 rfl
        have L2 : ∀ y : Later x.at_, y.at_.cell? ⟨w3.heap.size, 0, none⟩ = some (.int .i64 (fr : Int)) := fun y => (hBx.after y.below).cell 0 rfl
        have L3 : ∀ y : Later x.at_, y.at_.cell? ⟨w3.heap.size, 1, none⟩ = some (.int .i64 (e : Int)) := fun y => (hBx.after y.below).cell 1 rfl
        have L4 : ∀ y : Later x.at_, y.at_.cell? ⟨w3.heap.size, 2, none⟩ = some (.bool nt) := fun y => (hBx.after y.below).cell 2 rfl
        repeat (go_big_quiet_step (fail))
        go_big_quiet_step (exact later (HS.out _ (hLx.after (Later.below _))))
        repeat (go_big_quiet_step (fail))
        refine wpQuiet_nil ?_
        rfl
      case tail =>
        change wpAnyX _ _ _ _ _ _ (1 + 1) _ _ _
        have hZ4 := hZ3
        clear hoff1 hP3 hB3 hL3 HS
        refine wpAnyX_all (rs := [8]) (by kernel_rfl) (by decide) ?_
        intro y0 h0 i hi
        simp only [List.mem_cons, List.not_mem_nil, or_false] at hi
        subst hi
        have k0 : Gr U y0 := Gr.undrew h0
        have hZ5 := hZ4.after k0
        have hb5 := bel_step hb4 k0
        clear hZ4 hZ3 hb4
        obtain ⟨a0, a1, a2, a3⟩ := hZ5.cells
        have g0 := hZ5.frozen 0
        have g1 := hZ5.frozen 1
        have g2 := hZ5.frozen 2
        have g3 := hZ5.frozen 3
        have gg : Gx (w.heap.size + 1) U.drew (put4 y0 (w.heap.size + 1) q) := ((((Gx.of_below h0).set 0 _).set 1 _).set 2 _).set 3 _
        have hZ6 := hZ5.put4 q
        have hb6 := bel_put4 hb5 (b := w.heap.size + 1) (by omega) q
        have HH := Lib.hid (And.intro hZ6 hb6)
        clear hZ6 hb6 hZ5 hb5 h0 k0
        refine wpOp_plain rfl rfl ?_
        go_simp
        refine ⟨gg, ?_⟩
        clear g0 g1 g2 g3 a0 a1 a2 a3
        change wpAnyX _ _ _ _ _ _ _ _ _ (put4 y0 (w.heap.size + 1) q)
        obtain ⟨hZ6, hb6⟩ := HH.out
        clear HH
        generalize put4 y0 (w.heap.size + 1) q = Y at *
        refine wpAnyX_all (rs := [9]) (by kernel_rfl) (by decide) ?_
        intro y1 h1 i hi
        simp only [List.mem_cons, List.not_mem_nil, or_false] at hi
        subst hi
        have HG := Lib.hid (gg.grow h1)
        have hZ7 := hZ6.after h1
        have hb7 := bel_step hb6 h1
        clear gg hZ6 hb6 h1
        refine wpOp_plain rfl rfl ?_
        go_simp
        refine ⟨HG.out, ?_⟩
        clear HG
        refine wpAnyX_done (by kernel_rfl) ?_
        intro y2 h2
        have hZ8 := hZ7.after h2
        have hb8 := bel_step hb7 h2
        clear hZ7 hb7 h2
        go_wp2
        refine bodyPost_ret (v := .tuple #[setV q, .int .i64 (d : Int)]) ?_ rfl ⟨congrArg Ending.returned HQ.out, hb8⟩
        exact results_row_tmp rfl _ _ _ _ _ _ _ _ rfl rfl hZ8 Try.underlying57 rfl (by kernel_rfl)
    | none =>
      have hbk : bkV t.data.toList v i = .tuple #[.agg #[.int .i64 0, .int .i64 0, .bool false], .bool false] := by unfold bkV; rw [hbr]
      rw [hbk] at HBk
      have HY := Lib.hid (byt_at t i hi)
      have hlt : t[i].toNat < 256 := t[i].toNat_lt
      have hii : (i : Int) < (t.size : Int) := by omega
      have hi0 : (0 : Int) ≤ (i : Int) := by omega
      obtain ⟨lo, hlo⟩ : ∃ lo, t[i].toNat = lo := ⟨_, rfl⟩
      rw [hlo] at HY hlt
      have HS := Lib.hid (pwith_is noS lo lo hlt hlt)
      rw [setV_no] at HS
      obtain ⟨q, hq⟩ : ∃ q, spanS noS lo lo = q := ⟨_, rfl⟩
      rw [hq] at HS
      have hE : Value.tuple #[setV q, .int .i64 1] = R := by
        rw [← HR.out, show nextAt t.data.toList v i - i = 1 by unfold nextAt; rw [hbr]; exact Nat.add_sub_cancel_left i 1, ← hq]
        rw [setV_congr (p := spanS noS lo lo) (q := tokS t.data.toList v i) fun c _ => by rw [span_one]; unfold tokS; rw [Z1.out, hbr, HY.out]; simp [noS]]
        rfl
      have HQ := Lib.hid hE
      clear hE HR hbk hq hbr
      simp only [setV] at HS
      go_wp2_with fail
      refine (HBk.out _ hL1).mono ?_
      rintro ending w3 ⟨rfl, hb3⟩
      have hs3 := hb3.size
      have hP3 := (hP1.after hb3).alloc (.cells #[.int .i64 0, .int .i64 0, .bool false] 48)
      have hZ3 := (hZ1.after hb3).alloc (.cells #[.int .i64 0, .int .i64 0, .bool false] 48)
      have hb4 := bel_alloc (bel_step hb2 hb3) (.cells #[.int .i64 0, .int .i64 0, .bool false] 48)
      clear hP1 hZ1 hL1 hb2 hb3 HBk c0 c1
      go_wp2
      generalize w3.alloc (.cells #[.int .i64 0, .int .i64 0, .bool false] 48) = U at *
      have L0 : ∀ x : Later U, x.at_.cell? ⟨w.heap.size, 0, none⟩ = some (.string t) := fun x => (hP3.after x.below).cell 0 rfl
      refine region_tail 10 (by kernel_rfl) (by kernel_rfl) ?_
      simp only [List.take_succ_cons, List.take_zero, List.drop_succ_cons, List.drop_zero]
      repeat (go_big_quiet_step (fail))
      go_big_quiet_step (exact later (HS.out _))
      repeat (go_big_quiet_step (fail))
      refine wpQuiet_nil ?_
      rintro _ ⟨y, rfl⟩
      have hZ5 := hZ3.after y.below
      have hb5 := bel_step hb4 y.below
      clear hZ3 hb4 hP3 L0 HS
      generalize y.at_ = V at *
      obtain ⟨a0, a1, a2, a3⟩ := hZ5.cells
      have g0 := hZ5.frozen 0
      have g1 := hZ5.frozen 1
      have g2 := hZ5.frozen 2
      have g3 := hZ5.frozen 3
      go_wp2
      refine bodyPost_ret (v := .tuple #[setV q, .int .i64 1]) ?_ rfl ⟨congrArg Ending.returned HQ.out, bel_put4 hb5 (b := w.heap.size + 1) (by omega) q⟩
      exact results_row_tmp rfl _ _ _ _ _ _ _ _ rfl rfl (hZ5.put q) Try.underlying57 rfl (by kernel_rfl)
end Go.Proofs.Ytmpneifjjnfckaa
