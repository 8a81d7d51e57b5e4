/-
  The walk of conchlaw6.PatStars. (By wip/tools/gen_patstars.py.)
-/
import Derived.Test.YtmpneifjjnfckaaPatLive
namespace Go.Proofs.Ytmpneifjjnfckaa
open Go.RowKit

set_option maxHeartbeats 8000000 in
set_option maxRecDepth 100000 in
theorem PatStars_walk (a b m : ByteArray) (w : World) : Calls Try.prog 6 #[.string a, .string b, .string m] w (Gives w (.bool true)) := by
  have HW := Lib.hid awake6_is
  go_enter Try.func6, Try.ntmps6
  by_cases ha : a.size ≤ 60
  · by_cases hb : b.size ≤ 60
    · by_cases hm : m.size ≤ 60
      · obtain ⟨N, hN, hNN⟩ : ∃ N : Nat, (a.size : Int) + (b.size : Int) + 1 = (N : Int) ∧ N = a.size + b.size + 1 := ⟨a.size + b.size + 1, by omega, rfl⟩
        have HNN := Lib.hid hNN
        have hN8 : N ≤ 121 := by omega
        have hN7 : a.size < N := by omega
        clear hNN
        have hmk := make_bools N (by omega)
        obtain ⟨X1, hX1⟩ : ∃ X1, a ++ ⟨#[42]⟩ ++ b = X1 := ⟨_, rfl⟩
        obtain ⟨X2, hX2⟩ : ∃ X2, a ++ ⟨#[63]⟩ ++ b = X2 := ⟨_, rfl⟩
        have HX1 : Hid (X1.data.toList = a.data.toList ++ 42 :: b.data.toList) := Lib.hid (by rw [← hX1]; simp [ByteArray.data_append])
        have HX2 : Hid (X2.data.toList = a.data.toList ++ 63 :: b.data.toList) := Lib.hid (by rw [← hX2]; simp [ByteArray.data_append])
        have hs1 : (X1.size : Int) = (N : Int) := by
          rw [← hX1, ByteArray.size_append, ByteArray.size_append, ← hN]
          show ((a.size + 1 + b.size : Nat) : Int) = _
          omega
        have hs1n : X1.size ≤ 121 := by omega
        have hs2n : X2.size ≤ 121 := by
          rw [← hX2, ByteArray.size_append, ByteArray.size_append]
          show a.size + 1 + b.size ≤ 121
          omega
        have HP1 := Lib.hid (patPlain_is X1 (by omega))
        have HP2 := Lib.hid (patPlain_is X2 (by omega))
        go_wp2_with fail
        refine (HP1.out _).mono ?_
        rintro e z1 ⟨L1, v1, rfl, hL1, _, j1, _⟩
        obtain ⟨a1, p1, hLL1, _, _⟩ := hL1
        subst hLL1
        unfold patV
        have hA1 := BlkAt.new z1 #[.string X1, .slice a1 v1.length p1] 25
        have hb1 := bel_alloc j1 (.cells #[.string X1, .slice a1 v1.length p1] 25)
        obtain ⟨U1, hU1⟩ : ∃ U1, z1.alloc (.cells #[.string X1, .slice a1 v1.length p1] 25) = U1 := ⟨_, rfl⟩
        obtain ⟨bp, hbp⟩ : ∃ bp, z1.heap.size = bp := ⟨_, rfl⟩
        have hwp : w.heap.size ≤ bp := by have := j1.size; omega
        rw [hU1] at hA1 hb1
        rw [hbp] at hA1
        have HU1 := Lib.hid hU1
        clear hU1
        go_upto_region 4 with fail
        rw [HU1.out]
        clear HU1 hbp j1 HP1
        go_wp2_with fail
        refine (HP2.out _).mono ?_
        rintro e z2 ⟨L2, v2, rfl, hL2, _, j2, _⟩
        obtain ⟨a2, p2, hLL2, _, _⟩ := hL2
        subst hLL2
        unfold patV
        have hA2 := (hA1.after j2).alloc (.cells #[.string X2, .slice a2 v2.length p2] 25)
        have hB2 := BlkAt.new z2 #[.string X2, .slice a2 v2.length p2] 25
        have hb2 := bel_alloc (bel_step hb1 j2) (.cells #[.string X2, .slice a2 v2.length p2] 25)
        obtain ⟨U2, hU2⟩ : ∃ U2, z2.alloc (.cells #[.string X2, .slice a2 v2.length p2] 25) = U2 := ⟨_, rfl⟩
        obtain ⟨bq, hbq⟩ : ∃ bq, z2.heap.size = bq := ⟨_, rfl⟩
        have hpq : bp ≠ bq := by have := (hA1.after j2).lt; omega
        have hwq : w.heap.size ≤ bq := by have := (hA1.after j2).lt; omega
        rw [hU2] at hA2 hB2 hb2
        rw [hbq] at hB2
        have HU2 := Lib.hid hU2
        clear hU2
        go_upto_region 5 with fail
        rw [HU2.out]
        clear HU2 hbq j2 HP2 hA1 hb1
        have c0 := hA2.cell 0 (v := .string X1) rfl
        have c1 := hA2.cell 1 (v := .slice a1 v1.length p1) rfl
        have d1 := hB2.cell 1 (v := .slice a2 v2.length p2) rfl
        have f1 := hA2.frozen 1
        have g1 := hB2.frozen 1
        have hlp := hA2.lt
        have hlq := hB2.lt
        go_wp2
        go_region
        · clear c0 c1 d1 f1 g1 hmk
          have hA3 : BlkAt _ bp #[.string X1, (.slice (some ⟨U2.heap.size, 0, none⟩) N N)] 25 := ((((hA2.set 1 (.slice (some ⟨U2.heap.size, 0, none⟩) N N)).far (a := ⟨bq, 1, none⟩) hpq (.slice (some ⟨U2.heap.size + 1, 0, none⟩) N N)).alloc (.cells (rowV N fun _ => false) 4)).alloc (.cells (rowV N fun _ => false) 4)).drew
          have hB3 : BlkAt _ bq #[.string X2, (.slice (some ⟨U2.heap.size + 1, 0, none⟩) N N)] 25 := ((((hB2.far (a := ⟨bp, 1, none⟩) (Ne.symm hpq) (.slice (some ⟨U2.heap.size, 0, none⟩) N N)).set 1 (.slice (some ⟨U2.heap.size + 1, 0, none⟩) N N)).alloc (.cells (rowV N fun _ => false) 4)).alloc (.cells (rowV N fun _ => false) 4)).drew
          have hR3 := ((BlkAt.new_at ((U2.setCell ⟨bp, 1, none⟩ (.slice (some ⟨U2.heap.size, 0, none⟩) N N)).setCell ⟨bq, 1, none⟩ (.slice (some ⟨U2.heap.size + 1, 0, none⟩) N N)) (rowV N fun _ => false) 4 U2.heap.size (by simp)).alloc (.cells (rowV N fun _ => false) 4)).drew
          have hQ3 := (BlkAt.new_at (((U2.setCell ⟨bp, 1, none⟩ (.slice (some ⟨U2.heap.size, 0, none⟩) N N)).setCell ⟨bq, 1, none⟩ (.slice (some ⟨U2.heap.size + 1, 0, none⟩) N N)).alloc (.cells (rowV N fun _ => false) 4)) (rowV N fun _ => false) 4 (U2.heap.size + 1) (by simp)).drew
          have hb3 := bel_drew (bel_alloc (bel_alloc (bel_set (bel_set hb2 ⟨bp, 1, none⟩ hwp (.slice (some ⟨U2.heap.size, 0, none⟩) N N)) ⟨bq, 1, none⟩ hwq (.slice (some ⟨U2.heap.size + 1, 0, none⟩) N N)) (.cells (rowV N fun _ => false) 4)) (.cells (rowV N fun _ => false) 4))
          obtain ⟨W3, hW3⟩ : ∃ W3, ((((U2.setCell ⟨bp, 1, none⟩ (.slice (some ⟨U2.heap.size, 0, none⟩) N N)).setCell ⟨bq, 1, none⟩ (.slice (some ⟨U2.heap.size + 1, 0, none⟩) N N)).alloc (.cells (rowV N fun _ => false) 4)).alloc (.cells (rowV N fun _ => false) 4)).drew = W3 := ⟨_, rfl⟩
          rw [hW3] at hA3 hB3 hR3 hQ3 hb3 ⊢
          clear hW3 hA2 hB2
          have hw2 := hb2.size
          clear hb2
          obtain ⟨r, hr⟩ : ∃ r, U2.heap.size = r := ⟨_, rfl⟩
          rw [hr] at hA3 hB3 hR3 hQ3 hw2 hlp hlq ⊢
          clear hr
          have i0 : (a.size : Int) < (N : Int) := by omega
          go_wp2
          have c1 := hA3.cell 1 (v := (.slice (some ⟨r, 0, none⟩) N N)) rfl
          have d1 := hB3.cell 1 (v := (.slice (some ⟨r + 1, 0, none⟩) N N)) rfl
          have cA := hR3.cell a.size (rowV_get hN7)
          have fA := hR3.frozen a.size
          have hP4 := hR3.set a.size (.bool true)
          have hQ4 := hQ3.far (a := ⟨r, a.size, none⟩) (by show r + 1 ≠ r; omega) (.bool true)
          have cB := hQ4.drew.cell a.size (rowV_get hN7)
          have fB := hQ4.drew.frozen a.size
          have hP5 := (hP4.far (a := ⟨r + 1, a.size, none⟩) (by show r ≠ r + 1; omega) (.bool true)).drew
          have hQ5 := (hQ4.set a.size (.bool true)).drew
          rw [rowV_set] at hP5 hQ5
          have hA5 := ((hA3.far (a := ⟨r, a.size, none⟩) (by show bp ≠ r; omega) (.bool true)).far (a := ⟨r + 1, a.size, none⟩) (by show bp ≠ r + 1; omega) (.bool true)).drew
          have hB5 := ((hB3.far (a := ⟨r, a.size, none⟩) (by show bq ≠ r; omega) (.bool true)).far (a := ⟨r + 1, a.size, none⟩) (by show bq ≠ r + 1; omega) (.bool true)).drew
          have hb5 := bel_drew (bel_set (bel_set hb3 ⟨r, a.size, none⟩ (by show w.heap.size ≤ r; omega) (.bool true)) ⟨r + 1, a.size, none⟩ (by show w.heap.size ≤ r + 1; omega) (.bool true))
          clear hP4 hQ4
          go_region
          obtain ⟨W5, hW5⟩ : ∃ W5, ((W3.setCell ⟨r, a.size, none⟩ (.bool true)).setCell ⟨r + 1, a.size, none⟩ (.bool true)).drew = W5 := ⟨_, rfl⟩
          rw [hW5] at hA5 hB5 hP5 hQ5 hb5 ⊢
          clear hW5 c1 d1 cA fA cB fB hA3 hB3 hR3 hQ3 hb3
          have hLp := row_live hP5 (by unfold maxLen; omega)
          have hLq := row_live hQ5 (by unfold maxLen; omega)
          clear hP5 hQ5
          obtain ⟨V, hV⟩ : ∃ V, (List.range N).map (fun j => if j = a.size then true else false) = V := ⟨_, rfl⟩
          rw [hV] at hLp hLq
          have HVi : Hid (∀ i, livB V i = (decide (i < N) && decide (i = a.size))) := Lib.hid (fun i => by rw [← hV]; refine liv_row N _ (fun j => decide (j = a.size)) (fun j => ?_) i; by_cases h1 : j = a.size <;> simp [h1])
          have hv1 : ∀ i, i ≠ a.data.toList.length → livB V i = false := fun i h => by rw [len_list] at h; rw [HVi.out, decide_eq_false h, Bool.and_false]
          have hv0 : livB V a.data.toList.length = true := by rw [HVi.out, len_list, decide_eq_true hN7]; simp
          clear hV HVi
          have hq1 : (a ++ m ++ b).size ≤ 1048576 := by rw [ByteArray.size_append, ByteArray.size_append]; omega
          have hq2 : (a ++ b).size ≤ 1048576 := by rw [ByteArray.size_append]; omega
          obtain ⟨y, hy⟩ : ∃ y, ((m.size : Int) == 1) = y := ⟨_, rfl⟩
          have m1 := patMatch_is X1 (by omega) (.slice (some ⟨r, 0, none⟩) N N) V (a ++ m ++ b) hq1
          rw [HX1.out, show (a ++ m ++ b).data.toList = a.data.toList ++ m.data.toList ++ b.data.toList from by simp [ByteArray.data_append], star_all hv1 hv0] at m1
          have m2 := patMatch_is X2 (by omega) (.slice (some ⟨r + 1, 0, none⟩) N N) V (a ++ m ++ b) hq1
          rw [HX2.out, show (a ++ m ++ b).data.toList = a.data.toList ++ m.data.toList ++ b.data.toList from by simp [ByteArray.data_append], mark_one hv1 hv0, show decide (m.data.toList.length = 1) = y from by rw [← hy, len_list, Bool.eq_iff_iff, decide_eq_true_iff, beq_iff_eq]; omega] at m2
          have m3 := patActive_is X1 (by omega) (.slice (some ⟨r, 0, none⟩) N N) V
          rw [HX1.out, act_star hv0] at m3
          have m4 := patMatch_is X1 (by omega) (.slice (some ⟨r, 0, none⟩) N N) V (a ++ b) hq2
          rw [HX1.out, show (a ++ b).data.toList = a.data.toList ++ [] ++ b.data.toList from by simp [ByteArray.data_append], star_all hv1 hv0] at m4
          unfold patV at m1 m2 m3 m4
          have M1 := Lib.hid m1
          have M2 := Lib.hid m2
          have M3 := Lib.hid m3
          have M4 := Lib.hid m4
          clear m1 m2 m3 m4
          have y0 : (y == y) = true := by cases y <;> rfl
          have HV0 := Lib.hid hv0
          have HV1 := Lib.hid hv1
          clear hv0 hv1
          by_cases hz : a.size = 0
          · have ez : ((a.size : Int) == 0) = true := by rw [beq_iff_eq]; omega
            have L0 : ∀ q : Later W5, q.at_.cell? ⟨bp, 0, none⟩ = some (.string X1) := fun q => (hA5.after q.below).cell 0 rfl
            have L1 : ∀ q : Later W5, q.at_.cell? ⟨bp, 1, none⟩ = some (.slice (some ⟨r, 0, none⟩) N N) := fun q => (hA5.after q.below).cell 1 rfl
            have K0 : ∀ q : Later W5, q.at_.cell? ⟨bq, 0, none⟩ = some (.string X2) := fun q => (hB5.after q.below).cell 0 rfl
            have K1 : ∀ q : Later W5, q.at_.cell? ⟨bq, 1, none⟩ = some (.slice (some ⟨r + 1, 0, none⟩) N N) := fun q => (hB5.after q.below).cell 1 rfl
            go_wp2
            refine region_later (by kernel_rfl) (by kernel_rfl) ?_
            repeat (go_big_quiet_step (fail))
            go_big_quiet_step (exact later (M1.out _ (hLp.after (Later.below _))))
            repeat (go_big_quiet_step (fail))
            go_big_quiet_step (exact later (M2.out _ (hLq.after (Later.below _))))
            repeat (go_big_quiet_step (fail))
            go_big_quiet_step (exact later (M3.out _ (hLp.after (Later.below _))))
            repeat (go_big_quiet_step (fail))
            go_big_quiet_step (exact later (M4.out _ (hLp.after (Later.below _))))
            repeat (go_big_quiet_step (fail))
            go_big_quiet_step (exact later (HW.out _))
            repeat (go_big_quiet_step (fail))
            refine wpQuiet_nil ?_
            rintro _ ⟨q, rfl⟩
            go_wp2
            go_ret
            exact ⟨rfl, bel_step hb5 q.below⟩
          · have ez : ((a.size : Int) == 0) = false := by rw [beq_eq_false_iff_ne]; omega
            obtain ⟨n1, hn1, hn9, hn8⟩ : ∃ n1 : Nat, (a.size : Int) - 1 = (n1 : Int) ∧ n1 = a.size - 1 ∧ n1 ≤ a.size := ⟨a.size - 1, by omega, rfl, by omega⟩
            obtain ⟨Y, hY⟩ : ∃ Y, a.extract 0 n1 = Y := ⟨_, rfl⟩
            have hYs : Y.size ≤ 1048576 := by
              have := ByteArray.size_extract (a := a) (b := 0) (e := n1)
              rw [hY] at this
              omega
            have m5 := patMatch_is X1 (by omega) (.slice (some ⟨r, 0, none⟩) N N) V Y hYs
            rw [HX1.out, show Y.data.toList = a.data.toList.take (a.data.toList.length - 1) from by rw [← hY, extract_bytes, len_list, hn9]; simp, star_less HV1.out HV0.out (fun h => by
              have h2 := congrArg List.length h
              rw [len_list] at h2
              exact hz h2)] at m5
            unfold patV at m5
            have M5 := Lib.hid m5
            have HN9 := Lib.hid hn9
            clear m5 hn9
            have k0 : (0 : Int) ≤ (n1 : Int) := by omega
            have k1 : (n1 : Int) ≤ (a.size : Int) := by omega
            have L0 : ∀ q : Later W5, q.at_.cell? ⟨bp, 0, none⟩ = some (.string X1) := fun q => (hA5.after q.below).cell 0 rfl
            have L1 : ∀ q : Later W5, q.at_.cell? ⟨bp, 1, none⟩ = some (.slice (some ⟨r, 0, none⟩) N N) := fun q => (hA5.after q.below).cell 1 rfl
            have K0 : ∀ q : Later W5, q.at_.cell? ⟨bq, 0, none⟩ = some (.string X2) := fun q => (hB5.after q.below).cell 0 rfl
            have K1 : ∀ q : Later W5, q.at_.cell? ⟨bq, 1, none⟩ = some (.slice (some ⟨r + 1, 0, none⟩) N N) := fun q => (hB5.after q.below).cell 1 rfl
            go_wp2
            refine region_later (by kernel_rfl) (by kernel_rfl) ?_
            repeat (go_big_quiet_step (fail))
            go_big_quiet_step (exact later (M1.out _ (hLp.after (Later.below _))))
            repeat (go_big_quiet_step (fail))
            go_big_quiet_step (exact later (M2.out _ (hLq.after (Later.below _))))
            repeat (go_big_quiet_step (fail))
            go_big_quiet_step (exact later (M3.out _ (hLp.after (Later.below _))))
            repeat (go_big_quiet_step (fail))
            go_big_quiet_step (exact later (M4.out _ (hLp.after (Later.below _))))
            repeat (go_big_quiet_step (fail))
            go_big_quiet_step (exact later (M5.out _ (hLp.after (Later.below _))))
            repeat (go_big_quiet_step (fail))
            go_big_quiet_step (exact later (HW.out _))
            repeat (go_big_quiet_step (fail))
            refine wpQuiet_nil ?_
            rintro _ ⟨q, rfl⟩
            go_wp2
            go_ret
            exact ⟨rfl, bel_step hb5 q.below⟩
        · clear c0 c1 d1 f1 g1 hmk
          have hA3 : BlkAt _ bp #[.string X1, (.slice (some ⟨U2.heap.size + 1, 0, none⟩) N N)] 25 := ((((hA2.set 1 (.slice (some ⟨U2.heap.size + 1, 0, none⟩) N N)).far (a := ⟨bq, 1, none⟩) hpq (.slice (some ⟨U2.heap.size, 0, none⟩) N N)).alloc (.cells (rowV N fun _ => false) 4)).alloc (.cells (rowV N fun _ => false) 4)).drew
          have hB3 : BlkAt _ bq #[.string X2, (.slice (some ⟨U2.heap.size, 0, none⟩) N N)] 25 := ((((hB2.far (a := ⟨bp, 1, none⟩) (Ne.symm hpq) (.slice (some ⟨U2.heap.size + 1, 0, none⟩) N N)).set 1 (.slice (some ⟨U2.heap.size, 0, none⟩) N N)).alloc (.cells (rowV N fun _ => false) 4)).alloc (.cells (rowV N fun _ => false) 4)).drew
          have hR3 := ((BlkAt.new_at ((U2.setCell ⟨bp, 1, none⟩ (.slice (some ⟨U2.heap.size + 1, 0, none⟩) N N)).setCell ⟨bq, 1, none⟩ (.slice (some ⟨U2.heap.size, 0, none⟩) N N)) (rowV N fun _ => false) 4 U2.heap.size (by simp)).alloc (.cells (rowV N fun _ => false) 4)).drew
          have hQ3 := (BlkAt.new_at (((U2.setCell ⟨bp, 1, none⟩ (.slice (some ⟨U2.heap.size + 1, 0, none⟩) N N)).setCell ⟨bq, 1, none⟩ (.slice (some ⟨U2.heap.size, 0, none⟩) N N)).alloc (.cells (rowV N fun _ => false) 4)) (rowV N fun _ => false) 4 (U2.heap.size + 1) (by simp)).drew
          have hb3 := bel_drew (bel_alloc (bel_alloc (bel_set (bel_set hb2 ⟨bp, 1, none⟩ hwp (.slice (some ⟨U2.heap.size + 1, 0, none⟩) N N)) ⟨bq, 1, none⟩ hwq (.slice (some ⟨U2.heap.size, 0, none⟩) N N)) (.cells (rowV N fun _ => false) 4)) (.cells (rowV N fun _ => false) 4))
          obtain ⟨W3, hW3⟩ : ∃ W3, ((((U2.setCell ⟨bp, 1, none⟩ (.slice (some ⟨U2.heap.size + 1, 0, none⟩) N N)).setCell ⟨bq, 1, none⟩ (.slice (some ⟨U2.heap.size, 0, none⟩) N N)).alloc (.cells (rowV N fun _ => false) 4)).alloc (.cells (rowV N fun _ => false) 4)).drew = W3 := ⟨_, rfl⟩
          rw [hW3] at hA3 hB3 hR3 hQ3 hb3 ⊢
          clear hW3 hA2 hB2
          have hw2 := hb2.size
          clear hb2
          obtain ⟨r, hr⟩ : ∃ r, U2.heap.size = r := ⟨_, rfl⟩
          rw [hr] at hA3 hB3 hR3 hQ3 hw2 hlp hlq ⊢
          clear hr
          have i0 : (a.size : Int) < (N : Int) := by omega
          go_wp2
          have c1 := hA3.cell 1 (v := (.slice (some ⟨r + 1, 0, none⟩) N N)) rfl
          have d1 := hB3.cell 1 (v := (.slice (some ⟨r, 0, none⟩) N N)) rfl
          have cA := hQ3.cell a.size (rowV_get hN7)
          have fA := hQ3.frozen a.size
          have hP4 := hQ3.set a.size (.bool true)
          have hQ4 := hR3.far (a := ⟨r + 1, a.size, none⟩) (by show r ≠ r + 1; omega) (.bool true)
          have cB := hQ4.drew.cell a.size (rowV_get hN7)
          have fB := hQ4.drew.frozen a.size
          have hP5 := (hP4.far (a := ⟨r, a.size, none⟩) (by show r + 1 ≠ r; omega) (.bool true)).drew
          have hQ5 := (hQ4.set a.size (.bool true)).drew
          rw [rowV_set] at hP5 hQ5
          have hA5 := ((hA3.far (a := ⟨r + 1, a.size, none⟩) (by show bp ≠ r + 1; omega) (.bool true)).far (a := ⟨r, a.size, none⟩) (by show bp ≠ r; omega) (.bool true)).drew
          have hB5 := ((hB3.far (a := ⟨r + 1, a.size, none⟩) (by show bq ≠ r + 1; omega) (.bool true)).far (a := ⟨r, a.size, none⟩) (by show bq ≠ r; omega) (.bool true)).drew
          have hb5 := bel_drew (bel_set (bel_set hb3 ⟨r + 1, a.size, none⟩ (by show w.heap.size ≤ r + 1; omega) (.bool true)) ⟨r, a.size, none⟩ (by show w.heap.size ≤ r; omega) (.bool true))
          clear hP4 hQ4
          go_region
          obtain ⟨W5, hW5⟩ : ∃ W5, ((W3.setCell ⟨r + 1, a.size, none⟩ (.bool true)).setCell ⟨r, a.size, none⟩ (.bool true)).drew = W5 := ⟨_, rfl⟩
          rw [hW5] at hA5 hB5 hP5 hQ5 hb5 ⊢
          clear hW5 c1 d1 cA fA cB fB hA3 hB3 hR3 hQ3 hb3
          have hLp := row_live hP5 (by unfold maxLen; omega)
          have hLq := row_live hQ5 (by unfold maxLen; omega)
          clear hP5 hQ5
          obtain ⟨V, hV⟩ : ∃ V, (List.range N).map (fun j => if j = a.size then true else false) = V := ⟨_, rfl⟩
          rw [hV] at hLp hLq
          have HVi : Hid (∀ i, livB V i = (decide (i < N) && decide (i = a.size))) := Lib.hid (fun i => by rw [← hV]; refine liv_row N _ (fun j => decide (j = a.size)) (fun j => ?_) i; by_cases h1 : j = a.size <;> simp [h1])
          have hv1 : ∀ i, i ≠ a.data.toList.length → livB V i = false := fun i h => by rw [len_list] at h; rw [HVi.out, decide_eq_false h, Bool.and_false]
          have hv0 : livB V a.data.toList.length = true := by rw [HVi.out, len_list, decide_eq_true hN7]; simp
          clear hV HVi
          have hq1 : (a ++ m ++ b).size ≤ 1048576 := by rw [ByteArray.size_append, ByteArray.size_append]; omega
          have hq2 : (a ++ b).size ≤ 1048576 := by rw [ByteArray.size_append]; omega
          obtain ⟨y, hy⟩ : ∃ y, ((m.size : Int) == 1) = y := ⟨_, rfl⟩
          have m1 := patMatch_is X1 (by omega) (.slice (some ⟨r + 1, 0, none⟩) N N) V (a ++ m ++ b) hq1
          rw [HX1.out, show (a ++ m ++ b).data.toList = a.data.toList ++ m.data.toList ++ b.data.toList from by simp [ByteArray.data_append], star_all hv1 hv0] at m1
          have m2 := patMatch_is X2 (by omega) (.slice (some ⟨r, 0, none⟩) N N) V (a ++ m ++ b) hq1
          rw [HX2.out, show (a ++ m ++ b).data.toList = a.data.toList ++ m.data.toList ++ b.data.toList from by simp [ByteArray.data_append], mark_one hv1 hv0, show decide (m.data.toList.length = 1) = y from by rw [← hy, len_list, Bool.eq_iff_iff, decide_eq_true_iff, beq_iff_eq]; omega] at m2
          have m3 := patActive_is X1 (by omega) (.slice (some ⟨r + 1, 0, none⟩) N N) V
          rw [HX1.out, act_star hv0] at m3
          have m4 := patMatch_is X1 (by omega) (.slice (some ⟨r + 1, 0, none⟩) N N) V (a ++ b) hq2
          rw [HX1.out, show (a ++ b).data.toList = a.data.toList ++ [] ++ b.data.toList from by simp [ByteArray.data_append], star_all hv1 hv0] at m4
          unfold patV at m1 m2 m3 m4
          have M1 := Lib.hid m1
          have M2 := Lib.hid m2
          have M3 := Lib.hid m3
          have M4 := Lib.hid m4
          clear m1 m2 m3 m4
          have y0 : (y == y) = true := by cases y <;> rfl
          have HV0 := Lib.hid hv0
          have HV1 := Lib.hid hv1
          clear hv0 hv1
          by_cases hz : a.size = 0
          · have ez : ((a.size : Int) == 0) = true := by rw [beq_iff_eq]; omega
            have L0 : ∀ q : Later W5, q.at_.cell? ⟨bp, 0, none⟩ = some (.string X1) := fun q => (hA5.after q.below).cell 0 rfl
            have L1 : ∀ q : Later W5, q.at_.cell? ⟨bp, 1, none⟩ = some (.slice (some ⟨r + 1, 0, none⟩) N N) := fun q => (hA5.after q.below).cell 1 rfl
            have K0 : ∀ q : Later W5, q.at_.cell? ⟨bq, 0, none⟩ = some (.string X2) := fun q => (hB5.after q.below).cell 0 rfl
            have K1 : ∀ q : Later W5, q.at_.cell? ⟨bq, 1, none⟩ = some (.slice (some ⟨r, 0, none⟩) N N) := fun q => (hB5.after q.below).cell 1 rfl
            go_wp2
            refine region_later (by kernel_rfl) (by kernel_rfl) ?_
            repeat (go_big_quiet_step (fail))
            go_big_quiet_step (exact later (M1.out _ (hLp.after (Later.below _))))
            repeat (go_big_quiet_step (fail))
            go_big_quiet_step (exact later (M2.out _ (hLq.after (Later.below _))))
            repeat (go_big_quiet_step (fail))
            go_big_quiet_step (exact later (M3.out _ (hLp.after (Later.below _))))
            repeat (go_big_quiet_step (fail))
            go_big_quiet_step (exact later (M4.out _ (hLp.after (Later.below _))))
            repeat (go_big_quiet_step (fail))
            go_big_quiet_step (exact later (HW.out _))
            repeat (go_big_quiet_step (fail))
            refine wpQuiet_nil ?_
            rintro _ ⟨q, rfl⟩
            go_wp2
            go_ret
            exact ⟨rfl, bel_step hb5 q.below⟩
          · have ez : ((a.size : Int) == 0) = false := by rw [beq_eq_false_iff_ne]; omega
            obtain ⟨n1, hn1, hn9, hn8⟩ : ∃ n1 : Nat, (a.size : Int) - 1 = (n1 : Int) ∧ n1 = a.size - 1 ∧ n1 ≤ a.size := ⟨a.size - 1, by omega, rfl, by omega⟩
            obtain ⟨Y, hY⟩ : ∃ Y, a.extract 0 n1 = Y := ⟨_, rfl⟩
            have hYs : Y.size ≤ 1048576 := by
              have := ByteArray.size_extract (a := a) (b := 0) (e := n1)
              rw [hY] at this
              omega
            have m5 := patMatch_is X1 (by omega) (.slice (some ⟨r + 1, 0, none⟩) N N) V Y hYs
            rw [HX1.out, show Y.data.toList = a.data.toList.take (a.data.toList.length - 1) from by rw [← hY, extract_bytes, len_list, hn9]; simp, star_less HV1.out HV0.out (fun h => by
              have h2 := congrArg List.length h
              rw [len_list] at h2
              exact hz h2)] at m5
            unfold patV at m5
            have M5 := Lib.hid m5
            have HN9 := Lib.hid hn9
            clear m5 hn9
            have k0 : (0 : Int) ≤ (n1 : Int) := by omega
            have k1 : (n1 : Int) ≤ (a.size : Int) := by omega
            have L0 : ∀ q : Later W5, q.at_.cell? ⟨bp, 0, none⟩ = some (.string X1) := fun q => (hA5.after q.below).cell 0 rfl
            have L1 : ∀ q : Later W5, q.at_.cell? ⟨bp, 1, none⟩ = some (.slice (some ⟨r + 1, 0, none⟩) N N) := fun q => (hA5.after q.below).cell 1 rfl
            have K0 : ∀ q : Later W5, q.at_.cell? ⟨bq, 0, none⟩ = some (.string X2) := fun q => (hB5.after q.below).cell 0 rfl
            have K1 : ∀ q : Later W5, q.at_.cell? ⟨bq, 1, none⟩ = some (.slice (some ⟨r, 0, none⟩) N N) := fun q => (hB5.after q.below).cell 1 rfl
            go_wp2
            refine region_later (by kernel_rfl) (by kernel_rfl) ?_
            repeat (go_big_quiet_step (fail))
            go_big_quiet_step (exact later (M1.out _ (hLp.after (Later.below _))))
            repeat (go_big_quiet_step (fail))
            go_big_quiet_step (exact later (M2.out _ (hLq.after (Later.below _))))
            repeat (go_big_quiet_step (fail))
            go_big_quiet_step (exact later (M3.out _ (hLp.after (Later.below _))))
            repeat (go_big_quiet_step (fail))
            go_big_quiet_step (exact later (M4.out _ (hLp.after (Later.below _))))
            repeat (go_big_quiet_step (fail))
            go_big_quiet_step (exact later (M5.out _ (hLp.after (Later.below _))))
            repeat (go_big_quiet_step (fail))
            go_big_quiet_step (exact later (HW.out _))
            repeat (go_big_quiet_step (fail))
            refine wpQuiet_nil ?_
            rintro _ ⟨q, rfl⟩
            go_wp2
            go_ret
            exact ⟨rfl, bel_step hb5 q.below⟩
      · go_wp2_with fail
        refine (HW.out _).mono ?_
        rintro e v9 ⟨rfl, j9⟩
        go_wp2
        go_ret
        exact ⟨rfl, j9⟩
    · go_wp2_with fail
      refine (HW.out _).mono ?_
      rintro e v9 ⟨rfl, j9⟩
      go_wp2
      go_ret
      exact ⟨rfl, j9⟩
  · go_wp2_with fail
    refine (HW.out _).mono ?_
    rintro e v9 ⟨rfl, j9⟩
    go_wp2
    go_ret
    exact ⟨rfl, j9⟩
end Go.Proofs.Ytmpneifjjnfckaa
