/-
  The walk of conchlaw6.PatBrackets. (By wip/tools/gen_patbr.py.)
-/
import Derived.Test.YtmpneifjjnfckaaPatAwake
import Derived.Laws.BytesArg
namespace Go.Proofs.Ytmpneifjjnfckaa
open Go.RowKit

theorem conv4 (a b d : UInt8) : ∃ O : ByteArray, O.data.toList = [a, b, 45, d] ∧ ∀ W : World, (convert 35 9 (.slice (some ⟨W.heap.size, 0, none⟩) 4 4)).run Try.prog (W.alloc (.cells #[.int .u8 (a.toNat : Int), .int .u8 (b.toNat : Int), .int .u8 45, .int .u8 (d.toNat : Int)] 5)) = .ok (.string O) (W.alloc (.cells #[.int .u8 (a.toNat : Int), .int .u8 (b.toNat : Int), .int .u8 45, .int .u8 (d.toNat : Int)] 5)) := by
  refine ⟨strOfNums [(a.toNat : Int), (b.toNat : Int), 45, (d.toNat : Int)], by simp [strOfNums_data], fun W => ?_⟩
  refine run_convert_bytes_arg _ _ _ Try.underlying35 Try.underlying5 _ _ _ _ [(a.toNat : Int), (b.toNat : Int), 45, (d.toNat : Int)] rfl ?_ _ Try.underlying9
  intro i hi
  have h1 : i < 4 := hi
  rcases (show i = 0 ∨ i = 1 ∨ i = 2 ∨ i = 3 by omega) with rfl | rfl | rfl | rfl <;> simp
theorem conv1 (c : UInt8) : ∃ O : ByteArray, O.data.toList = [c] ∧ ∀ W : World, (convert 35 9 (.slice (some ⟨W.heap.size, 0, none⟩) 1 1)).run Try.prog (W.alloc (.cells #[.int .u8 (c.toNat : Int)] 5)) = .ok (.string O) (W.alloc (.cells #[.int .u8 (c.toNat : Int)] 5)) := by
  refine ⟨strOfNums [(c.toNat : Int)], by simp [strOfNums_data], fun W => ?_⟩
  refine run_convert_bytes_arg _ _ _ Try.underlying35 Try.underlying5 _ _ _ _ [(c.toNat : Int)] rfl ?_ _ Try.underlying9
  intro i hi
  obtain rfl : i = 0 := by have h1 : i < 1 := hi; omega
  simp

set_option maxHeartbeats 16000000 in
set_option maxRecDepth 100000 in
theorem PatBrackets_go (lo hi more c : UInt8) (w : World) : Calls Try.prog 7 #[.int .u8 (lo.toNat : Int), .int .u8 (hi.toNat : Int), .int .u8 (more.toNat : Int), .int .u8 (c.toNat : Int)] w (Gives w (.bool true)) := by
  have HW := Lib.hid awake6_is
  go_enter Try.func7, Try.ntmps7
  by_cases nmore33 : more.toNat = 33
  · have emore33 : ((more.toNat : Int) == 33) = true := by rw [nmore33]; rfl
    go_wp2_with fail
    refine (HW.out _).mono ?_
    rintro e v9 ⟨rfl, j9⟩
    go_wp2
    go_ret
    exact ⟨rfl, j9⟩
  · have emore33 : ((more.toNat : Int) == 33) = false := by rw [beq_eq_false_iff_ne]; omega
    by_cases nmore93 : more.toNat = 93
    · have emore93 : ((more.toNat : Int) == 93) = true := by rw [nmore93]; rfl
      go_wp2_with fail
      refine (HW.out _).mono ?_
      rintro e v9 ⟨rfl, j9⟩
      go_wp2
      go_ret
      exact ⟨rfl, j9⟩
    · have emore93 : ((more.toNat : Int) == 93) = false := by rw [beq_eq_false_iff_ne]; omega
      by_cases nmore45 : more.toNat = 45
      · have emore45 : ((more.toNat : Int) == 45) = true := by rw [nmore45]; rfl
        go_wp2_with fail
        refine (HW.out _).mono ?_
        rintro e v9 ⟨rfl, j9⟩
        go_wp2
        go_ret
        exact ⟨rfl, j9⟩
      · have emore45 : ((more.toNat : Int) == 45) = false := by rw [beq_eq_false_iff_ne]; omega
        by_cases nlo33 : lo.toNat = 33
        · have elo33 : ((lo.toNat : Int) == 33) = true := by rw [nlo33]; rfl
          go_wp2_with fail
          refine (HW.out _).mono ?_
          rintro e v9 ⟨rfl, j9⟩
          go_wp2
          go_ret
          exact ⟨rfl, j9⟩
        · have elo33 : ((lo.toNat : Int) == 33) = false := by rw [beq_eq_false_iff_ne]; omega
          by_cases nlo93 : lo.toNat = 93
          · have elo93 : ((lo.toNat : Int) == 93) = true := by rw [nlo93]; rfl
            go_wp2_with fail
            refine (HW.out _).mono ?_
            rintro e v9 ⟨rfl, j9⟩
            go_wp2
            go_ret
            exact ⟨rfl, j9⟩
          · have elo93 : ((lo.toNat : Int) == 93) = false := by rw [beq_eq_false_iff_ne]; omega
            by_cases nlo45 : lo.toNat = 45
            · have elo45 : ((lo.toNat : Int) == 45) = true := by rw [nlo45]; rfl
              go_wp2_with fail
              refine (HW.out _).mono ?_
              rintro e v9 ⟨rfl, j9⟩
              go_wp2
              go_ret
              exact ⟨rfl, j9⟩
            · have elo45 : ((lo.toNat : Int) == 45) = false := by rw [beq_eq_false_iff_ne]; omega
              by_cases nhi93 : hi.toNat = 93
              · have ehi93 : ((hi.toNat : Int) == 93) = true := by rw [nhi93]; rfl
                go_wp2_with fail
                refine (HW.out _).mono ?_
                rintro e v9 ⟨rfl, j9⟩
                go_wp2
                go_ret
                exact ⟨rfl, j9⟩
              · have ehi93 : ((hi.toNat : Int) == 93) = false := by rw [beq_eq_false_iff_ne]; omega
                obtain ⟨O, hO, hcv⟩ := conv4 more lo hi
                have hOs : O.size = 4 := by
                  have : O.size = O.data.toList.length := by simp
                  rw [this, hO]; rfl
                obtain ⟨C, hC, hcv1⟩ := conv1 c
                have hCs : C.size = 1 := by
                  have : C.size = C.data.toList.length := by simp
                  rw [this, hC]; rfl
                have hcvw := hcv w
                have hO4 : O.size ≤ 4 := by omega
                have hC1 : C.size ≤ 1 := by omega
                have HO := Lib.hid hOs
                have HCs := Lib.hid hCs
                clear hOs hCs hcv
                obtain ⟨y, hy⟩ : ∃ y, inB lo hi more c = y := ⟨_, rfl⟩
                obtain ⟨X1, hX1⟩ : ∃ X1, (⟨#[91]⟩ : ByteArray) ++ O ++ ⟨#[93]⟩ = X1 := ⟨_, rfl⟩
                obtain ⟨X2, hX2⟩ : ∃ X2, (⟨#[91, 33]⟩ : ByteArray) ++ O ++ ⟨#[93]⟩ = X2 := ⟨_, rfl⟩
                have HX1 : Hid (X1.data.toList = [91, more, lo, 45, hi, 93]) := Lib.hid (by rw [← hX1]; simp [ByteArray.data_append, hO])
                have HX2 : Hid (X2.data.toList = [91, 33, more, lo, 45, hi, 93]) := Lib.hid (by rw [← hX2]; simp [ByteArray.data_append, hO])
                have hs1 : X1.size = 6 := by
                  have : X1.size = X1.data.toList.length := by simp
                  rw [this, HX1.out]; rfl
                have hs2 : X2.size = 7 := by
                  have : X2.size = X2.data.toList.length := by simp
                  rw [this, HX2.out]; rfl
                have HR1 := Lib.hid (patRaw_is X1 (by omega))
                have HR2 := Lib.hid (patRaw_is X2 (by omega))
                have HS1 := Lib.hid hs1
                have HS2 := Lib.hid hs2
                have hs1b : X1.size ≤ 6 := by omega
                have hs2b : X2.size ≤ 7 := by omega
                have hlt0 := lo.toNat_lt
                have hht0 := hi.toNat_lt
                have hct0 := c.toNat_lt
                have hmt0 := more.toNat_lt
                clear hs1 hs2
                by_cases k1 : c.toNat = more.toNat
                · obtain rfl : y = true := by rw [← hy]; unfold inB; simp [k1]
                  have q1 : ((c.toNat : Int) == (more.toNat : Int)) = true := by rw [k1]; simp
                  have HI0 := Lib.hid hy
                  clear hy k1
                  have HI : Hid (inB lo hi more c = true) := HI0
                  clear HI0
                  go_wp2_with fail
                  refine (HR1.out _).mono ?_
                  rintro e z1 ⟨L1, v1, rfl, hL1, hv1, jz1, _⟩
                  obtain rfl : v1 = rp 6 := hv1.trans (by rw [HS1.out]; rfl)
                  go_wp2_with fail
                  refine (HR2.out _).mono ?_
                  rintro e z2 ⟨L2, v2, rfl, hL2, hv2, jz2, _⟩
                  obtain rfl : v2 = rp 7 := hv2.trans (by rw [HS2.out]; rfl)
                  have hL1' := hL1.after jz2
                  have hbz := bel_step (bel_step (bel_alloc (Below.refl w.heap.size w) _) jz1) jz2
                  clear jz1 jz2 hL1
                  obtain ⟨a1, p1, hLL1, _, _⟩ := id hL1'
                  obtain ⟨a2, p2, hLL2, _, _⟩ := id hL2
                  subst hLL1
                  subst hLL2
                  unfold patV
                  rw [show (rp 6).length = 6 from rfl] at hL1' ⊢
                  rw [show (rp 7).length = 7 from rfl] at hL2 ⊢
                  have hA3 := BlkAt.new z2 #[.string X1, .slice a1 6 p1] 25
                  have hB4 := BlkAt.new_at (z2.alloc (.cells #[.string X1, .slice a1 6 p1] 25)) #[.string X2, .slice a2 7 p2] 25 (z2.heap.size + 1) (by simp)
                  have hA4 := hA3.alloc (.cells #[.string X2, .slice a2 7 p2] 25)
                  have hb4 := bel_alloc (bel_alloc hbz (.cells #[.string X1, .slice a1 6 p1] 25)) (.cells #[.string X2, .slice a2 7 p2] 25)
                  have hLa4 := (hL1'.after (bel_alloc (Below.refl z2.heap.size z2) (.cells #[.string X1, .slice a1 6 p1] 25))).after (bel_alloc (Below.refl _ _) (.cells #[.string X2, .slice a2 7 p2] 25))
                  have hLb4 := (hL2.after (bel_alloc (Below.refl z2.heap.size z2) (.cells #[.string X1, .slice a1 6 p1] 25))).after (bel_alloc (Below.refl _ _) (.cells #[.string X2, .slice a2 7 p2] 25))
                  have hsz4 : ((z2.alloc (.cells #[.string X1, .slice a1 6 p1] 25)).alloc (.cells #[.string X2, .slice a2 7 p2] 25)).heap.size = z2.heap.size + 1 + 1 := by simp
                  obtain ⟨U, hU⟩ : ∃ U, (z2.alloc (.cells #[.string X1, .slice a1 6 p1] 25)).alloc (.cells #[.string X2, .slice a2 7 p2] 25) = U := ⟨_, rfl⟩
                  rw [hU] at hA4 hB4 hb4 hLa4 hLb4 hsz4
                  have HU := Lib.hid hU
                  clear hU hA3 hL1' hL2 hbz
                  go_upto_region 6 with fail
                  rw [HU.out]
                  clear HU
                  have hcv2 := hcv1 U
                  rw [hsz4] at hcv2
                  have hA5 := hA4.alloc (.cells #[.int .u8 (c.toNat : Int)] 5)
                  have hB5 := hB4.alloc (.cells #[.int .u8 (c.toNat : Int)] 5)
                  have hb5 := bel_alloc hb4 (.cells #[.int .u8 (c.toNat : Int)] 5)
                  have hLa5 := hLa4.after (bel_alloc (Below.refl U.heap.size U) (.cells #[.int .u8 (c.toNat : Int)] 5))
                  have hLb5 := hLb4.after (bel_alloc (Below.refl U.heap.size U) (.cells #[.int .u8 (c.toNat : Int)] 5))
                  clear hA4 hB4 hb4 hLa4 hLb4
                  have hC2 : (C ++ C).size ≤ 1048576 := by rw [ByteArray.size_append]; omega
                  have m1 := patMatch_is X1 (by omega) (.slice a1 6 p1) (rp 6) C (by omega)
                  rw [HX1.out, hC, pat_p nmore33 nlo93 nlo45 nhi93] at m1
                  have m2 := patMatch_is X2 (by omega) (.slice a2 7 p2) (rp 7) C (by omega)
                  rw [HX2.out, hC, pat_q nlo93 nlo45 nhi93] at m2
                  have m3 := patMatch_is X1 (by omega) (.slice a1 6 p1) (rp 6) (C ++ C) hC2
                  rw [HX1.out, show (C ++ C).data.toList = [c, c] from by simp [ByteArray.data_append, hC], pat_pp nmore33 nlo93 nlo45 nhi93] at m3
                  have m4 := patMatch_is X2 (by omega) (.slice a2 7 p2) (rp 7) ⟨#[]⟩ (by decide)
                  rw [HX2.out, show (⟨#[]⟩ : ByteArray).data.toList = [] from rfl, pat_qe nlo93 nlo45 nhi93] at m4
                  have m5 := patActive_is X1 (by omega) (.slice a1 6 p1) (rp 6)
                  rw [HX1.out, act_p nmore33 nlo93 nhi93] at m5
                  have m6 := patActive_is X2 (by omega) (.slice a2 7 p2) (rp 7)
                  rw [HX2.out, act_q nlo93 nhi93] at m6
                  rw [HI.out] at m1 m2
                  unfold patV at m1 m2 m3 m4 m5 m6
                  have M1 := Lib.hid m1
                  have M2 := Lib.hid m2
                  have M3 := Lib.hid m3
                  have M4 := Lib.hid m4
                  have M5 := Lib.hid m5
                  have M6 := Lib.hid m6
                  clear m1 m2 m3 m4 m5 m6 hC2
                  have d0 := hA5.cell 0 (v := .string X1) rfl
                  have d1 := hA5.cell 1 (v := .slice a1 6 p1) rfl
                  go_wp2_with fail
                  clear d0 d1
                  refine (M1.out _ hLa5).mono ?_
                  rintro e x5 ⟨rfl, j5⟩
                  have hA6 := hA5.after j5
                  have hB6 := hB5.after j5
                  have hLa6 := hLa5.after j5
                  have hLb6 := hLb5.after j5
                  have hb6 := bel_step hb5 j5
                  clear hA5 hB5 hLa5 hLb5 hb5 j5
                  have d0 := hB6.cell 0 (v := .string X2) rfl
                  have d1 := hB6.cell 1 (v := .slice a2 7 p2) rfl
                  go_wp2_with fail
                  clear d0 d1
                  refine (M2.out _ hLb6).mono ?_
                  rintro e x6 ⟨rfl, j6⟩
                  have hA7 := hA6.after j6
                  have hB7 := hB6.after j6
                  have hLa7 := hLa6.after j6
                  have hLb7 := hLb6.after j6
                  have hb7 := bel_step hb6 j6
                  clear hA6 hB6 hLa6 hLb6 hb6 j6
                  have d0 := hA7.cell 0 (v := .string X1) rfl
                  have d1 := hA7.cell 1 (v := .slice a1 6 p1) rfl
                  go_wp2_with fail
                  clear d0 d1
                  refine (M3.out _ hLa7).mono ?_
                  rintro e x7 ⟨rfl, j7⟩
                  have hA8 := hA7.after j7
                  have hB8 := hB7.after j7
                  have hLa8 := hLa7.after j7
                  have hLb8 := hLb7.after j7
                  have hb8 := bel_step hb7 j7
                  clear hA7 hB7 hLa7 hLb7 hb7 j7
                  have d0 := hB8.cell 0 (v := .string X2) rfl
                  have d1 := hB8.cell 1 (v := .slice a2 7 p2) rfl
                  go_wp2_with fail
                  clear d0 d1
                  refine (M4.out _ hLb8).mono ?_
                  rintro e x8 ⟨rfl, j8⟩
                  have hA9 := hA8.after j8
                  have hB9 := hB8.after j8
                  have hLa9 := hLa8.after j8
                  have hLb9 := hLb8.after j8
                  have hb9 := bel_step hb8 j8
                  clear hA8 hB8 hLa8 hLb8 hb8 j8
                  have d0 := hA9.cell 0 (v := .string X1) rfl
                  have d1 := hA9.cell 1 (v := .slice a1 6 p1) rfl
                  go_wp2_with fail
                  clear d0 d1
                  refine (M5.out _ hLa9).mono ?_
                  rintro e x9 ⟨rfl, j9⟩
                  have hA10 := hA9.after j9
                  have hB10 := hB9.after j9
                  have hLa10 := hLa9.after j9
                  have hLb10 := hLb9.after j9
                  have hb10 := bel_step hb9 j9
                  clear hA9 hB9 hLa9 hLb9 hb9 j9
                  have d0 := hB10.cell 0 (v := .string X2) rfl
                  have d1 := hB10.cell 1 (v := .slice a2 7 p2) rfl
                  go_wp2_with fail
                  clear d0 d1
                  refine (M6.out _ hLb10).mono ?_
                  rintro e x10 ⟨rfl, j10⟩
                  have hA11 := hA10.after j10
                  have hB11 := hB10.after j10
                  have hLa11 := hLa10.after j10
                  have hLb11 := hLb10.after j10
                  have hb11 := bel_step hb10 j10
                  clear hA10 hB10 hLa10 hLb10 hb10 j10
                  go_wp2_with fail
                  refine (HW.out _).mono ?_
                  rintro e v9 ⟨rfl, j9⟩
                  go_wp2
                  go_ret
                  exact ⟨rfl, bel_step hb11 j9⟩
                · have q1 : ((c.toNat : Int) == (more.toNat : Int)) = false := by rw [beq_eq_false_iff_ne]; omega
                  by_cases k2 : lo.toNat ≤ c.toNat
                  · by_cases k3 : c.toNat ≤ hi.toNat
                    · obtain rfl : y = true := by rw [← hy]; unfold inB; simp [k1, k2, k3]
                      have HI0 := Lib.hid hy
                      clear hy k1
                      have HI : Hid (inB lo hi more c = true) := HI0
                      clear HI0
                      go_wp2_with fail
                      refine (HR1.out _).mono ?_
                      rintro e z1 ⟨L1, v1, rfl, hL1, hv1, jz1, _⟩
                      obtain rfl : v1 = rp 6 := hv1.trans (by rw [HS1.out]; rfl)
                      go_wp2_with fail
                      refine (HR2.out _).mono ?_
                      rintro e z2 ⟨L2, v2, rfl, hL2, hv2, jz2, _⟩
                      obtain rfl : v2 = rp 7 := hv2.trans (by rw [HS2.out]; rfl)
                      have hL1' := hL1.after jz2
                      have hbz := bel_step (bel_step (bel_alloc (Below.refl w.heap.size w) _) jz1) jz2
                      clear jz1 jz2 hL1
                      obtain ⟨a1, p1, hLL1, _, _⟩ := id hL1'
                      obtain ⟨a2, p2, hLL2, _, _⟩ := id hL2
                      subst hLL1
                      subst hLL2
                      unfold patV
                      rw [show (rp 6).length = 6 from rfl] at hL1' ⊢
                      rw [show (rp 7).length = 7 from rfl] at hL2 ⊢
                      have hA3 := BlkAt.new z2 #[.string X1, .slice a1 6 p1] 25
                      have hB4 := BlkAt.new_at (z2.alloc (.cells #[.string X1, .slice a1 6 p1] 25)) #[.string X2, .slice a2 7 p2] 25 (z2.heap.size + 1) (by simp)
                      have hA4 := hA3.alloc (.cells #[.string X2, .slice a2 7 p2] 25)
                      have hb4 := bel_alloc (bel_alloc hbz (.cells #[.string X1, .slice a1 6 p1] 25)) (.cells #[.string X2, .slice a2 7 p2] 25)
                      have hLa4 := (hL1'.after (bel_alloc (Below.refl z2.heap.size z2) (.cells #[.string X1, .slice a1 6 p1] 25))).after (bel_alloc (Below.refl _ _) (.cells #[.string X2, .slice a2 7 p2] 25))
                      have hLb4 := (hL2.after (bel_alloc (Below.refl z2.heap.size z2) (.cells #[.string X1, .slice a1 6 p1] 25))).after (bel_alloc (Below.refl _ _) (.cells #[.string X2, .slice a2 7 p2] 25))
                      have hsz4 : ((z2.alloc (.cells #[.string X1, .slice a1 6 p1] 25)).alloc (.cells #[.string X2, .slice a2 7 p2] 25)).heap.size = z2.heap.size + 1 + 1 := by simp
                      obtain ⟨U, hU⟩ : ∃ U, (z2.alloc (.cells #[.string X1, .slice a1 6 p1] 25)).alloc (.cells #[.string X2, .slice a2 7 p2] 25) = U := ⟨_, rfl⟩
                      rw [hU] at hA4 hB4 hb4 hLa4 hLb4 hsz4
                      have HU := Lib.hid hU
                      clear hU hA3 hL1' hL2 hbz
                      go_upto_region 6 with fail
                      rw [HU.out]
                      clear HU
                      have hcv2 := hcv1 U
                      rw [hsz4] at hcv2
                      have hA5 := hA4.alloc (.cells #[.int .u8 (c.toNat : Int)] 5)
                      have hB5 := hB4.alloc (.cells #[.int .u8 (c.toNat : Int)] 5)
                      have hb5 := bel_alloc hb4 (.cells #[.int .u8 (c.toNat : Int)] 5)
                      have hLa5 := hLa4.after (bel_alloc (Below.refl U.heap.size U) (.cells #[.int .u8 (c.toNat : Int)] 5))
                      have hLb5 := hLb4.after (bel_alloc (Below.refl U.heap.size U) (.cells #[.int .u8 (c.toNat : Int)] 5))
                      clear hA4 hB4 hb4 hLa4 hLb4
                      have hC2 : (C ++ C).size ≤ 1048576 := by rw [ByteArray.size_append]; omega
                      have m1 := patMatch_is X1 (by omega) (.slice a1 6 p1) (rp 6) C (by omega)
                      rw [HX1.out, hC, pat_p nmore33 nlo93 nlo45 nhi93] at m1
                      have m2 := patMatch_is X2 (by omega) (.slice a2 7 p2) (rp 7) C (by omega)
                      rw [HX2.out, hC, pat_q nlo93 nlo45 nhi93] at m2
                      have m3 := patMatch_is X1 (by omega) (.slice a1 6 p1) (rp 6) (C ++ C) hC2
                      rw [HX1.out, show (C ++ C).data.toList = [c, c] from by simp [ByteArray.data_append, hC], pat_pp nmore33 nlo93 nlo45 nhi93] at m3
                      have m4 := patMatch_is X2 (by omega) (.slice a2 7 p2) (rp 7) ⟨#[]⟩ (by decide)
                      rw [HX2.out, show (⟨#[]⟩ : ByteArray).data.toList = [] from rfl, pat_qe nlo93 nlo45 nhi93] at m4
                      have m5 := patActive_is X1 (by omega) (.slice a1 6 p1) (rp 6)
                      rw [HX1.out, act_p nmore33 nlo93 nhi93] at m5
                      have m6 := patActive_is X2 (by omega) (.slice a2 7 p2) (rp 7)
                      rw [HX2.out, act_q nlo93 nhi93] at m6
                      rw [HI.out] at m1 m2
                      unfold patV at m1 m2 m3 m4 m5 m6
                      have M1 := Lib.hid m1
                      have M2 := Lib.hid m2
                      have M3 := Lib.hid m3
                      have M4 := Lib.hid m4
                      have M5 := Lib.hid m5
                      have M6 := Lib.hid m6
                      clear m1 m2 m3 m4 m5 m6 hC2
                      have d0 := hA5.cell 0 (v := .string X1) rfl
                      have d1 := hA5.cell 1 (v := .slice a1 6 p1) rfl
                      go_wp2_with fail
                      clear d0 d1
                      refine (M1.out _ hLa5).mono ?_
                      rintro e x5 ⟨rfl, j5⟩
                      have hA6 := hA5.after j5
                      have hB6 := hB5.after j5
                      have hLa6 := hLa5.after j5
                      have hLb6 := hLb5.after j5
                      have hb6 := bel_step hb5 j5
                      clear hA5 hB5 hLa5 hLb5 hb5 j5
                      have d0 := hB6.cell 0 (v := .string X2) rfl
                      have d1 := hB6.cell 1 (v := .slice a2 7 p2) rfl
                      go_wp2_with fail
                      clear d0 d1
                      refine (M2.out _ hLb6).mono ?_
                      rintro e x6 ⟨rfl, j6⟩
                      have hA7 := hA6.after j6
                      have hB7 := hB6.after j6
                      have hLa7 := hLa6.after j6
                      have hLb7 := hLb6.after j6
                      have hb7 := bel_step hb6 j6
                      clear hA6 hB6 hLa6 hLb6 hb6 j6
                      have d0 := hA7.cell 0 (v := .string X1) rfl
                      have d1 := hA7.cell 1 (v := .slice a1 6 p1) rfl
                      go_wp2_with fail
                      clear d0 d1
                      refine (M3.out _ hLa7).mono ?_
                      rintro e x7 ⟨rfl, j7⟩
                      have hA8 := hA7.after j7
                      have hB8 := hB7.after j7
                      have hLa8 := hLa7.after j7
                      have hLb8 := hLb7.after j7
                      have hb8 := bel_step hb7 j7
                      clear hA7 hB7 hLa7 hLb7 hb7 j7
                      have d0 := hB8.cell 0 (v := .string X2) rfl
                      have d1 := hB8.cell 1 (v := .slice a2 7 p2) rfl
                      go_wp2_with fail
                      clear d0 d1
                      refine (M4.out _ hLb8).mono ?_
                      rintro e x8 ⟨rfl, j8⟩
                      have hA9 := hA8.after j8
                      have hB9 := hB8.after j8
                      have hLa9 := hLa8.after j8
                      have hLb9 := hLb8.after j8
                      have hb9 := bel_step hb8 j8
                      clear hA8 hB8 hLa8 hLb8 hb8 j8
                      have d0 := hA9.cell 0 (v := .string X1) rfl
                      have d1 := hA9.cell 1 (v := .slice a1 6 p1) rfl
                      go_wp2_with fail
                      clear d0 d1
                      refine (M5.out _ hLa9).mono ?_
                      rintro e x9 ⟨rfl, j9⟩
                      have hA10 := hA9.after j9
                      have hB10 := hB9.after j9
                      have hLa10 := hLa9.after j9
                      have hLb10 := hLb9.after j9
                      have hb10 := bel_step hb9 j9
                      clear hA9 hB9 hLa9 hLb9 hb9 j9
                      have d0 := hB10.cell 0 (v := .string X2) rfl
                      have d1 := hB10.cell 1 (v := .slice a2 7 p2) rfl
                      go_wp2_with fail
                      clear d0 d1
                      refine (M6.out _ hLb10).mono ?_
                      rintro e x10 ⟨rfl, j10⟩
                      have hA11 := hA10.after j10
                      have hB11 := hB10.after j10
                      have hLa11 := hLa10.after j10
                      have hLb11 := hLb10.after j10
                      have hb11 := bel_step hb10 j10
                      clear hA10 hB10 hLa10 hLb10 hb10 j10
                      go_wp2_with fail
                      refine (HW.out _).mono ?_
                      rintro e v9 ⟨rfl, j9⟩
                      go_wp2
                      go_ret
                      exact ⟨rfl, bel_step hb11 j9⟩
                    · obtain rfl : y = false := by rw [← hy]; unfold inB; simp [k1, k2, k3]
                      have HI0 := Lib.hid hy
                      clear hy k1
                      have HI : Hid (inB lo hi more c = false) := HI0
                      clear HI0
                      go_wp2_with fail
                      refine (HR1.out _).mono ?_
                      rintro e z1 ⟨L1, v1, rfl, hL1, hv1, jz1, _⟩
                      obtain rfl : v1 = rp 6 := hv1.trans (by rw [HS1.out]; rfl)
                      go_wp2_with fail
                      refine (HR2.out _).mono ?_
                      rintro e z2 ⟨L2, v2, rfl, hL2, hv2, jz2, _⟩
                      obtain rfl : v2 = rp 7 := hv2.trans (by rw [HS2.out]; rfl)
                      have hL1' := hL1.after jz2
                      have hbz := bel_step (bel_step (bel_alloc (Below.refl w.heap.size w) _) jz1) jz2
                      clear jz1 jz2 hL1
                      obtain ⟨a1, p1, hLL1, _, _⟩ := id hL1'
                      obtain ⟨a2, p2, hLL2, _, _⟩ := id hL2
                      subst hLL1
                      subst hLL2
                      unfold patV
                      rw [show (rp 6).length = 6 from rfl] at hL1' ⊢
                      rw [show (rp 7).length = 7 from rfl] at hL2 ⊢
                      have hA3 := BlkAt.new z2 #[.string X1, .slice a1 6 p1] 25
                      have hB4 := BlkAt.new_at (z2.alloc (.cells #[.string X1, .slice a1 6 p1] 25)) #[.string X2, .slice a2 7 p2] 25 (z2.heap.size + 1) (by simp)
                      have hA4 := hA3.alloc (.cells #[.string X2, .slice a2 7 p2] 25)
                      have hb4 := bel_alloc (bel_alloc hbz (.cells #[.string X1, .slice a1 6 p1] 25)) (.cells #[.string X2, .slice a2 7 p2] 25)
                      have hLa4 := (hL1'.after (bel_alloc (Below.refl z2.heap.size z2) (.cells #[.string X1, .slice a1 6 p1] 25))).after (bel_alloc (Below.refl _ _) (.cells #[.string X2, .slice a2 7 p2] 25))
                      have hLb4 := (hL2.after (bel_alloc (Below.refl z2.heap.size z2) (.cells #[.string X1, .slice a1 6 p1] 25))).after (bel_alloc (Below.refl _ _) (.cells #[.string X2, .slice a2 7 p2] 25))
                      have hsz4 : ((z2.alloc (.cells #[.string X1, .slice a1 6 p1] 25)).alloc (.cells #[.string X2, .slice a2 7 p2] 25)).heap.size = z2.heap.size + 1 + 1 := by simp
                      obtain ⟨U, hU⟩ : ∃ U, (z2.alloc (.cells #[.string X1, .slice a1 6 p1] 25)).alloc (.cells #[.string X2, .slice a2 7 p2] 25) = U := ⟨_, rfl⟩
                      rw [hU] at hA4 hB4 hb4 hLa4 hLb4 hsz4
                      have HU := Lib.hid hU
                      clear hU hA3 hL1' hL2 hbz
                      go_upto_region 6 with fail
                      rw [HU.out]
                      clear HU
                      have hcv2 := hcv1 U
                      rw [hsz4] at hcv2
                      have hA5 := hA4.alloc (.cells #[.int .u8 (c.toNat : Int)] 5)
                      have hB5 := hB4.alloc (.cells #[.int .u8 (c.toNat : Int)] 5)
                      have hb5 := bel_alloc hb4 (.cells #[.int .u8 (c.toNat : Int)] 5)
                      have hLa5 := hLa4.after (bel_alloc (Below.refl U.heap.size U) (.cells #[.int .u8 (c.toNat : Int)] 5))
                      have hLb5 := hLb4.after (bel_alloc (Below.refl U.heap.size U) (.cells #[.int .u8 (c.toNat : Int)] 5))
                      clear hA4 hB4 hb4 hLa4 hLb4
                      have hC2 : (C ++ C).size ≤ 1048576 := by rw [ByteArray.size_append]; omega
                      have m1 := patMatch_is X1 (by omega) (.slice a1 6 p1) (rp 6) C (by omega)
                      rw [HX1.out, hC, pat_p nmore33 nlo93 nlo45 nhi93] at m1
                      have m2 := patMatch_is X2 (by omega) (.slice a2 7 p2) (rp 7) C (by omega)
                      rw [HX2.out, hC, pat_q nlo93 nlo45 nhi93] at m2
                      have m3 := patMatch_is X1 (by omega) (.slice a1 6 p1) (rp 6) (C ++ C) hC2
                      rw [HX1.out, show (C ++ C).data.toList = [c, c] from by simp [ByteArray.data_append, hC], pat_pp nmore33 nlo93 nlo45 nhi93] at m3
                      have m4 := patMatch_is X2 (by omega) (.slice a2 7 p2) (rp 7) ⟨#[]⟩ (by decide)
                      rw [HX2.out, show (⟨#[]⟩ : ByteArray).data.toList = [] from rfl, pat_qe nlo93 nlo45 nhi93] at m4
                      have m5 := patActive_is X1 (by omega) (.slice a1 6 p1) (rp 6)
                      rw [HX1.out, act_p nmore33 nlo93 nhi93] at m5
                      have m6 := patActive_is X2 (by omega) (.slice a2 7 p2) (rp 7)
                      rw [HX2.out, act_q nlo93 nhi93] at m6
                      rw [HI.out] at m1 m2
                      unfold patV at m1 m2 m3 m4 m5 m6
                      have M1 := Lib.hid m1
                      have M2 := Lib.hid m2
                      have M3 := Lib.hid m3
                      have M4 := Lib.hid m4
                      have M5 := Lib.hid m5
                      have M6 := Lib.hid m6
                      clear m1 m2 m3 m4 m5 m6 hC2
                      have d0 := hA5.cell 0 (v := .string X1) rfl
                      have d1 := hA5.cell 1 (v := .slice a1 6 p1) rfl
                      go_wp2_with fail
                      clear d0 d1
                      refine (M1.out _ hLa5).mono ?_
                      rintro e x5 ⟨rfl, j5⟩
                      have hA6 := hA5.after j5
                      have hB6 := hB5.after j5
                      have hLa6 := hLa5.after j5
                      have hLb6 := hLb5.after j5
                      have hb6 := bel_step hb5 j5
                      clear hA5 hB5 hLa5 hLb5 hb5 j5
                      have d0 := hB6.cell 0 (v := .string X2) rfl
                      have d1 := hB6.cell 1 (v := .slice a2 7 p2) rfl
                      go_wp2_with fail
                      clear d0 d1
                      refine (M2.out _ hLb6).mono ?_
                      rintro e x6 ⟨rfl, j6⟩
                      have hA7 := hA6.after j6
                      have hB7 := hB6.after j6
                      have hLa7 := hLa6.after j6
                      have hLb7 := hLb6.after j6
                      have hb7 := bel_step hb6 j6
                      clear hA6 hB6 hLa6 hLb6 hb6 j6
                      have d0 := hA7.cell 0 (v := .string X1) rfl
                      have d1 := hA7.cell 1 (v := .slice a1 6 p1) rfl
                      go_wp2_with fail
                      clear d0 d1
                      refine (M3.out _ hLa7).mono ?_
                      rintro e x7 ⟨rfl, j7⟩
                      have hA8 := hA7.after j7
                      have hB8 := hB7.after j7
                      have hLa8 := hLa7.after j7
                      have hLb8 := hLb7.after j7
                      have hb8 := bel_step hb7 j7
                      clear hA7 hB7 hLa7 hLb7 hb7 j7
                      have d0 := hB8.cell 0 (v := .string X2) rfl
                      have d1 := hB8.cell 1 (v := .slice a2 7 p2) rfl
                      go_wp2_with fail
                      clear d0 d1
                      refine (M4.out _ hLb8).mono ?_
                      rintro e x8 ⟨rfl, j8⟩
                      have hA9 := hA8.after j8
                      have hB9 := hB8.after j8
                      have hLa9 := hLa8.after j8
                      have hLb9 := hLb8.after j8
                      have hb9 := bel_step hb8 j8
                      clear hA8 hB8 hLa8 hLb8 hb8 j8
                      have d0 := hA9.cell 0 (v := .string X1) rfl
                      have d1 := hA9.cell 1 (v := .slice a1 6 p1) rfl
                      go_wp2_with fail
                      clear d0 d1
                      refine (M5.out _ hLa9).mono ?_
                      rintro e x9 ⟨rfl, j9⟩
                      have hA10 := hA9.after j9
                      have hB10 := hB9.after j9
                      have hLa10 := hLa9.after j9
                      have hLb10 := hLb9.after j9
                      have hb10 := bel_step hb9 j9
                      clear hA9 hB9 hLa9 hLb9 hb9 j9
                      have d0 := hB10.cell 0 (v := .string X2) rfl
                      have d1 := hB10.cell 1 (v := .slice a2 7 p2) rfl
                      go_wp2_with fail
                      clear d0 d1
                      refine (M6.out _ hLb10).mono ?_
                      rintro e x10 ⟨rfl, j10⟩
                      have hA11 := hA10.after j10
                      have hB11 := hB10.after j10
                      have hLa11 := hLa10.after j10
                      have hLb11 := hLb10.after j10
                      have hb11 := bel_step hb10 j10
                      clear hA10 hB10 hLa10 hLb10 hb10 j10
                      go_wp2_with fail
                      refine (HW.out _).mono ?_
                      rintro e v9 ⟨rfl, j9⟩
                      go_wp2
                      go_ret
                      exact ⟨rfl, bel_step hb11 j9⟩
                  · obtain rfl : y = false := by rw [← hy]; unfold inB; simp [k1, k2]
                    have HI0 := Lib.hid hy
                    clear hy k1
                    have HI : Hid (inB lo hi more c = false) := HI0
                    clear HI0
                    go_wp2_with fail
                    refine (HR1.out _).mono ?_
                    rintro e z1 ⟨L1, v1, rfl, hL1, hv1, jz1, _⟩
                    obtain rfl : v1 = rp 6 := hv1.trans (by rw [HS1.out]; rfl)
                    go_wp2_with fail
                    refine (HR2.out _).mono ?_
                    rintro e z2 ⟨L2, v2, rfl, hL2, hv2, jz2, _⟩
                    obtain rfl : v2 = rp 7 := hv2.trans (by rw [HS2.out]; rfl)
                    have hL1' := hL1.after jz2
                    have hbz := bel_step (bel_step (bel_alloc (Below.refl w.heap.size w) _) jz1) jz2
                    clear jz1 jz2 hL1
                    obtain ⟨a1, p1, hLL1, _, _⟩ := id hL1'
                    obtain ⟨a2, p2, hLL2, _, _⟩ := id hL2
                    subst hLL1
                    subst hLL2
                    unfold patV
                    rw [show (rp 6).length = 6 from rfl] at hL1' ⊢
                    rw [show (rp 7).length = 7 from rfl] at hL2 ⊢
                    have hA3 := BlkAt.new z2 #[.string X1, .slice a1 6 p1] 25
                    have hB4 := BlkAt.new_at (z2.alloc (.cells #[.string X1, .slice a1 6 p1] 25)) #[.string X2, .slice a2 7 p2] 25 (z2.heap.size + 1) (by simp)
                    have hA4 := hA3.alloc (.cells #[.string X2, .slice a2 7 p2] 25)
                    have hb4 := bel_alloc (bel_alloc hbz (.cells #[.string X1, .slice a1 6 p1] 25)) (.cells #[.string X2, .slice a2 7 p2] 25)
                    have hLa4 := (hL1'.after (bel_alloc (Below.refl z2.heap.size z2) (.cells #[.string X1, .slice a1 6 p1] 25))).after (bel_alloc (Below.refl _ _) (.cells #[.string X2, .slice a2 7 p2] 25))
                    have hLb4 := (hL2.after (bel_alloc (Below.refl z2.heap.size z2) (.cells #[.string X1, .slice a1 6 p1] 25))).after (bel_alloc (Below.refl _ _) (.cells #[.string X2, .slice a2 7 p2] 25))
                    have hsz4 : ((z2.alloc (.cells #[.string X1, .slice a1 6 p1] 25)).alloc (.cells #[.string X2, .slice a2 7 p2] 25)).heap.size = z2.heap.size + 1 + 1 := by simp
                    obtain ⟨U, hU⟩ : ∃ U, (z2.alloc (.cells #[.string X1, .slice a1 6 p1] 25)).alloc (.cells #[.string X2, .slice a2 7 p2] 25) = U := ⟨_, rfl⟩
                    rw [hU] at hA4 hB4 hb4 hLa4 hLb4 hsz4
                    have HU := Lib.hid hU
                    clear hU hA3 hL1' hL2 hbz
                    go_upto_region 6 with fail
                    rw [HU.out]
                    clear HU
                    have hcv2 := hcv1 U
                    rw [hsz4] at hcv2
                    have hA5 := hA4.alloc (.cells #[.int .u8 (c.toNat : Int)] 5)
                    have hB5 := hB4.alloc (.cells #[.int .u8 (c.toNat : Int)] 5)
                    have hb5 := bel_alloc hb4 (.cells #[.int .u8 (c.toNat : Int)] 5)
                    have hLa5 := hLa4.after (bel_alloc (Below.refl U.heap.size U) (.cells #[.int .u8 (c.toNat : Int)] 5))
                    have hLb5 := hLb4.after (bel_alloc (Below.refl U.heap.size U) (.cells #[.int .u8 (c.toNat : Int)] 5))
                    clear hA4 hB4 hb4 hLa4 hLb4
                    have hC2 : (C ++ C).size ≤ 1048576 := by rw [ByteArray.size_append]; omega
                    have m1 := patMatch_is X1 (by omega) (.slice a1 6 p1) (rp 6) C (by omega)
                    rw [HX1.out, hC, pat_p nmore33 nlo93 nlo45 nhi93] at m1
                    have m2 := patMatch_is X2 (by omega) (.slice a2 7 p2) (rp 7) C (by omega)
                    rw [HX2.out, hC, pat_q nlo93 nlo45 nhi93] at m2
                    have m3 := patMatch_is X1 (by omega) (.slice a1 6 p1) (rp 6) (C ++ C) hC2
                    rw [HX1.out, show (C ++ C).data.toList = [c, c] from by simp [ByteArray.data_append, hC], pat_pp nmore33 nlo93 nlo45 nhi93] at m3
                    have m4 := patMatch_is X2 (by omega) (.slice a2 7 p2) (rp 7) ⟨#[]⟩ (by decide)
                    rw [HX2.out, show (⟨#[]⟩ : ByteArray).data.toList = [] from rfl, pat_qe nlo93 nlo45 nhi93] at m4
                    have m5 := patActive_is X1 (by omega) (.slice a1 6 p1) (rp 6)
                    rw [HX1.out, act_p nmore33 nlo93 nhi93] at m5
                    have m6 := patActive_is X2 (by omega) (.slice a2 7 p2) (rp 7)
                    rw [HX2.out, act_q nlo93 nhi93] at m6
                    rw [HI.out] at m1 m2
                    unfold patV at m1 m2 m3 m4 m5 m6
                    have M1 := Lib.hid m1
                    have M2 := Lib.hid m2
                    have M3 := Lib.hid m3
                    have M4 := Lib.hid m4
                    have M5 := Lib.hid m5
                    have M6 := Lib.hid m6
                    clear m1 m2 m3 m4 m5 m6 hC2
                    have d0 := hA5.cell 0 (v := .string X1) rfl
                    have d1 := hA5.cell 1 (v := .slice a1 6 p1) rfl
                    go_wp2_with fail
                    clear d0 d1
                    refine (M1.out _ hLa5).mono ?_
                    rintro e x5 ⟨rfl, j5⟩
                    have hA6 := hA5.after j5
                    have hB6 := hB5.after j5
                    have hLa6 := hLa5.after j5
                    have hLb6 := hLb5.after j5
                    have hb6 := bel_step hb5 j5
                    clear hA5 hB5 hLa5 hLb5 hb5 j5
                    have d0 := hB6.cell 0 (v := .string X2) rfl
                    have d1 := hB6.cell 1 (v := .slice a2 7 p2) rfl
                    go_wp2_with fail
                    clear d0 d1
                    refine (M2.out _ hLb6).mono ?_
                    rintro e x6 ⟨rfl, j6⟩
                    have hA7 := hA6.after j6
                    have hB7 := hB6.after j6
                    have hLa7 := hLa6.after j6
                    have hLb7 := hLb6.after j6
                    have hb7 := bel_step hb6 j6
                    clear hA6 hB6 hLa6 hLb6 hb6 j6
                    have d0 := hA7.cell 0 (v := .string X1) rfl
                    have d1 := hA7.cell 1 (v := .slice a1 6 p1) rfl
                    go_wp2_with fail
                    clear d0 d1
                    refine (M3.out _ hLa7).mono ?_
                    rintro e x7 ⟨rfl, j7⟩
                    have hA8 := hA7.after j7
                    have hB8 := hB7.after j7
                    have hLa8 := hLa7.after j7
                    have hLb8 := hLb7.after j7
                    have hb8 := bel_step hb7 j7
                    clear hA7 hB7 hLa7 hLb7 hb7 j7
                    have d0 := hB8.cell 0 (v := .string X2) rfl
                    have d1 := hB8.cell 1 (v := .slice a2 7 p2) rfl
                    go_wp2_with fail
                    clear d0 d1
                    refine (M4.out _ hLb8).mono ?_
                    rintro e x8 ⟨rfl, j8⟩
                    have hA9 := hA8.after j8
                    have hB9 := hB8.after j8
                    have hLa9 := hLa8.after j8
                    have hLb9 := hLb8.after j8
                    have hb9 := bel_step hb8 j8
                    clear hA8 hB8 hLa8 hLb8 hb8 j8
                    have d0 := hA9.cell 0 (v := .string X1) rfl
                    have d1 := hA9.cell 1 (v := .slice a1 6 p1) rfl
                    go_wp2_with fail
                    clear d0 d1
                    refine (M5.out _ hLa9).mono ?_
                    rintro e x9 ⟨rfl, j9⟩
                    have hA10 := hA9.after j9
                    have hB10 := hB9.after j9
                    have hLa10 := hLa9.after j9
                    have hLb10 := hLb9.after j9
                    have hb10 := bel_step hb9 j9
                    clear hA9 hB9 hLa9 hLb9 hb9 j9
                    have d0 := hB10.cell 0 (v := .string X2) rfl
                    have d1 := hB10.cell 1 (v := .slice a2 7 p2) rfl
                    go_wp2_with fail
                    clear d0 d1
                    refine (M6.out _ hLb10).mono ?_
                    rintro e x10 ⟨rfl, j10⟩
                    have hA11 := hA10.after j10
                    have hB11 := hB10.after j10
                    have hLa11 := hLa10.after j10
                    have hLb11 := hLb10.after j10
                    have hb11 := bel_step hb10 j10
                    clear hA10 hB10 hLa10 hLb10 hb10 j10
                    go_wp2_with fail
                    refine (HW.out _).mono ?_
                    rintro e v9 ⟨rfl, j9⟩
                    go_wp2
                    go_ret
                    exact ⟨rfl, bel_step hb11 j9⟩

theorem PatBrackets_walk (lo hi more c : Int) (w : World) (l0 : 0 ≤ lo) (l1 : lo ≤ 255) (h0 : 0 ≤ hi) (h1 : hi ≤ 255) (m0 : 0 ≤ more) (m1 : more ≤ 255) (c0 : 0 ≤ c) (c1 : c ≤ 255) : Calls Try.prog 7 #[.int .u8 lo, .int .u8 hi, .int .u8 more, .int .u8 c] w (Gives w (.bool true)) := by
  obtain ⟨a, rfl⟩ : ∃ a : UInt8, lo = (a.toNat : Int) := ⟨UInt8.ofNat lo.toNat, by simp [UInt8.toNat_ofNat']; omega⟩
  obtain ⟨b, rfl⟩ : ∃ a : UInt8, hi = (a.toNat : Int) := ⟨UInt8.ofNat hi.toNat, by simp [UInt8.toNat_ofNat']; omega⟩
  obtain ⟨d, rfl⟩ : ∃ a : UInt8, more = (a.toNat : Int) := ⟨UInt8.ofNat more.toNat, by simp [UInt8.toNat_ofNat']; omega⟩
  obtain ⟨e, rfl⟩ : ∃ a : UInt8, c = (a.toNat : Int) := ⟨UInt8.ofNat c.toNat, by simp [UInt8.toNat_ofNat']; omega⟩
  exact PatBrackets_go a b d e w
end Go.Proofs.Ytmpneifjjnfckaa
