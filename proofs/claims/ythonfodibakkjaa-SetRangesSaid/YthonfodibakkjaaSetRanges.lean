/-
  The walk of conchlaw3.SetRanges.
-/
import Derived.Test.YthonfodibakkjaaSetAwake
import Derived.Test.YthonfodibakkjaaBits
namespace Go.Proofs.Ythonfodibakkjaa
open Go.RowKit

theorem rangeS_nat (lo hi c : Nat) (hl : lo ≤ 255) (hh : hi ≤ 255) : rangeS (lo : Int) (hi : Int) c = (decide (lo ≤ c) && decide (c ≤ hi)) := by
  unfold rangeS
  rw [heldI_in lo hl, heldI_in hi hh, Bool.eq_iff_iff]
  simp only [Bool.and_eq_true, decide_eq_true_eq]
  omega

theorem countP_none (f : Nat → Bool) (n : Nat) (h : ∀ j, j < n → f j = false) : (List.range n).countP f = 0 := by
  rw [countP_range_congr f (fun _ => false) n h]; simp
theorem countP_every (f : Nat → Bool) (n : Nat) (h : ∀ j, j < n → f j = true) : (List.range n).countP f = n := by
  rw [countP_range_congr f (fun _ => true) n h]; simp

theorem cnt_range (lo hi : Nat) (h : lo ≤ hi) (hh : hi ≤ 255) : cntS (rangeS (lo : Int) (hi : Int)) = hi - lo + 1 := by
  unfold cntS
  rw [show 256 = lo + ((hi - lo + 1) + (255 - hi)) by omega, countP_range_add, countP_range_add, countP_none _ lo, countP_every _ (hi - lo + 1), countP_none _ (255 - hi)]
  · omega
  · intro j hj
    rw [rangeS_nat lo hi _ (by omega) hh, decide_eq_false (show ¬ lo + (hi - lo + 1 + j) ≤ hi by omega), Bool.and_false]
  · intro j hj
    rw [rangeS_nat lo hi _ (by omega) hh, decide_eq_true (show lo ≤ lo + j by omega), decide_eq_true (show lo + j ≤ hi by omega)]; rfl
  · intro j hj
    rw [rangeS_nat lo hi _ (by omega) hh, decide_eq_false (show ¬ lo ≤ j by omega), Bool.false_and]

theorem cnt_cross (lo hi : Nat) (h : hi < lo) : cntS (rangeS (lo : Int) (hi : Int)) = 0 :=
  countP_none _ _ fun j _ => by unfold rangeS; rw [decide_eq_false (by omega), Bool.false_and]

theorem range_join (l m h : Nat) (hm : l ≤ m) (hh : m ≤ h) (h5 : h ≤ 255) : sameS (orS (rangeS (l : Int) (m : Int)) (rangeS (m : Int) (h : Int))) (rangeS (l : Int) (h : Int)) = true :=
  sameS_of fun c _ => by
    unfold orS
    rw [rangeS_nat l m c (by omega) (by omega), rangeS_nat m h c (by omega) h5, rangeS_nat l h c (by omega) h5, Bool.eq_iff_iff]
    simp only [Bool.or_eq_true, Bool.and_eq_true, decide_eq_true_eq]
    omega

theorem run_min3 {P : Program} (w : World) (ts : Array TypeId) (t : TypeId) (k : IntKind) (x y z : Int) :
    (Builtin.min_ ts t #[.int k x, .int k y, .int k z]).run P w = .ok (.int k (min (min x y) z)) w := by
  have e : ∀ x y : Int, (if y < x then y else x) = min x y := fun x y => by
    rw [Int.min_def]
    split <;> split <;> omega
  simp [Builtin.min_, Builtin.min2, e]
theorem run_max3 {P : Program} (w : World) (ts : Array TypeId) (t : TypeId) (k : IntKind) (x y z : Int) :
    (Builtin.max_ ts t #[.int k x, .int k y, .int k z]).run P w = .ok (.int k (max (max x y) z)) w := by
  have e : ∀ x y : Int, (if y > x then y else x) = max x y := fun x y => by
    rw [Int.max_def]
    split <;> split <;> omega
  simp [Builtin.max_, Builtin.max2, e]

set_option maxHeartbeats 4000000 in
set_option maxRecDepth 100000 in
theorem SetRanges_walk (a b c : Int) (w : World) : Calls Try.prog 3 #[.int .i64 a, .int .i64 b, .int .i64 c] w (Gives w (.bool true)) := by
  have ma := and_mask_le a 8 (by decide) 255 rfl
  have mb := and_mask_le b 8 (by decide) 255 rfl
  have mc := and_mask_le c 8 (by decide) 255 rfl
  obtain ⟨A, hA⟩ : ∃ A : Nat, bits .and .i64 a 255 = (A : Int) := ⟨(bits .and .i64 a 255).toNat, by omega⟩
  obtain ⟨B, hB⟩ : ∃ A : Nat, bits .and .i64 b 255 = (A : Int) := ⟨(bits .and .i64 b 255).toNat, by omega⟩
  obtain ⟨C, hC⟩ : ∃ A : Nat, bits .and .i64 c 255 = (A : Int) := ⟨(bits .and .i64 c 255).toNat, by omega⟩
  rw [hA] at ma
  rw [hB] at mb
  rw [hC] at mc
  obtain ⟨lo, hlo⟩ : ∃ n : Nat, min (A : Int) (B : Int) = (n : Int) := ⟨min A B, by omega⟩
  obtain ⟨hi, hhi⟩ : ∃ n : Nat, max (A : Int) (B : Int) = (n : Int) := ⟨max A B, by omega⟩
  obtain ⟨l, hl⟩ : ∃ n : Nat, min (lo : Int) (C : Int) = (n : Int) := ⟨min lo C, by omega⟩
  obtain ⟨h, hh⟩ : ∃ n : Nat, max (hi : Int) (C : Int) = (n : Int) := ⟨max hi C, by omega⟩
  obtain ⟨m, hm⟩ : ∃ n : Nat, (A : Int) + B + C - l - h = (n : Int) := ⟨A + B + C - l - h, by omega⟩
  have q1 : lo ≤ hi := by omega
  have q2 : hi ≤ 255 := by omega
  have q3 : l ≤ m := by omega
  have q4 : m ≤ h := by omega
  have q5 : h ≤ 255 := by omega
  have q6 : A = B ∨ (¬ A = B ∧ lo < hi) := by omega
  have R0 := Lib.hid (Range_is lo hi)
  have R1 := Lib.hid (Range_is l m)
  have R2 := Lib.hid (Range_is m h)
  have R3 := Lib.hid (Range_is l h)
  have R4 := Lib.hid (Range_is hi lo)
  have O := Lib.hid (Or_is (rangeS (l : Int) (m : Int)) (rangeS (m : Int) (h : Int)))
  have hE := run_eq_set (orS (rangeS (l : Int) (m : Int)) (rangeS (m : Int) (h : Int))) (rangeS (l : Int) (h : Int))
  rw [range_join l m h q3 q4 q5] at hE
  have HC := Lib.hid (Count_is (rangeS (lo : Int) (hi : Int)))
  obtain ⟨n, hn⟩ : ∃ n : Nat, (hi : Int) - (lo : Int) + 1 = (n : Int) := ⟨hi - lo + 1, by omega⟩
  rw [cnt_range lo hi q1 q2, show hi - lo + 1 = n by omega] at HC
  have HN : Hid (lo < hi → cntS (rangeS (hi : Int) (lo : Int)) = 0) := Lib.hid fun q => (cnt_cross hi lo q)
  have HD := Lib.hid (Count_is (rangeS (hi : Int) (lo : Int)))
  have HH := Lib.hid (Has_is (rangeS (lo : Int) (hi : Int)))
  have HV := Lib.hid (fun k => rangeS_nat lo hi k (by omega) q2)
  have HW := Lib.hid (fun w => SetAt.new w (rangeS (lo : Int) (hi : Int)))
  unfold setV at R0 R1 R2 R3 R4 O hE HC HD HH
  go_enter Try.func3, Try.ntmps3
  go_wp2_with fail
  refine (R0.out _).mono ?_
  rintro e w1 ⟨rfl, hb1⟩
  have hr1 := Lib.hid (HW.out w1)
  have hbA := Lib.hid (bel_alloc hb1 (.cells #[.int .u64 (wd (rangeS (lo : Int) (hi : Int)) 0 : Nat), .int .u64 (wd (rangeS (lo : Int) (hi : Int)) 1 : Nat), .int .u64 (wd (rangeS (lo : Int) (hi : Int)) 2 : Nat), .int .u64 (wd (rangeS (lo : Int) (hi : Int)) 3 : Nat)] 24))
  clear hb1 R0 HW
  go_wp2
  go_loopw [8] (fun i wr => ∃ k : Nat, k ≤ 256 ∧ i = .int .i64 k ∧ SetAt wr w1.heap.size (rangeS (lo : Int) (hi : Int)) ∧ Below w.heap.size w wr) (fun i _ => 256 - (intOf i).toNat)
  case atStart => exact ⟨0, by omega, rfl, hr1.out, hbA.out⟩
  case round =>
    obtain ⟨k, hk, rfl, hs, hb⟩ := hrel
    obtain ⟨c0, c1, c2, c3⟩ := hs.cells
    by_cases hk2 : k < 256
    · have hk3 : (k : Int) ≤ 255 := by omega
      have HK := Lib.hid (HH.out k hk2)
      clear HH R1 R2 R3 R4 O hE HC HD
      by_cases h1 : lo ≤ k
      · by_cases h2 : k ≤ hi
        · rw [HV.out k, decide_eq_true h1, decide_eq_true h2] at HK
          go_wp2_with fail
          refine (HK.out _).mono ?_
          rintro e w2 ⟨rfl, hb2⟩
          go_wp2
          go_round
          case rel => exact ⟨k + 1, by omega, rfl, hs.after hb2, bel_step hb hb2⟩
          case measure => simp [intOf]; omega
        · rw [HV.out k, decide_eq_true h1, decide_eq_false h2] at HK
          go_wp2_with fail
          refine (HK.out _).mono ?_
          rintro e w2 ⟨rfl, hb2⟩
          go_wp2
          go_round
          case rel => exact ⟨k + 1, by omega, rfl, hs.after hb2, bel_step hb hb2⟩
          case measure => simp [intOf]; omega
      · rw [HV.out k, decide_eq_false h1] at HK
        go_wp2_with fail
        refine (HK.out _).mono ?_
        rintro e w2 ⟨rfl, hb2⟩
        go_wp2
        go_round
        case rel => exact ⟨k + 1, by omega, rfl, hs.after hb2, bel_step hb hb2⟩
        case measure => simp [intOf]; omega
    · clear HH HV
      have hn3 := fun w : World => run_min3 (P := Try.prog) w #[3, 3, 3] 3 .i64 A B C
      have hx3 := fun w : World => run_max3 (P := Try.prog) w #[3, 3, 3] 3 .i64 A B C
      rw [hlo, hl] at hn3
      rw [hhi, hh] at hx3
      go_wp2_with fail
      refine (R1.out _).mono ?_
      rintro e w2 ⟨rfl, hb2⟩
      go_wp2_with fail
      refine (R2.out _).mono ?_
      rintro e w3 ⟨rfl, hb3⟩
      go_wp2_with fail
      refine (O.out _).mono ?_
      rintro e w4 ⟨rfl, hb4⟩
      go_wp2_with fail
      refine (R3.out _).mono ?_
      rintro e w5 ⟨rfl, hb5⟩
      have hs5 := (((hs.after hb2).after hb3).after hb4).after hb5
      obtain ⟨d0, d1, d2, d3⟩ := hs5.cells
      have hB5 := Lib.hid (bel_step (bel_step (bel_step (bel_step hb hb2) hb3) hb4) hb5)
      clear hb2 hb3 hb4 hb5
      go_wp2_with fail
      refine (HC.out _).mono ?_
      rintro e w6 ⟨rfl, hb6⟩
      rcases q6 with q | ⟨q, q7⟩
      · go_wp2_with fail
        refine (awake_is _).mono ?_
        rintro e w7 ⟨rfl, hb7⟩
        go_wp2
        go_ret
        exact ⟨rfl, bel_step (bel_step hB5.out hb6) hb7⟩
      · rw [HN.out q7] at HD
        go_wp2_with fail
        refine (R4.out _).mono ?_
        rintro e w7 ⟨rfl, hb7⟩
        go_wp2_with fail
        refine (HD.out _).mono ?_
        rintro e w8 ⟨rfl, hb8⟩
        go_wp2_with fail
        refine (awake_is _).mono ?_
        rintro e w9 ⟨rfl, hb9⟩
        go_wp2
        go_ret
        exact ⟨rfl, bel_step (bel_step (bel_step (bel_step hB5.out hb6) hb7) hb8) hb9⟩
end Go.Proofs.Ythonfodibakkjaa
