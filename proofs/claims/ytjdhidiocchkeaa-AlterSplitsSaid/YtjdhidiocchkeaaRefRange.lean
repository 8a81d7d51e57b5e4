/-
  Contracts of the document's answer on sets (conchref1: Range), over the translation: each returns what the plain functions of SetPlain say.
-/
import Derived.Test.YtjdhidiocchkeaaRefSet
namespace Go.Proofs.Ytjdhidiocchkeaa
open Go.RowKit

theorem refRange_end (lo hi : Int) (c : Nat) (hc : c < 256) (p : Nat → Bool) (hp : ∀ d, p d = (decide (d < 256) && (decide (max lo 0 ≤ (d : Int)) && decide ((d : Int) ≤ hi)))) :
    (lo ≤ hi → hi < 0 → putS p 0 c = rangeS lo hi c) ∧ (lo ≤ hi → ¬ hi < 0 → 255 < lo → putS p 255 c = rangeS lo hi c) ∧ (¬ (lo ≤ hi ∧ hi < 0) → ¬ (lo ≤ hi ∧ 255 < lo) → p c = rangeS lo hi c) := by
  unfold putS rangeS heldI
  rw [hp]
  refine ⟨fun h1 h2 => ?_, fun h1 h2 h3 => ?_, fun h1 h2 => ?_⟩ <;> rw [Bool.eq_iff_iff] <;> simp only [Bool.or_eq_true, Bool.and_eq_true, decide_eq_true_eq] <;> omega

set_option maxHeartbeats 4000000 in
set_option maxRecDepth 100000 in
theorem refRange_is (lo hi : Int) (w : World) :
    Calls Try.prog 73 #[.int .i64 lo, .int .i64 hi] w (Gives w (setV (rangeS lo hi))) := by
  go_enter Try.func73, Try.ntmps73
  go_wp2
  go_loopw [6] (fun i wr => ∃ (k : Nat) (p : Nat → Bool), k ≤ 256 ∧ i = .int .i64 k ∧ SetAt wr (w.heap.size + 1) p ∧ SetAt wr w.heap.size noS ∧ Below w.heap.size w wr ∧ Hid (∀ c, p c = (decide (c < k) && (decide (max lo 0 ≤ (c : Int)) && decide ((c : Int) ≤ hi))))) (fun i _ => 256 - (intOf i).toNat)
  case atStart =>
    have h1 := SetAt.zero (w.alloc (.cells #[.int .u64 0, .int .u64 0, .int .u64 0, .int .u64 0] 24))
    simp at h1
    exact ⟨0, noS, Nat.zero_le _, rfl, h1, (SetAt.zero w).alloc _, bel_alloc (bel_alloc (Below.refl _ _) _) _, Lib.hid fun c => by simp [noS]⟩
  case round =>
    obtain ⟨k, p, hk, rfl, hp, hz, hb, HP⟩ := hrel
    obtain ⟨c0, c1, c2, c3⟩ := hp.cells
    have hbs := hb.size
    by_cases hk2 : k < 256
    · have hW := refWith_is p k hk2
      unfold setV at hW
      have HW := Lib.hid hW
      clear hW
      by_cases hin : max lo 0 ≤ (k : Int) ∧ (k : Int) ≤ hi
      · obtain ⟨h1, h2⟩ := hin
        go_wp2_with fail
        refine (HW.out _).mono ?_
        rintro e w1 ⟨rfl, hb1⟩
        have hp1 := SetAt.after hp hb1
        have hz1 := SetAt.after hz hb1
        obtain ⟨d0, d1, d2, d3⟩ := hp1.cells
        have g0 := hp1.frozen 0
        have g1 := hp1.frozen 1
        have g2 := hp1.frozen 2
        have g3 := hp1.frozen 3
        go_wp2
        go_round
        case rel =>
          refine ⟨k + 1, putS p k, by omega, rfl, hp1.put _, (((hz1.far (by simp) _).far (by simp) _).far (by simp) _).far (by simp) _, bel_set (bel_set (bel_set (bel_set (bel_step hb hb1) _ (by simp) _) _ (by simp) _) _ (by simp) _) _ (by simp) _, Lib.hid fun c => ?_⟩
          unfold putS
          rw [HP.out, Bool.eq_iff_iff]
          simp only [Bool.or_eq_true, Bool.and_eq_true, decide_eq_true_eq]
          omega
        case measure => simp [intOf]; omega
      · have HN : Hid (¬ (max lo 0 ≤ (k : Int) ∧ (k : Int) ≤ hi)) := Lib.hid hin
        by_cases h1 : max lo 0 ≤ (k : Int)
        · have h2 : ¬ (k : Int) ≤ hi := fun h => hin ⟨h1, h⟩
          clear hin
          go_wp2
          go_round
          case rel =>
            refine ⟨k + 1, p, by omega, rfl, hp, hz, hb, Lib.hid fun c => ?_⟩
            rw [HP.out, Bool.eq_iff_iff]
            simp only [Bool.and_eq_true, decide_eq_true_eq]
            have := HN.out
            omega
          case measure => simp [intOf]; omega
        · clear hin
          go_wp2
          go_round
          case rel =>
            refine ⟨k + 1, p, by omega, rfl, hp, hz, hb, Lib.hid fun c => ?_⟩
            rw [HP.out, Bool.eq_iff_iff]
            simp only [Bool.and_eq_true, decide_eq_true_eq]
            have := HN.out
            omega
          case measure => simp [intOf]; omega
    · obtain rfl : k = 256 := by omega
      obtain ⟨d0, d1, d2, d3⟩ := hz.cells
      have g0 := hz.frozen 0
      have g1 := hz.frozen 1
      have g2 := hz.frozen 2
      have g3 := hz.frozen 3
      have E := Lib.hid fun c hc => refRange_end lo hi c hc p HP.out
      by_cases h1 : lo ≤ hi
      · by_cases h2 : hi < 0
        · have hW := refWith_is p 0 (by decide)
          unfold setV at hW
          have HW := Lib.hid hW
          clear hW
          go_wp2_with fail
          refine (HW.out _).mono ?_
          rintro e w1 ⟨rfl, hb1⟩
          have hz1 := SetAt.after hz hb1
          obtain ⟨d0, d1, d2, d3⟩ := hz1.cells
          have g0 := hz1.frozen 0
          have g1 := hz1.frozen 1
          have g2 := hz1.frozen 2
          have g3 := hz1.frozen 3
          go_wp2
          refine bodyPost_ret (v := setV (putS p 0)) ?_ rfl ⟨congrArg Ending.returned (setV_congr fun c hc => (E.out c hc).1 h1 h2), bel_set (bel_set (bel_set (bel_set (bel_step hb hb1) _ (by simp) _) _ (by simp) _) _ (by simp) _) _ (by simp) _⟩
          exact results_cell_row rfl _ _ _ _ _ _ _ rfl (hz1.put _) Try.underlying24 rfl (by kernel_rfl)
        · by_cases h3 : 255 < lo
          · have hW := refWith_is p 255 (by decide)
            unfold setV at hW
            have HW := Lib.hid hW
            clear hW
            go_wp2_with fail
            refine (HW.out _).mono ?_
            rintro e w1 ⟨rfl, hb1⟩
            have hz1 := SetAt.after hz hb1
            obtain ⟨d0, d1, d2, d3⟩ := hz1.cells
            have g0 := hz1.frozen 0
            have g1 := hz1.frozen 1
            have g2 := hz1.frozen 2
            have g3 := hz1.frozen 3
            go_wp2
            refine bodyPost_ret (v := setV (putS p 255)) ?_ rfl ⟨congrArg Ending.returned (setV_congr fun c hc => (E.out c hc).2.1 h1 (by omega) h3), bel_set (bel_set (bel_set (bel_set (bel_step hb hb1) _ (by simp) _) _ (by simp) _) _ (by simp) _) _ (by simp) _⟩
            exact results_cell_row rfl _ _ _ _ _ _ _ rfl (hz1.put _) Try.underlying24 rfl (by kernel_rfl)
          · go_wp2
            refine bodyPost_ret (v := setV p) ?_ rfl ⟨congrArg Ending.returned (setV_congr fun c hc => (E.out c hc).2.2 (by omega) (by omega)), bel_set (bel_set (bel_set (bel_set hb _ (by simp) _) _ (by simp) _) _ (by simp) _) _ (by simp) _⟩
            exact results_cell_row rfl _ _ _ _ _ _ _ rfl (hz.put _) Try.underlying24 rfl (by kernel_rfl)
      · go_wp2
        refine bodyPost_ret (v := setV p) ?_ rfl ⟨congrArg Ending.returned (setV_congr fun c hc => (E.out c hc).2.2 (by omega) (by omega)), bel_set (bel_set (bel_set (bel_set hb _ (by simp) _) _ (by simp) _) _ (by simp) _) _ (by simp) _⟩
        exact results_cell_row rfl _ _ _ _ _ _ _ rfl (hz.put _) Try.underlying24 rfl (by kernel_rfl)

end Go.Proofs.Ytjdhidiocchkeaa
