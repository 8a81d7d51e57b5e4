/-
  Contracts of package pat's small functions on sets of bytes: with, without, has.
-/
import Derived.Test.YtmpneifjjnfckaaSetAt
import Derived.Test.YtmpneifjjnfckaaBits
namespace Go.Proofs.Ytmpneifjjnfckaa
open Go.RowKit

/-- p with the bytes from lo to hi -/
def spanS (p : Nat → Bool) (lo hi c : Nat) : Bool := p c || (decide (lo ≤ c) && decide (c ≤ hi))
def notS (p : Nat → Bool) (c : Nat) : Bool := !p c

theorem SetAt.one {w : World} {b : Nat} {p : Nat → Bool} (h : SetAt w b p) (c i : Nat) (hi : c / 64 = i) (hc : c < 256) (t : Nat) (ht : 2 ^ (c % 64) = t) : SetAt (w.setCell ⟨b, i, none⟩ (.int .u64 (wd p i ||| t : Nat))) b (putS p c) := by
  subst ht
  have h4 : i = 0 ∨ i = 1 ∨ i = 2 ∨ i = 3 := by omega
  unfold SetAt at *
  rcases h4 with e | e | e | e <;> subst e
  · rw [wd_put p c 0 hi, wd_put_other p c 1 (by omega), wd_put_other p c 2 (by omega), wd_put_other p c 3 (by omega)]
    simp [World.setCell, Array.getElem?_modify, h]
  · rw [wd_put p c 1 hi, wd_put_other p c 0 (by omega), wd_put_other p c 2 (by omega), wd_put_other p c 3 (by omega)]
    simp [World.setCell, Array.getElem?_modify, h]
  · rw [wd_put p c 2 hi, wd_put_other p c 0 (by omega), wd_put_other p c 1 (by omega), wd_put_other p c 3 (by omega)]
    simp [World.setCell, Array.getElem?_modify, h]
  · rw [wd_put p c 3 hi, wd_put_other p c 0 (by omega), wd_put_other p c 1 (by omega), wd_put_other p c 2 (by omega)]
    simp [World.setCell, Array.getElem?_modify, h]

theorem bit_one (x m : Nat) (hx : x < 18446744073709551616) : (bits .and .u64 ((x : Int) / 2 ^ m) 1 == 1) = x.testBit m := by
  have e : ((x : Int) / 2 ^ m) = ((x / 2 ^ m : Nat) : Int) := by
    rw [Int.natCast_ediv]; simp
  have l : x / 2 ^ m < 18446744073709551616 := Nat.lt_of_le_of_lt (Nat.div_le_self _ _) hx
  rw [e, show (1 : Int) = ((1 : Nat) : Int) from rfl, u64_and_nat (x / 2 ^ m) 1 l (by decide), Nat.testBit_eq_decide_div_mod_eq, Nat.and_one_is_mod, Bool.eq_iff_iff, beq_iff_eq, decide_eq_true_eq]
  exact Int.ofNat_inj

set_option maxHeartbeats 4000000 in
set_option maxRecDepth 100000 in
theorem phas_is (p : Nat → Bool) (c : Nat) (hc : c < 256) (w : World) :
    Calls Try.prog 43 #[setV p, .int .u8 c] w (Gives w (.bool (p c))) := by
  obtain ⟨m, hm⟩ : ∃ m, c % 64 = m := ⟨_, rfl⟩
  have hm2 : m < 64 := by omega
  have ha := and63 c hc
  rw [hm] at ha
  have b := bit_of_wd p c
  rw [hm] at b
  have b0 : Hid (c / 64 = 0 → _) := Lib.hid fun h => by have := bit_one (wd p 0) m (wd_lt p 0); rw [h] at b; rw [← b] at this; exact this
  have b1 : Hid (c / 64 = 1 → _) := Lib.hid fun h => by have := bit_one (wd p 1) m (wd_lt p 1); rw [h] at b; rw [← b] at this; exact this
  have b2 : Hid (c / 64 = 2 → _) := Lib.hid fun h => by have := bit_one (wd p 2) m (wd_lt p 2); rw [h] at b; rw [← b] at this; exact this
  have b3 : Hid (c / 64 = 3 → _) := Lib.hid fun h => by have := bit_one (wd p 3) m (wd_lt p 3); rw [h] at b; rw [← b] at this; exact this
  clear b hm
  have h4 : c / 64 = 0 ∨ c / 64 = 1 ∨ c / 64 = 2 ∨ c / 64 = 3 := by omega
  unfold setV
  generalize wd p 0 = x0 at *
  generalize wd p 1 = x1 at *
  generalize wd p 2 = x2 at *
  generalize wd p 3 = x3 at *
  rcases h4 with h | h | h | h
  · go_enter Try.func43, Try.ntmps43
    go_wp2
    go_ret
    exact ⟨congrArg (fun b => Ending.returned (.bool b)) (b0.out h), bel_alloc (Below.refl _ _) _⟩
  · go_enter Try.func43, Try.ntmps43
    go_wp2
    go_ret
    exact ⟨congrArg (fun b => Ending.returned (.bool b)) (b1.out h), bel_alloc (Below.refl _ _) _⟩
  · go_enter Try.func43, Try.ntmps43
    go_wp2
    go_ret
    exact ⟨congrArg (fun b => Ending.returned (.bool b)) (b2.out h), bel_alloc (Below.refl _ _) _⟩
  · go_enter Try.func43, Try.ntmps43
    go_wp2
    go_ret
    exact ⟨congrArg (fun b => Ending.returned (.bool b)) (b3.out h), bel_alloc (Below.refl _ _) _⟩

theorem wd_not (p : Nat → Bool) (i : Nat) : bits .xor .u64 IntKind.u64.max (wd p i : Nat) = (wd (notS p) i : Nat) := by
  have hl := wd_lt p i
  rw [show IntKind.u64.max = ((18446744073709551615 : Nat) : Int) from rfl, u64_xor_nat _ _ (by decide) hl]
  congr 1
  refine (wd_ext _ _ _ (Nat.xor_lt_two_pow (n := 64) (by decide) hl) fun j hj => ?_).symm
  rw [Nat.testBit_xor, wd_bit, show (18446744073709551615 : Nat) = 2 ^ 64 - 1 from rfl, Nat.testBit_two_pow_sub_one]
  simp [hj, notS]

set_option maxHeartbeats 4000000 in
set_option maxRecDepth 100000 in
theorem pwithout_is (p : Nat → Bool) (w : World) :
    Calls Try.prog 40 #[setV p] w (Gives w (setV (notS p))) := by
  have hsg : IntKind.u64.signed = false := rfl
  have e0 := wd_not p 0
  have e1 := wd_not p 1
  have e2 := wd_not p 2
  have e3 := wd_not p 3
  unfold setV
  generalize wd p 0 = x0 at *
  generalize wd p 1 = x1 at *
  generalize wd p 2 = x2 at *
  generalize wd p 3 = x3 at *
  generalize wd (notS p) 0 = y0 at *
  generalize wd (notS p) 1 = y1 at *
  generalize wd (notS p) 2 = y2 at *
  generalize wd (notS p) 3 = y3 at *
  go_enter Try.func40, Try.ntmps40
  go_wp2
  apply wp_loop_rounds 5
  rw [rounds_succ]
  go_wp2
  rw [rounds_succ]
  go_wp2
  rw [rounds_succ]
  go_wp2
  rw [rounds_succ]
  go_wp2
  rw [rounds_succ]
  go_wp2
  refine bodyPost_ret (v := .agg #[.int .u64 y0, .int .u64 y1, .int .u64 y2, .int .u64 y3]) ?_ rfl ⟨rfl, bel_alloc (bel_alloc (Below.refl _ _) _) _⟩
  simp [results, Try.results40, go_sem]

set_option maxHeartbeats 8000000 in
set_option maxRecDepth 100000 in
theorem pwith_is (p : Nat → Bool) (lo hi : Nat) (hlo : lo < 256) (hhi : hi < 256) (w : World) :
    Calls Try.prog 42 #[setV p, .int .u8 lo, .int .u8 hi] w (Gives w (setV (spanS p lo hi))) := by
  have hA := SetAt.new w p
  have hZ := SetAt.zero (w.alloc (.cells #[.int .u64 (wd p 0 : Nat), .int .u64 (wd p 1 : Nat), .int .u64 (wd p 2 : Nat), .int .u64 (wd p 3 : Nat)] 57))
  have hA1 := hA.alloc (.cells #[.int .u64 0, .int .u64 0, .int .u64 0, .int .u64 0] 57)
  simp only [World.size_alloc] at hZ
  have HA := Lib.hid hA1
  have HZ := Lib.hid hZ
  clear hA hA1 hZ
  obtain ⟨R, hR⟩ : ∃ R, setV (spanS p lo hi) = R := ⟨_, rfl⟩
  rw [hR]
  have HR := Lib.hid hR
  clear hR
  unfold setV
  go_enter Try.func42, Try.ntmps42
  go_wp2
  go_loopw [7] (fun i wr => ∃ (k : Nat) (q : Nat → Bool), lo ≤ k ∧ k ≤ max lo (hi + 1) ∧ i = .int .i64 k ∧ SetAt wr w.heap.size q ∧ SetAt wr (w.heap.size + 1) noS ∧ Below w.heap.size w wr ∧ Hid (∀ c, q c = (p c || (decide (lo ≤ c) && decide (c < k))))) (fun i _ => 257 - (intOf i).toNat)
  case atStart =>
    exact ⟨lo, p, Nat.le_refl _, by omega, rfl, HA.out, HZ.out, bel_alloc (bel_alloc (Below.refl _ _) _) _, Lib.hid fun c => by
      by_cases hc : lo ≤ c
      · rw [decide_eq_false (show ¬ c < lo by omega), Bool.and_false, Bool.or_false]
      · rw [decide_eq_false hc, Bool.false_and, Bool.or_false]⟩
  case round =>
    obtain ⟨k, q, hlk, hkr, rfl, hp, hz, hb, HP⟩ := hrel
    clear HA HZ
    by_cases hk : k ≤ hi
    · obtain ⟨c0, c1, c2, c3⟩ := hp.cells
      have f0 := hp.frozen 0
      have f1 := hp.frozen 1
      have f2 := hp.frozen 2
      have f3 := hp.frozen 3
      have HN : Hid (∀ c, putS q k c = (p c || (decide (lo ≤ c) && decide (c < k + 1)))) := Lib.hid fun c => by
        unfold putS
        rw [HP.out]
        by_cases h1 : c = k
        · subst h1; simp [hlk]
        · have h2 : (c < k + 1) = (c < k) := by apply propext; omega
          simp [h1, h2]
      obtain ⟨m, hm⟩ : ∃ m, k % 64 = m := ⟨_, rfl⟩
      have hm2 : m < 64 := by omega
      obtain ⟨t, ht⟩ : ∃ t, 2 ^ m = t := ⟨_, rfl⟩
      have lt : t < 18446744073709551616 := ht ▸ (Nat.pow_lt_pow_right (by decide) hm2 : 2 ^ m < 2 ^ 64)
      have ha : bits .and .i64 (k : Int) 63 = (m : Int) := by
        rw [and_mask (k : Int) 6 (by decide) 63 rfl]
        omega
      have hs : IntKind.u64.wrap ((2 : Int) ^ m) = (t : Int) := by
        have := u64_wrap_in t lt
        rw [← ht] at this ⊢
        simpa using this
      have HM := Lib.hid hm
      have HT := Lib.hid ht
      clear hm ht
      have h4 : k / 64 = 0 ∨ k / 64 = 1 ∨ k / 64 = 2 ∨ k / 64 = 3 := by omega
      have hki : (k : Int) ≤ (hi : Int) := by omega
      rcases h4 with hk4 | hk4 | hk4 | hk4
      · have cc : wr.cell? ⟨w.heap.size, 0, none⟩ = some (.int .u64 (wd q 0 : Nat)) := c0
        have o := u64_or_nat (wd q 0) t (wd_lt q 0) lt
        have hq := hp.drew.one k 0 hk4 (by omega) t (by rw [HM.out]; exact HT.out)
        have hz2 : SetAt (wr.drew.setCell ⟨w.heap.size, 0, none⟩ (.int .u64 (wd q 0 ||| t : Nat))) (w.heap.size + 1) noS := hz.drew.far (by simp) _
        have hb2 : Below w.heap.size w (wr.drew.setCell ⟨w.heap.size, 0, none⟩ (.int .u64 (wd q 0 ||| t : Nat))) := bel_set (bel_drew hb) _ (by simp) _
        generalize wd q 0 = x at *
        have HQ := Lib.hid hq
        have HZ2 := Lib.hid hz2
        have HB2 := Lib.hid hb2
        clear hq hz2 hb2 hp hz hb c0 c1 c2 c3
        go_wp2
        go_region
        go_wp2
        go_round
        case rel => exact ⟨k + 1, putS q k, by omega, by omega, rfl, HQ.out, HZ2.out, HB2.out, HN⟩
        case measure => simp [intOf]; omega
      · have cc : wr.cell? ⟨w.heap.size, 1, none⟩ = some (.int .u64 (wd q 1 : Nat)) := c1
        have o := u64_or_nat (wd q 1) t (wd_lt q 1) lt
        have hq := hp.drew.one k 1 hk4 (by omega) t (by rw [HM.out]; exact HT.out)
        have hz2 : SetAt (wr.drew.setCell ⟨w.heap.size, 1, none⟩ (.int .u64 (wd q 1 ||| t : Nat))) (w.heap.size + 1) noS := hz.drew.far (by simp) _
        have hb2 : Below w.heap.size w (wr.drew.setCell ⟨w.heap.size, 1, none⟩ (.int .u64 (wd q 1 ||| t : Nat))) := bel_set (bel_drew hb) _ (by simp) _
        generalize wd q 1 = x at *
        have HQ := Lib.hid hq
        have HZ2 := Lib.hid hz2
        have HB2 := Lib.hid hb2
        clear hq hz2 hb2 hp hz hb c0 c1 c2 c3
        go_wp2
        go_region
        go_wp2
        go_round
        case rel => exact ⟨k + 1, putS q k, by omega, by omega, rfl, HQ.out, HZ2.out, HB2.out, HN⟩
        case measure => simp [intOf]; omega
      · have cc : wr.cell? ⟨w.heap.size, 2, none⟩ = some (.int .u64 (wd q 2 : Nat)) := c2
        have o := u64_or_nat (wd q 2) t (wd_lt q 2) lt
        have hq := hp.drew.one k 2 hk4 (by omega) t (by rw [HM.out]; exact HT.out)
        have hz2 : SetAt (wr.drew.setCell ⟨w.heap.size, 2, none⟩ (.int .u64 (wd q 2 ||| t : Nat))) (w.heap.size + 1) noS := hz.drew.far (by simp) _
        have hb2 : Below w.heap.size w (wr.drew.setCell ⟨w.heap.size, 2, none⟩ (.int .u64 (wd q 2 ||| t : Nat))) := bel_set (bel_drew hb) _ (by simp) _
        generalize wd q 2 = x at *
        have HQ := Lib.hid hq
        have HZ2 := Lib.hid hz2
        have HB2 := Lib.hid hb2
        clear hq hz2 hb2 hp hz hb c0 c1 c2 c3
        go_wp2
        go_region
        go_wp2
        go_round
        case rel => exact ⟨k + 1, putS q k, by omega, by omega, rfl, HQ.out, HZ2.out, HB2.out, HN⟩
        case measure => simp [intOf]; omega
      · have cc : wr.cell? ⟨w.heap.size, 3, none⟩ = some (.int .u64 (wd q 3 : Nat)) := c3
        have o := u64_or_nat (wd q 3) t (wd_lt q 3) lt
        have hq := hp.drew.one k 3 hk4 (by omega) t (by rw [HM.out]; exact HT.out)
        have hz2 : SetAt (wr.drew.setCell ⟨w.heap.size, 3, none⟩ (.int .u64 (wd q 3 ||| t : Nat))) (w.heap.size + 1) noS := hz.drew.far (by simp) _
        have hb2 : Below w.heap.size w (wr.drew.setCell ⟨w.heap.size, 3, none⟩ (.int .u64 (wd q 3 ||| t : Nat))) := bel_set (bel_drew hb) _ (by simp) _
        generalize wd q 3 = x at *
        have HQ := Lib.hid hq
        have HZ2 := Lib.hid hz2
        have HB2 := Lib.hid hb2
        clear hq hz2 hb2 hp hz hb c0 c1 c2 c3
        go_wp2
        go_region
        go_wp2
        go_round
        case rel => exact ⟨k + 1, putS q k, by omega, by omega, rfl, HQ.out, HZ2.out, HB2.out, HN⟩
        case measure => simp [intOf]; omega
    · have hki : ¬ (k : Int) ≤ (hi : Int) := by omega
      have g0 := hz.frozen 0
      have g1 := hz.frozen 1
      have g2 := hz.frozen 2
      have g3 := hz.frozen 3
      obtain ⟨c0, c1, c2, c3⟩ := hp.cells
      obtain ⟨d0, d1, d2, d3⟩ := hz.cells
      have hE : R = setV q := HR.out.symm.trans (setV_congr fun c hc => by
        rw [HP.out]
        unfold spanS
        congr 1
        by_cases h1 : lo ≤ c
        · simp only [h1, decide_true, Bool.true_and]
          exact decide_eq_decide.2 (by omega)
        · rw [decide_eq_false h1, Bool.false_and, Bool.false_and])
      have HE := Lib.hid hE
      clear hE HR HP
      go_wp2
      refine bodyPost_ret (v := setV q) ?_ rfl ⟨congrArg Ending.returned HE.out.symm, bel_set (bel_set (bel_set (bel_set hb _ (by simp) _) _ (by simp) _) _ (by simp) _) _ (by simp) _⟩
      exact results_cell_row rfl _ _ _ _ _ _ _ rfl (hz.put q) Try.underlying57 rfl (by kernel_rfl)
end Go.Proofs.Ytmpneifjjnfckaa
