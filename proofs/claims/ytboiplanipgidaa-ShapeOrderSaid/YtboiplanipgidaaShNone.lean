/-
  The walk of conchlaw4.ShapeNone.
-/
import Derived.Test.YtboiplanipgidaaShAwake
namespace Go.Proofs.Ytboiplanipgidaa
open Go.RowKit

theorem ShAt.laters0 {w : World} {b : Nat} (h : ShAt w b zeroSh) : (∀ y : Later w, y.at_.cell? ⟨b, 0, none⟩ = some (.bool false)) ∧ (∀ y : Later w, y.at_.cell? ⟨b, 1, none⟩ = some (.bool false)) ∧ (∀ y : Later w, y.at_.cell? ⟨b, 2, none⟩ = some (.int .u64 0)) ∧ (∀ y : Later w, y.at_.cell? ⟨b, 3, none⟩ = some (.int .u64 0)) ∧ (∀ y : Later w, y.at_.cell? ⟨b, 4, none⟩ = some (.int .u64 0)) ∧ (∀ y : Later w, y.at_.cell? ⟨b, 5, none⟩ = some (.int .u64 0)) ∧ (∀ y : Later w, y.at_.cell? ⟨b, 6, none⟩ = some (.bool false)) ∧ (∀ y : Later w, y.at_.cell? ⟨b, 7, none⟩ = some (.string ⟨#[]⟩)) := by
  have h1 := h.laters
  simp only [zeroSh, wd_no] at h1
  exact h1

theorem ok_len {x : Sh} (h : OkP x) : x.l.size ≤ 1048576 := by
  rcases Bool.eq_false_or_eq_true x.k with hk | hk
  · have := (h.lit hk).1.1; omega
  · rw [h.no hk]; decide

theorem may_zero (is : Bool) (v : ByteArray) : mayB zeroSh is v = false := by
  cases is with
  | false => rfl
  | true =>
    refine bfalse fun h => ?_
    rcases may_could zero_ok h with h1 | ⟨c, _, h1⟩
    · cases h1
    · cases h1
theorem leq_zero {x : Sh} (h : OkP x) : leqP zeroSh x = true := (leqP_iff zero_ok h).2 ⟨fun h => (by cases h), fun h => (by cases h), fun _ _ h => (by cases h), fun _ h => by
  rcases h with h1 | ⟨c, _, h1⟩
  · cases h1
  · cases h1⟩
theorem join_zero_l (x : Sh) : joinP zeroSh x = x := by unfold joinP; rw [none_zero]; rfl
theorem join_zero_r {x : Sh} (h : OkP x) : sameSh (joinP x zeroSh) x = true :=
  join_absorb zero_ok h ⟨fun h => (by cases h), fun h => (by cases h), fun _ _ h => (by cases h), fun _ h => by
    rcases h with h1 | ⟨c, _, h1⟩
    · cases h1
    · cases h1⟩
theorem any_lj {x : Sh} (h : OkP x) : Lj x anySh := ⟨fun _ => rfl, fun _ => rfl, fun c _ h1 => by
  show decide (c ≠ 0) = true
  refine decide_eq_true fun hc => ?_
  subst hc
  exact no_both h1 h.zero, fun h => (by cases h)⟩
theorem leq_any {x : Sh} (h : OkP x) : leqP x anySh = true := (leqP_iff h any_ok).2 (any_lj h).le
theorem join_any {x : Sh} (h : OkP x) : sameSh (joinP x anySh) anySh = true := same_trans (join_comm any_ok h) (join_absorb h any_ok (any_lj h))
theorem may_any (is : Bool) (v : ByteArray) (h : ofS v.data.toList 0 = false) : mayB anySh is v = true := by
  cases is with
  | false => rfl
  | true => exact (may_iff any_ok v).2 ⟨fun h => (by cases h), fun _ => rfl, fun c _ h1 => decide_eq_true fun hc => by subst hc; exact no_both h1 h⟩

/-- None, field by field -/
def noneF : Bool → Bool → Bool → Bool → Bool
  | true, _, _, _ => false
  | false, true, _, _ => false
  | false, false, true, _ => false
  | false, false, false, z => z
theorem noneB_F (x : Sh) : noneB x = noneF x.u x.k x.e (sameS x.h noS) := by
  unfold noneB couldB noneF
  cases x.u <;> cases x.k <;> cases x.e <;> cases sameS x.h noS <;> rfl

set_option maxHeartbeats 8000000 in
set_option maxRecDepth 100000 in
theorem ShapeNone_walk (x : Sh) (v : ByteArray) (is : Bool) (w : World) : Calls Try.prog 3 #[shV x, .string v, .bool is] w (Gives w (.bool true)) := by
  have HW := Lib.hid awake_is
  by_cases hv : v.size ≤ 100
  · have HT := Lib.hid (Tame_is x)
    have ht := Lib.hid (tame_ok x)
    obtain ⟨wA, hwA, hbA, hA⟩ := lay_one w x
    generalize tameSh x = t at *
    have HN0 := Lib.hid (none_zero ▸ shV_zero ▸ None_is zeroSh)
    simp only [shV] at HT ⊢
    go_enter Try.func3, Try.ntmps3
    obtain ⟨c0, c1, c2, c3, c4, c5, c6, c7⟩ := hA.cells
    go_wp2_with fail
    clear hwA c0 c1 c2 c3 c4 c5 c6 c7
    refine (HT.out _).mono ?_
    rintro e w1 ⟨rfl, hb1⟩
    have hA1 := hA.after hb1
    have hb := bel_step hbA hb1
    clear hA hb1 HT hbA
    obtain ⟨W, hWe⟩ : ∃ W, (putSh w1 w.heap.size t).alloc (.cells #[.bool false, .bool false, .int .u64 0, .int .u64 0, .int .u64 0, .int .u64 0, .bool false, .string ⟨#[]⟩] 26) = W := ⟨_, rfl⟩
    have hT : ShAt W w.heap.size t := hWe ▸ (hA1.put t).alloc _
    have hZ : ShAt W w1.heap.size zeroSh := hWe ▸ ShAt.zero_at _ _ (by simp [putSh])
    have hbW : Below w.heap.size w W := hWe ▸ bel_alloc (bel_putSh hb (Nat.le_refl _) t) _
    unfold putSh at hWe
    have HWe := Lib.hid hWe
    clear hWe
    obtain ⟨c0, c1, c2, c3, c4, c5, c6, c7⟩ := hA1.cells
    obtain ⟨g0, g1, g2, g3, g4, g5, g6, g7⟩ := hA1.frozens
    go_wp2
    rw [HWe.out]
    clear HWe c0 c1 c2 c3 c4 c5 c6 c7 g0 g1 g2 g3 g4 g5 g6 g7 hA1 hb
    go_loop [8] (fun i => ∃ k : Nat, k ≤ v.size ∧ i = .int .i64 k ∧ Hid (ofS (v.data.toList.take k) 0 = false)) (fun i => v.size - (intOf i).toNat)
    case atStart => exact ⟨0, Nat.zero_le _, rfl, Lib.hid (by simp [ofS])⟩
    case round =>
      obtain ⟨k, hks, rfl, HP⟩ := hrel
      by_cases hk : k < v.size
      · have hi0 : (0 : Int) ≤ (k : Int) := by omega
        have hi1 : (k : Int) < (v.size : Int) := by omega
        by_cases hz : v[k].toNat = 0
        · have hz2 : ((v[k].toNat : Int) == 0) = true := by rw [hz]; rfl
          go_wp2_with fail
          refine (HW.out _).mono ?_
          rintro e w2 ⟨rfl, hb2⟩
          go_wp2
          go_ret
          exact ⟨rfl, bel_step hbW hb2⟩
        · have HS : Hid (ofS (v.data.toList.take (k + 1)) 0 = false) := Lib.hid (by rw [byte_snoc v k hk, ofS_snoc]; unfold putS; rw [HP.out, Bool.false_or]; exact decide_eq_false (Ne.symm hz))
          have hz2 : ((v[k].toNat : Int) == 0) = false := by rw [beq_eq_false_iff_ne]; omega
          clear hz
          go_wp2
          go_round
          case rel => exact ⟨k + 1, by omega, rfl, HS⟩
          case measure => simp [intOf]; omega
      · have hk2 : k = v.size := by omega
        have HV : Hid (ofS v.data.toList 0 = false) := Lib.hid (by rw [← ofS_take_all v, ← hk2]; exact HP.out)
        have hM0 := May_is zeroSh is v (by omega)
        have hL0 := Leq_is zeroSh t (by decide)
        have hJ0 := Join_is zeroSh t
        have hJ1 := Join_is t zeroSh
        have hE1 := run_eq_shape t t
        have hE2 := run_eq_shape (joinP t zeroSh) t
        have hA := Any_is
        have hLA := Leq_is t anySh (ok_len ht.out)
        have hMA := May_is anySh is v (by omega)
        have hJA := Join_is t anySh
        have hE3 := run_eq_shape (joinP t anySh) anySh
        have hNx := None_is t
        have hEz := run_eq_set t.h noS
        rw [may_zero] at hM0
        rw [leq_zero ht.out] at hL0
        rw [join_zero_l] at hJ0
        rw [same_refl] at hE1
        rw [join_zero_r ht.out] at hE2
        rw [leq_any ht.out] at hLA
        rw [may_any is v HV.out] at hMA
        rw [join_any ht.out] at hE3
        rw [noneB_F] at hNx
        rw [setV_no] at hEz
        rw [shV_zero] at hM0 hL0 hJ0 hJ1
        generalize joinP t zeroSh = j1 at *
        generalize joinP t anySh = j2 at *
        generalize sameS t.h noS = z at *
        unfold anySh at hA hLA hMA hJA hE3
        generalize (fun c => decide (c ≠ 0)) = f at *
        clear ht HP HV
        obtain ⟨tu, te, th, tk, tl⟩ := t
        dsimp only [shV, setV] at hM0 hL0 hJ0 hJ1 hE1 hE2 hA hLA hMA hJA hE3 hNx hEz
        have HM0 := Lib.hid hM0
        have HL0 := Lib.hid hL0
        have HJ0 := Lib.hid hJ0
        have HJ1 := Lib.hid hJ1
        have HA := Lib.hid hA
        have HLA := Lib.hid hLA
        have HMA := Lib.hid hMA
        have HJA := Lib.hid hJA
        have HNx := Lib.hid hNx
        clear hM0 hL0 hJ0 hJ1 hA hLA hMA hJA hNx
        obtain ⟨L0, L1, L2, L3, L4, L5, L6, L7⟩ := hT.laters
        obtain ⟨Z0, Z1, Z2, Z3, Z4, Z5, Z6, Z7⟩ := hZ.laters0
        dsimp only at L0 L1 L2 L3 L4 L5 L6 L7
        go_wp2
        cases tu
        case' false => cases tk
        case' false.false => cases te
        case' false.false.false => cases z
        all_goals
          dsimp only [noneF] at HNx
          refine region_later (by kernel_rfl) (by kernel_rfl) ?_
          repeat (go_big_quiet_step (fail))
          go_big_quiet_step (exact later (HN0.out _))
          repeat (go_big_quiet_step (fail))
          go_big_quiet_step (exact later (HM0.out _))
          repeat (go_big_quiet_step (fail))
          go_big_quiet_step (exact later (HL0.out _))
          repeat (go_big_quiet_step (fail))
          go_big_quiet_step (exact later (HJ0.out _))
          repeat (go_big_quiet_step (fail))
          go_big_quiet_step (exact later (HJ1.out _))
          repeat (go_big_quiet_step (fail))
          go_big_quiet_step (exact later (HA.out _))
          repeat (go_big_quiet_step (fail))
          go_big_quiet_step (exact later (HLA.out _))
          repeat (go_big_quiet_step (fail))
          go_big_quiet_step (exact later (HA.out _))
          repeat (go_big_quiet_step (fail))
          go_big_quiet_step (exact later (HMA.out _))
          repeat (go_big_quiet_step (fail))
          go_big_quiet_step (exact later (HA.out _))
          repeat (go_big_quiet_step (fail))
          go_big_quiet_step (exact later (HJA.out _))
          repeat (go_big_quiet_step (fail))
          go_big_quiet_step (exact later (HA.out _))
          repeat (go_big_quiet_step (fail))
          go_big_quiet_step (exact later (HNx.out _))
          repeat (go_big_quiet_step (fail))
          go_big_quiet_step (exact later (HW.out _))
          repeat (go_big_quiet_step (fail))
          refine wpQuiet_nil ?_
          rintro _ ⟨y, rfl⟩
          go_wp2
          go_ret
          exact ⟨rfl, bel_step hbW y.below⟩
  · go_enter Try.func3, Try.ntmps3
    go_wp2_with fail
    refine (HW.out _).mono ?_
    rintro e w1 ⟨rfl, hb1⟩
    go_wp2
    go_ret
    exact ⟨rfl, bel_step (bel_alloc (Below.refl _ _) _) hb1⟩
end Go.Proofs.Ytboiplanipgidaa
