/-
  Contracts of package alter (ifSet, mayBeOtherwise, used, meet, separators, MayUnset, MayGlob, MaySplit, Number), over the translation: each returns what the plain functions of AlPlain say, and of the memory that was there nothing has turned.
-/
import Derived.Test.YtjdhidiocchkeaaAlPlain
import Derived.Test.YtjdhidiocchkeaaShapeLeq
namespace Go.Proofs.Ytjdhidiocchkeaa
open Go.RowKit

/-- one shape among the arguments, and a shape to hand back -/
theorem lay_oneZ (w : World) (a : Sh) : ∃ wA, (w.alloc (.cells #[.bool a.u, .bool a.e, .int .u64 (wd a.h 0 : Nat), .int .u64 (wd a.h 1 : Nat), .int .u64 (wd a.h 2 : Nat), .int .u64 (wd a.h 3 : Nat), .bool a.k, .string a.l] 26)).alloc (.cells #[.bool false, .bool false, .int .u64 0, .int .u64 0, .int .u64 0, .int .u64 0, .bool false, .string ⟨#[]⟩] 26) = wA ∧ Below w.heap.size w wA ∧ ShAt wA w.heap.size a ∧ ShAt wA (w.heap.size + 1) zeroSh :=
  ⟨_, rfl, bel_alloc (bel_alloc (Below.refl _ _) _) _, (ShAt.new _ a).alloc _, ShAt.zero_at _ _ (by simp)⟩

/-- the world with the zero shape written over block b -/
def putZ (w : World) (b : Nat) : World := (((((((w.setCell ⟨b, 0, none⟩ (.bool false)).setCell ⟨b, 1, none⟩ (.bool false)).setCell ⟨b, 2, none⟩ (.int .u64 0)).setCell ⟨b, 3, none⟩ (.int .u64 0)).setCell ⟨b, 4, none⟩ (.int .u64 0)).setCell ⟨b, 5, none⟩ (.int .u64 0)).setCell ⟨b, 6, none⟩ (.bool false)).setCell ⟨b, 7, none⟩ (.string ⟨#[]⟩)
theorem putZ_eq (w : World) (b : Nat) : putSh w b zeroSh = putZ w b := by
  unfold putZ putSh zeroSh
  simp only [wd_no]
  rfl
theorem ShAt.putZ {w : World} {b : Nat} {x : Sh} (h : ShAt w b x) : ShAt (Go.Proofs.Ytjdhidiocchkeaa.putZ w b) b zeroSh := putZ_eq w b ▸ h.put zeroSh
theorem bel_putZ {w w' : World} (h : Below w.heap.size w w') {b : Nat} (hb : w.heap.size ≤ b) : Below w.heap.size w (putZ w' b) := putZ_eq w' b ▸ bel_putSh h hb zeroSh

set_option maxHeartbeats 1000000 in
set_option maxRecDepth 100000 in
theorem ifSet_is (x : Sh) (w : World) : Calls Try.prog 50 #[shV x] w (Gives w (shV (setSh x))) := by
  obtain ⟨u, e, h, k, l⟩ := x
  simp only [shV, setSh]
  generalize wd h 0 = x0 at *
  generalize wd h 1 = x1 at *
  generalize wd h 2 = x2 at *
  generalize wd h 3 = x3 at *
  go_enter Try.func50, Try.ntmps50
  go_wp2
  refine bodyPost_ret (v := .agg #[.bool false, .bool e, .int .u64 x0, .int .u64 x1, .int .u64 x2, .int .u64 x3, .bool k, .string l]) ?_ rfl ⟨rfl, ?_⟩
  · simp [results, Try.results50, go_sem]
  · exact bel_alloc (bel_alloc (Below.refl _ _) _) _

set_option maxHeartbeats 1000000 in
set_option maxRecDepth 100000 in
theorem MayUnset_is (x : Sh) (w : World) : Calls Try.prog 14 #[shV x] w (Gives w (.bool x.u)) := by
  obtain ⟨u, e, h, k, l⟩ := x
  simp only [shV]
  go_enter Try.func14, Try.ntmps14
  go_wp2
  go_ret
  exact ⟨rfl, bel_alloc (Below.refl _ _) _⟩

set_option maxHeartbeats 1000000 in
set_option maxRecDepth 100000 in
theorem oth_is (x : Sh) (c : Bool) (w : World) : Calls Try.prog 57 #[shV x, .bool c] w (Gives w (.bool (othB x c))) := by
  obtain ⟨u, e, h, k, l⟩ := x
  simp only [shV, othB]
  cases u <;> cases c <;>
  · go_enter Try.func57, Try.ntmps57
    go_wp2
    go_ret
    exact ⟨rfl, bel_alloc (Below.refl _ _) _⟩

set_option maxHeartbeats 4000000 in
set_option maxRecDepth 100000 in
theorem used_is (x : Sh) (c : Bool) (w : World) : Calls Try.prog 58 #[shV x, .bool c] w (Gives w (shV (usedP x c))) := by
  obtain ⟨u, e, h, k, l⟩ := x
  obtain ⟨wA, hwA, hbA, hA, hZ⟩ := lay_oneZ w ⟨u, e, h, k, l⟩
  have HI := Lib.hid (ifSet_is ⟨u, e, h, k, l⟩)
  have HE : Hid (usedP ⟨u, e, h, k, l⟩ c = if c then (if k then (if empB l then zeroSh else ⟨false, e, h, k, l⟩) else ⟨false, false, h, k, l⟩) else ⟨false, e, h, k, l⟩) := Lib.hid rfl
  generalize usedP ⟨u, e, h, k, l⟩ c = y at *
  simp only [shV, setSh] at HI hwA ⊢
  go_enter Try.func58, Try.ntmps58
  obtain ⟨c0, c1, c2, c3, c4, c5, c6, c7⟩ := hA.cells
  dsimp only at c0 c1 c2 c3 c4 c5 c6 c7
  go_wp2_with fail
  clear hwA c0 c1 c2 c3 c4 c5 c6 c7
  refine (HI.out _).mono ?_
  rintro ending w1 ⟨rfl, hb1⟩
  have hA1 := hA.after hb1
  have hZ1 := hZ.after hb1
  have hA2 := hA1.put ⟨false, e, h, k, l⟩
  have hZ2 := hZ1.putFar (c := w.heap.size) (by omega) ⟨false, e, h, k, l⟩
  have hb2 := bel_putSh (bel_step hbA hb1) (Nat.le_refl _) ⟨false, e, h, k, l⟩
  obtain ⟨U, hU⟩ : ∃ U, putSh w1 w.heap.size ⟨false, e, h, k, l⟩ = U := ⟨_, rfl⟩
  rw [hU] at hA2 hZ2 hb2
  unfold putSh at hU
  dsimp only at hU
  have HU := Lib.hid hU
  clear hU
  obtain ⟨c0, c1, c2, c3, c4, c5, c6, c7⟩ := hA1.cells
  obtain ⟨f0, f1, f2, f3, f4, f5, f6, f7⟩ := hA1.frozens
  dsimp only at c0 c1 c2 c3 c4 c5 c6 c7
  go_upto_region 2 with fail
  rw [HU.out]
  clear HU c0 c1 c2 c3 c4 c5 c6 c7 f0 f1 f2 f3 f4 f5 f6 f7 hA1 hZ1 hA hZ hbA hb1 HI
  obtain ⟨c0, c1, c2, c3, c4, c5, c6, c7⟩ := hA2.cells
  obtain ⟨f0, f1, f2, f3, f4, f5, f6, f7⟩ := hA2.frozens
  obtain ⟨d0, d1, d2, d3, d4, d5, d6, d7⟩ := hZ2.cells
  obtain ⟨g0, g1, g2, g3, g4, g5, g6, g7⟩ := hZ2.frozens
  dsimp only at c0 c1 c2 c3 c4 c5 c6 c7
  cases c with
  | false =>
    obtain rfl : y = ⟨false, e, h, k, l⟩ := HE.out
    clear HE
    go_wp2
    refine bodyPost_ret (v := shV ⟨false, e, h, k, l⟩) ?_ rfl ⟨rfl, bel_putSh hb2 (by omega) ⟨false, e, h, k, l⟩⟩
    exact results_cell_row rfl _ _ _ _ _ _ _ rfl (hZ2.put ⟨false, e, h, k, l⟩) Try.underlying26 rfl (by kernel_rfl)
  | true =>
    cases k with
    | false =>
      obtain rfl : y = ⟨false, false, h, false, l⟩ := HE.out
      clear HE
      go_wp2
      refine bodyPost_ret (v := shV ⟨false, false, h, false, l⟩) ?_ rfl ⟨rfl, bel_putSh (bel_set hb2 ⟨w.heap.size, 1, none⟩ (Nat.le_refl _) (.bool false)) (by omega) ⟨false, false, h, false, l⟩⟩
      exact results_cell_row rfl _ _ _ _ _ _ _ rfl ((hZ2.far (a := ⟨w.heap.size, 1, none⟩) (by simp) (.bool false)).put ⟨false, false, h, false, l⟩) Try.underlying26 rfl (by kernel_rfl)
    | true =>
      cases hq : empB l with
      | true =>
        obtain rfl : y = zeroSh := HE.out.trans (by rw [hq]; rfl)
        clear HE
        unfold empB at hq
        go_wp2
        refine bodyPost_ret (v := shV zeroSh) ?_ rfl ⟨rfl, bel_putZ hb2 (by omega)⟩
        exact results_cell_row rfl _ _ _ _ _ _ _ rfl hZ2.putZ Try.underlying26 rfl (by kernel_rfl)
      | false =>
        obtain rfl : y = ⟨false, e, h, true, l⟩ := HE.out.trans (by rw [hq]; rfl)
        clear HE
        unfold empB at hq
        go_wp2
        refine bodyPost_ret (v := shV ⟨false, e, h, true, l⟩) ?_ rfl ⟨rfl, bel_putSh hb2 (by omega) ⟨false, e, h, true, l⟩⟩
        exact results_cell_row rfl _ _ _ _ _ _ _ rfl (hZ2.put ⟨false, e, h, true, l⟩) Try.underlying26 rfl (by kernel_rfl)

set_option maxHeartbeats 1000000 in
set_option maxRecDepth 100000 in
theorem meet_is (p q : Nat → Bool) (w : World) : Calls Try.prog 39 #[setV p, setV q] w (Gives w (.bool (meetB p q))) := by
  have hL := Lib.hid (And_is p q)
  have hE := run_eq_set (andS p q) noS
  rw [setV_no] at hE
  have hS : Hid (meetB p q = !sameS (andS p q) noS) := Lib.hid rfl
  unfold setV at hL hE ⊢
  generalize sameS (andS p q) noS = z at *
  go_enter Try.func39, Try.ntmps39
  go_wp2_with fail
  refine (hL.out _).mono ?_
  rintro e w' ⟨rfl, hb⟩
  go_wp2
  go_ret
  exact ⟨by rw [hS.out]; rfl, bel_step (bel_alloc (bel_alloc (Below.refl _ _) _) _) hb⟩

set_option maxHeartbeats 1000000 in
set_option maxRecDepth 100000 in
theorem Number_is (w : World) : Calls Try.prog 8 #[] w (Gives w (shV numP)) := by
  have hO := Of_is ⟨#[45, 48, 49, 50, 51, 52, 53, 54, 55, 56, 57]⟩ (by decide)
  rw [show (⟨#[45, 48, 49, 50, 51, 52, 53, 54, 55, 56, 57]⟩ : ByteArray).data.toList = nums from rfl] at hO
  have HO := Lib.hid hO
  have HS := Lib.hid (OfSh_is (ofS nums) false)
  clear hO
  unfold numP
  have hz := ShAt.zero w
  generalize ofS nums = p at *
  simp only [setV, shV, ofSh] at HO HS ⊢
  generalize nz p = q at *
  go_enter Try.func8, Try.ntmps8
  go_wp2_with fail
  refine (HO.out _).mono ?_
  rintro e w1 ⟨rfl, hb1⟩
  go_wp2_with fail
  refine (HS.out _).mono ?_
  rintro e w2 ⟨rfl, hb2⟩
  have h2 := (hz.after hb1).after hb2
  have hb := bel_step (bel_step (bel_alloc (Below.refl w.heap.size w) _) hb1) hb2
  have hlt := h2.lt
  clear hb1 hb2 hz
  obtain ⟨d0, d1, d2, d3, d4, d5, d6, d7⟩ := h2.cells
  obtain ⟨g0, g1, g2, g3, g4, g5, g6, g7⟩ := h2.frozens
  go_wp2
  refine bodyPost_ret (v := shV ⟨false, false, q, false, ⟨#[]⟩⟩) ?_ rfl ⟨rfl, bel_putSh hb (by omega) ⟨false, false, q, false, ⟨#[]⟩⟩⟩
  exact results_cell_row rfl _ _ _ _ _ _ _ rfl (h2.put ⟨false, false, q, false, ⟨#[]⟩⟩) Try.underlying26 rfl (by kernel_rfl)

set_option maxHeartbeats 1000000 in
set_option maxRecDepth 100000 in
theorem MayGlob_is (x : Sh) (w : World) : Calls Try.prog 13 #[shV x] w (Gives w (.bool (globB x))) := by
  have hO := Of_is ⟨#[42, 63, 91]⟩ (by decide)
  rw [show (⟨#[42, 63, 91]⟩ : ByteArray).data.toList = signs from rfl] at hO
  have HO := Lib.hid hO
  have HM := Lib.hid (meet_is x.h (ofS signs))
  clear hO
  obtain ⟨wA, hwA, hbA, hA⟩ := lay_one w x
  unfold globB
  generalize meetB x.h (ofS signs) = z at *
  generalize ofS signs = p at *
  simp only [setV, shV] at HO HM ⊢
  go_enter Try.func13, Try.ntmps13
  go_wp2
  clear hwA
  obtain ⟨L0, L1, L2, L3, L4, L5, L6, L7⟩ := hA.laters
  refine region_later (by kernel_rfl) (by kernel_rfl) ?_
  repeat (go_big_quiet_step (fail))
  go_big_quiet_step (exact later (HO.out _))
  repeat (go_big_quiet_step (fail))
  go_big_quiet_step (exact later (HM.out _))
  repeat (go_big_quiet_step (fail))
  refine wpQuiet_nil ?_
  rintro _ ⟨y, rfl⟩
  go_wp2
  go_ret
  exact ⟨rfl, bel_step hbA y.below⟩
end Go.Proofs.Ytjdhidiocchkeaa
