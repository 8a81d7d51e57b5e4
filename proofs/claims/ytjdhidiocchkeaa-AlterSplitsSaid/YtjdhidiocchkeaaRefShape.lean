/-
  Contracts of the document's answer on shapes (conchref1: in, none, could, None, Loose, Unset, Of, Lit, All, Any), over the translation.
-/
import Derived.Test.YtjdhidiocchkeaaShapeLeq
import Derived.Test.YtjdhidiocchkeaaRefSetOf
import Derived.Test.YtjdhidiocchkeaaRefRange
namespace Go.Proofs.Ytjdhidiocchkeaa
open Go.RowKit

theorem ofS_take_all (s : ByteArray) : s.data.toList.take s.size = s.data.toList := List.take_of_length_le (by simp)

theorem ofS_prefix (l : List UInt8) (k c : Nat) (h : ofS (l.take k) c = true) : ofS l c = true := by
  rw [ofS_iff] at h ⊢
  obtain ⟨b, hb, hc⟩ := h
  exact ⟨b, List.mem_of_mem_take hb, hc⟩

set_option maxHeartbeats 1000000 in
set_option maxRecDepth 100000 in
theorem refIn_is (s : ByteArray) (hs : s.size ≤ 1048576) (w : World) :
    Calls Try.prog 43 #[.string s, .int .u8 0] w fun e w' => e = .returned (.bool (ofS s.data.toList 0)) ∧ w = w' := by
  go_enter Try.func43, Try.ntmps43
  go_wp2
  go_loop [5] (fun i => ∃ k : Nat, k ≤ s.size ∧ i = .int .i64 k ∧ Hid (ofS (s.data.toList.take k) 0 = false)) (fun i => s.size - (intOf i).toNat)
  case atStart => exact ⟨0, Nat.zero_le _, rfl, Lib.hid (by simp [ofS])⟩
  case round =>
    obtain ⟨k, hks, rfl, HP⟩ := hrel
    by_cases hk : k < s.size
    · have hi0 : (0 : Int) ≤ (k : Int) := by omega
      have hi1 : (k : Int) < (s.size : Int) := by omega
      have HS : Hid (ofS (s.data.toList.take (k + 1)) 0 = decide (0 = s[k].toNat)) := Lib.hid (by rw [byte_snoc s k hk, ofS_snoc]; unfold putS; rw [HP.out, Bool.false_or])
      by_cases hz : s[k].toNat = 0
      · have HT : Hid (ofS s.data.toList 0 = true) := Lib.hid (ofS_prefix _ (k + 1) 0 (by rw [HS.out, hz]; rfl))
        have hz2 : ((s[k].toNat : Int) == 0) = true := by rw [hz]; rfl
        go_wp2
        go_ret
        exact ⟨by rw [HT.out]; rfl, rfl⟩
      · have HZ := Lib.hid hz
        have hz2 : ((s[k].toNat : Int) == 0) = false := by rw [beq_eq_false_iff_ne]; omega
        clear hz
        go_wp2
        go_round
        case rel => exact ⟨k + 1, by omega, rfl, Lib.hid (by rw [HS.out]; exact decide_eq_false (Ne.symm HZ.out))⟩
        case measure => simp [intOf]; omega
    · have hk2 : k = s.size := by omega
      have HT : Hid (ofS s.data.toList 0 = false) := Lib.hid (by rw [← ofS_take_all s, ← hk2]; exact HP.out)
      go_wp2
      go_ret
      exact ⟨by rw [HT.out]; rfl, rfl⟩

set_option maxHeartbeats 1000000 in
theorem refNo_is (p : Nat → Bool) (w : World) : Calls Try.prog 62 #[setV p] w (Gives w (.bool (sameS p noS))) := by
  have hE := run_eq_set p noS
  rw [setV_no] at hE
  simp only [setV] at hE ⊢
  generalize sameS p noS = z at *
  go_enter Try.func62, Try.ntmps62
  go_wp2
  go_ret
  exact ⟨rfl, bel_alloc (Below.refl _ _) _⟩

set_option maxHeartbeats 1000000 in
set_option maxRecDepth 100000 in
theorem refCould_is (x : Sh) (w : World) : Calls Try.prog 52 #[shV x] w (Gives w (.bool (couldB x))) := by
  obtain ⟨u, e, h, k, l⟩ := x
  have hE := Lib.hid (refNo_is h)
  simp only [setV] at hE
  simp only [shV, couldB]
  generalize sameS h noS = z at *
  cases k with
  | true =>
    go_enter Try.func52, Try.ntmps52
    go_wp2
    go_ret
    exact ⟨rfl, bel_alloc (Below.refl _ _) _⟩
  | false =>
    cases e with
    | true =>
      go_enter Try.func52, Try.ntmps52
      go_wp2
      go_ret
      exact ⟨rfl, bel_alloc (Below.refl _ _) _⟩
    | false =>
      go_enter Try.func52, Try.ntmps52
      go_wp2_with fail
      refine (hE.out _).mono ?_
      rintro e w1 ⟨rfl, hb⟩
      go_wp2
      go_ret
      exact ⟨rfl, bel_step (bel_alloc (Below.refl _ _) _) hb⟩

set_option maxHeartbeats 1000000 in
set_option maxRecDepth 100000 in
theorem refNone_is (x : Sh) (w : World) : Calls Try.prog 55 #[shV x] w (Gives w (.bool (noneB x))) := by
  have hC := Lib.hid (refCould_is x)
  obtain ⟨u, e, h, k, l⟩ := x
  unfold noneB
  generalize couldB ⟨u, e, h, k, l⟩ = z at *
  simp only [shV] at hC ⊢
  cases u with
  | true =>
    go_enter Try.func55, Try.ntmps55
    go_wp2
    go_ret
    exact ⟨rfl, bel_alloc (Below.refl _ _) _⟩
  | false =>
    go_enter Try.func55, Try.ntmps55
    go_wp2_with fail
    refine (hC.out _).mono ?_
    rintro e w' ⟨rfl, hb⟩
    go_wp2
    go_ret
    exact ⟨rfl, bel_step (bel_alloc (Below.refl _ _) _) hb⟩

set_option maxHeartbeats 1000000 in
set_option maxRecDepth 100000 in
theorem refLoose_is (x : Sh) (w : World) : Calls Try.prog 53 #[shV x] w (Gives w (shV (looseSh x))) := by
  obtain ⟨u, e, h, k, l⟩ := x
  simp only [shV, looseSh]
  generalize wd h 0 = x0 at *
  generalize wd h 1 = x1 at *
  generalize wd h 2 = x2 at *
  generalize wd h 3 = x3 at *
  go_enter Try.func53, Try.ntmps53
  go_wp2
  refine bodyPost_ret (v := .agg #[.bool u, .bool e, .int .u64 x0, .int .u64 x1, .int .u64 x2, .int .u64 x3, .bool false, .string ⟨#[]⟩]) ?_ rfl ⟨rfl, ?_⟩
  · simp [results, Try.results53, go_sem]
  · exact bel_alloc (bel_alloc (Below.refl _ _) _) _

set_option maxHeartbeats 1000000 in
set_option maxRecDepth 100000 in
theorem refUnset_is (w : World) : Calls Try.prog 44 #[] w (Gives w (shV unsetSh)) := by
  simp only [shV, unsetSh, wd_no]
  go_enter Try.func44, Try.ntmps44
  go_wp2
  refine bodyPost_ret (v := .agg #[.bool true, .bool false, .int .u64 0, .int .u64 0, .int .u64 0, .int .u64 0, .bool false, .string ⟨#[]⟩]) ?_ rfl ⟨rfl, ?_⟩
  · simp [results, Try.results44, go_sem]
  · exact bel_alloc (Below.refl _ _) _

theorem nz_put (p : Nat → Bool) (c : Nat) : lessS p (putS noS 0) c = nz p c := by
  unfold lessS nz putS noS
  simp

set_option maxHeartbeats 1000000 in
set_option maxRecDepth 100000 in
theorem refOfSh_is (p : Nat → Bool) (e : Bool) (w : World) : Calls Try.prog 41 #[setV p, .bool e] w (Gives w (shV (ofSh p e))) := by
  have hO := refWith_is noS 0 (by decide)
  have hL := Lib.hid (refLess_is p (putS noS 0))
  rw [setV_congr (fun c _ => nz_put p c)] at hL
  rw [setV_no] at hO
  have HO := Lib.hid hO
  clear hO
  simp only [setV] at HO hL ⊢
  obtain ⟨wA, hwA⟩ : ∃ wA, (w.alloc (.cells #[.int .u64 (wd p 0 : Nat), .int .u64 (wd p 1 : Nat), .int .u64 (wd p 2 : Nat), .int .u64 (wd p 3 : Nat)] 24)).alloc (.cells #[.bool false, .bool false, .int .u64 0, .int .u64 0, .int .u64 0, .int .u64 0, .bool false, .string ⟨#[]⟩] 26) = wA := ⟨_, rfl⟩
  have hbA : Below w.heap.size w wA := hwA ▸ bel_alloc (bel_alloc (Below.refl _ _) _) _
  have hp : SetAt wA w.heap.size p := hwA ▸ (SetAt.new _ p).alloc _
  have hz : ShAt wA (w.heap.size + 1) zeroSh := hwA ▸ ShAt.zero_at _ _ (by simp)
  go_enter Try.func41, Try.ntmps41
  go_wp2
  clear hwA
  refine region_tail 6 (by kernel_rfl) (by kernel_rfl) ?_
  simp only [List.take_succ_cons, List.take_zero, List.drop_succ_cons, List.drop_zero]
  obtain ⟨L0, L1, L2, L3⟩ := hp.laters
  repeat (go_big_quiet_step (fail))
  go_big_quiet_step (exact later (HO.out _))
  repeat (go_big_quiet_step (fail))
  go_big_quiet_step (exact later (hL.out _))
  repeat (go_big_quiet_step (fail))
  refine wpQuiet_nil ?_
  rintro _ ⟨x, rfl⟩
  have hx := hz.after x.below
  obtain ⟨d0, d1, d2, d3, d4, d5, d6, d7⟩ := hx.cells
  obtain ⟨g0, g1, g2, g3, g4, g5, g6, g7⟩ := hx.frozens
  go_wp2
  refine bodyPost_ret (v := shV (ofSh p e)) ?_ rfl ⟨rfl, bel_putSh (bel_step hbA x.below) (by omega) (ofSh p e)⟩
  exact results_cell_row rfl _ _ _ _ _ _ _ rfl (hx.put (ofSh p e)) Try.underlying26 rfl (by kernel_rfl)

theorem nz_kept (s : ByteArray) (h : ofS s.data.toList 0 = false) (c : Nat) : nz (ofS s.data.toList) c = ofS s.data.toList c := by
  unfold nz
  by_cases hc : c = 0
  · subst hc; rw [h]; rfl
  · simp [hc]

set_option maxHeartbeats 1000000 in
set_option maxRecDepth 100000 in
theorem refLit_is (s : ByteArray) (hs : s.size ≤ 1048576) (w : World) : Calls Try.prog 12 #[.string s] w (Gives w (shV (litSh s))) := by
  have hI := refIn_is s hs
  have hO := Lib.hid (refOf_is s hs)
  have hS := Lib.hid (refOfSh_is (ofS s.data.toList) (empB s))
  have e1 : empB s = s.toList.isEmpty := rfl
  have hz := ShAt.zero w
  have hN := Lib.hid (nz_kept s)
  have HL : Hid (litSh s = if decide (s.size ≤ 64) && !ofS s.data.toList 0 then ⟨false, empB s, ofS s.data.toList, true, s⟩ else ofSh (ofS s.data.toList) (empB s)) := Lib.hid rfl
  simp only [setV, shV, ofSh] at hO hS
  generalize ofS s.data.toList = p at *
  rw [e1] at hS HL
  clear e1
  by_cases h64 : s.size ≤ 64
  · cases h0 : p 0 with
    | true =>
      rw [h0] at hI
      have HI := Lib.hid hI
      have HE : Hid (litSh s = ofSh p s.toList.isEmpty) := Lib.hid (by rw [HL.out, decide_eq_true h64, h0]; rfl)
      clear hI HL hN h0
      go_enter Try.func12, Try.ntmps12
      go_wp2_with fail
      refine (hO.out _).mono ?_
      rintro e w1 ⟨rfl, hb1⟩
      go_wp2_with fail
      refine (hS.out _).mono ?_
      rintro e w2 ⟨rfl, hb2⟩
      have h2 := (hz.after hb1).after hb2
      have hb := bel_step (bel_step (bel_alloc (Below.refl w.heap.size w) _) hb1) hb2
      have hlt := h2.lt
      clear hb1 hb2 hz
      obtain ⟨d0, d1, d2, d3, d4, d5, d6, d7⟩ := h2.cells
      obtain ⟨g0, g1, g2, g3, g4, g5, g6, g7⟩ := h2.frozens
      go_wp2_with fail
      refine (HI.out _).mono ?_
      rintro e w3 ⟨rfl, rfl⟩
      go_wp2
      refine bodyPost_ret (v := shV ⟨false, s.toList.isEmpty, nz p, false, ⟨#[]⟩⟩) ?_ rfl ⟨by rw [HE.out]; rfl, bel_alloc (bel_putSh hb (by omega) ⟨false, s.toList.isEmpty, nz p, false, ⟨#[]⟩⟩) _⟩
      exact results_cell_row rfl _ _ _ _ _ _ _ rfl ((h2.put ⟨false, s.toList.isEmpty, nz p, false, ⟨#[]⟩⟩).alloc _) Try.underlying26 rfl (by kernel_rfl)
    | false =>
      rw [h0] at hI
      have HI := Lib.hid hI
      have HE : Hid (litSh s = ⟨false, s.toList.isEmpty, p, true, s⟩) := Lib.hid (by rw [HL.out, decide_eq_true h64, h0]; rfl)
      have HN := Lib.hid (hN.out h0)
      clear hI HL hN h0
      go_enter Try.func12, Try.ntmps12
      go_wp2_with fail
      refine (hO.out _).mono ?_
      rintro e w1 ⟨rfl, hb1⟩
      go_wp2_with fail
      refine (hS.out _).mono ?_
      rintro e w2 ⟨rfl, hb2⟩
      have h2 := (hz.after hb1).after hb2
      have hb := bel_step (bel_step (bel_alloc (Below.refl w.heap.size w) _) hb1) hb2
      have hlt := h2.lt
      clear hb1 hb2 hz
      obtain ⟨d0, d1, d2, d3, d4, d5, d6, d7⟩ := h2.cells
      obtain ⟨g0, g1, g2, g3, g4, g5, g6, g7⟩ := h2.frozens
      go_wp2_with fail
      refine (HI.out _).mono ?_
      rintro e w3 ⟨rfl, rfl⟩
      go_wp2
      refine bodyPost_ret (v := shV ⟨false, s.toList.isEmpty, nz p, true, s⟩) ?_ rfl ⟨congrArg Ending.returned (by rw [HE.out]; exact shV_congr rfl rfl (fun c _ => HN.out c) rfl rfl), bel_alloc (bel_putSh hb (by omega) ⟨false, s.toList.isEmpty, nz p, true, s⟩) _⟩
      exact results_cell_row rfl _ _ _ _ _ _ _ rfl ((h2.put ⟨false, s.toList.isEmpty, nz p, true, s⟩).alloc _) Try.underlying26 rfl (by kernel_rfl)
  · have HE : Hid (litSh s = ofSh p s.toList.isEmpty) := Lib.hid (by rw [HL.out, decide_eq_false h64]; rfl)
    clear hI HL hN
    go_enter Try.func12, Try.ntmps12
    go_wp2_with fail
    refine (hO.out _).mono ?_
    rintro e w1 ⟨rfl, hb1⟩
    go_wp2_with fail
    refine (hS.out _).mono ?_
    rintro e w2 ⟨rfl, hb2⟩
    have h2 := (hz.after hb1).after hb2
    have hb := bel_step (bel_step (bel_alloc (Below.refl w.heap.size w) _) hb1) hb2
    have hlt := h2.lt
    clear hb1 hb2 hz
    obtain ⟨d0, d1, d2, d3, d4, d5, d6, d7⟩ := h2.cells
    obtain ⟨g0, g1, g2, g3, g4, g5, g6, g7⟩ := h2.frozens
    go_wp2
    refine bodyPost_ret (v := shV ⟨false, s.toList.isEmpty, nz p, false, ⟨#[]⟩⟩) ?_ rfl ⟨by rw [HE.out]; rfl, bel_alloc (bel_putSh hb (by omega) ⟨false, s.toList.isEmpty, nz p, false, ⟨#[]⟩⟩) _⟩
    exact results_cell_row rfl _ _ _ _ _ _ _ rfl ((h2.put ⟨false, s.toList.isEmpty, nz p, false, ⟨#[]⟩⟩).alloc _) Try.underlying26 rfl (by kernel_rfl)

set_option maxHeartbeats 1000000 in
theorem refAll_is (w : World) : Calls Try.prog 70 #[] w (Gives w (setV (rangeS 1 255))) := by
  have hR := Lib.hid (refRange_is 1 255)
  unfold setV at hR ⊢
  generalize rangeS 1 255 = p at *
  go_enter Try.func70, Try.ntmps70
  go_wp2_with fail
  refine (hR.out _).mono ?_
  rintro e w1 ⟨rfl, hb1⟩
  have hz1 := (SetAt.zero w).after hb1
  obtain ⟨d0, d1, d2, d3⟩ := hz1.cells
  have g0 := hz1.frozen 0
  have g1 := hz1.frozen 1
  have g2 := hz1.frozen 2
  have g3 := hz1.frozen 3
  go_wp2
  refine bodyPost_ret (v := setV p) ?_ rfl ⟨rfl, bel_set (bel_set (bel_set (bel_set (bel_step (bel_alloc (Below.refl _ _) _) hb1) _ (by simp) _) _ (by simp) _) _ (by simp) _) _ (by simp) _⟩
  exact results_cell_row rfl _ _ _ _ _ _ _ rfl (hz1.put _) Try.underlying24 rfl (by kernel_rfl)

set_option maxHeartbeats 1000000 in
set_option maxRecDepth 100000 in
theorem refAny_is (w : World) : Calls Try.prog 45 #[] w (Gives w (shV anySh)) := by
  have hA := Lib.hid refAll_is
  have hO := Lib.hid (refOfSh_is (rangeS 1 255) true)
  simp only [setV, shV, ofSh] at hA hO
  have hN := Lib.hid range_nz
  generalize rangeS 1 255 = p at *
  generalize nz p = q at *
  have hz := ShAt.zero w
  go_enter Try.func45, Try.ntmps45
  go_wp2_with fail
  refine (hA.out _).mono ?_
  rintro e w1 ⟨rfl, hb1⟩
  go_wp2_with fail
  refine (hO.out _).mono ?_
  rintro e w2 ⟨rfl, hb2⟩
  have h2 := (hz.after hb1).after hb2
  have hb := bel_step (bel_step (bel_alloc (Below.refl w.heap.size w) _) hb1) hb2
  have hlt := h2.lt
  clear hb1 hb2 hz
  obtain ⟨d0, d1, d2, d3, d4, d5, d6, d7⟩ := h2.cells
  obtain ⟨g0, g1, g2, g3, g4, g5, g6, g7⟩ := h2.frozens
  go_wp2
  refine bodyPost_ret (v := shV ⟨true, true, q, false, ⟨#[]⟩⟩) ?_ rfl ⟨congrArg Ending.returned (shV_congr rfl rfl hN.out rfl rfl), bel_alloc (bel_putSh hb (by omega) ⟨true, true, q, false, ⟨#[]⟩⟩) _⟩
  exact results_cell_row rfl _ _ _ _ _ _ _ rfl ((h2.put ⟨true, true, q, false, ⟨#[]⟩⟩).alloc _) Try.underlying26 rfl (by kernel_rfl)
end Go.Proofs.Ytjdhidiocchkeaa
