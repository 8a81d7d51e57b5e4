/-
  Contracts of the document's answers to layer pat (conchref1: among, Active). (By wip/tools/gen_refpat2.py.)
-/
import Derived.Test.YtmpneifjjnfckaaRefPat
namespace Go.Proofs.Ytmpneifjjnfckaa
open Go.RowKit

set_option maxHeartbeats 4000000 in
set_option maxRecDepth 100000 in
theorem refAmong_is (t : ByteArray) (ht : t.size ≤ 1048576) (L : Value) (v : List Bool) (i e c : Nat) (hie : i < e) (he : e < t.size) (w : World) (hL0 : LiveAt w L v) : Calls Try.prog 27 #[patV t L, .int .i64 (i : Int), .int .i64 (e : Int), .int .u8 (c : Int)] w (Gives w (.bool (amB t.data.toList v i e c))) := by
  obtain ⟨wA, hwA, hb2, hP2⟩ := lay_pat w t L
  have hL2 := hL0.after hb2
  clear hL0
  have hI := refIs_is t L v (i + 1) 33
  have hB : amB t.data.toList v i e c = if isB t.data.toList v (i + 1) 33 then !amgo t.data.toList v e c e (i + 2) false else amgo t.data.toList v e c e (i + 1) false := rfl
  generalize amB t.data.toList v i e c = r at *
  generalize isB t.data.toList v (i + 1) 33 = b at *
  rw [show ((i + 1 : Nat) : Int) = (i : Int) + 1 by omega] at hI
  have H1 := Lib.hid hI
  clear hI
  unfold patV at H1 ⊢
  have HB0 := Lib.hid hB
  clear hB
  go_enter Try.func27, Try.ntmps27
  have c0 := hP2.cell 0 (v := .string t) rfl
  have c1 := hP2.cell 1 (v := L) rfl
  go_wp2_with fail
  clear c0 c1 hwA
  refine (H1.out _ hL2).mono ?_
  rintro ending w1 ⟨rfl, j1⟩
  have hP3 := hP2.after j1
  have hL3 := hL2.after j1
  have hb3 := bel_step hb2 j1
  clear hP2 hL2 hb2 j1 H1
  cases b with
  | true =>
    obtain ⟨A, hA⟩ : ∃ A, amgo t.data.toList v e c e (i + 2) false = A := ⟨_, rfl⟩
    have HB : Hid (r = !A) := Lib.hid (by rw [← hA]; exact HB0.out)
    have HA0 : Hid (A = amgo t.data.toList v e c e (i + 2) false) := Lib.hid hA.symm
    clear hA HB0
    go_wp2
    go_loopw [9, 11] (fun z g wr => ∃ (k n : Nat) (f : Bool), e ≤ k + n ∧ k ≤ e + 3 ∧ z = .int .i64 (k : Int) ∧ g = .bool f ∧ BlkAt wr w.heap.size #[.string t, L] 25 ∧ LiveAt wr L v ∧ Below w.heap.size w wr ∧ Hid (A = amgo t.data.toList v e c n k f)) (fun z _ _ => e - (intOf z).toNat)
    case atStart => exact ⟨i + 2, e, false, by omega, by omega, by go_num, rfl, hP3, hL3, hb3, HA0⟩
    case round =>
      obtain ⟨k, n, f, hn9, hk9, rfl, rfl, hP4, hL4, hb4, HR⟩ := hrel
      clear hP3 hL3 hb3
      by_cases hk : k < e
      · have hkt : k < t.size := by omega
        have i0 : (0 : Int) ≤ (k : Int) := by omega
        have i1 : (k : Int) < (t.size : Int) := by omega
        have HY := Lib.hid (byt_at t k hkt)
        obtain ⟨m, rfl, hst⟩ := amgo_step (t := t.data.toList) (v := v) (c := c) (f := f) hk hn9
        rw [← HR.out] at hst
        clear HR
        by_cases h2 : k + 2 < e
        · have h2t : k + 2 < t.size := by omega
          have i3 : (k : Int) + 2 < (t.size : Int) := by omega
          have HY2 := Lib.hid (byt_at t (k + 2) h2t)
          have hI := refIs_is t L v (k + 1) 45
          rw [if_pos h2] at hst
          generalize isB t.data.toList v (k + 1) 45 = y at *
          rw [show ((k + 1 : Nat) : Int) = (k : Int) + 1 by omega] at hI
          have HI := Lib.hid hI
          clear hI
          unfold patV at HI
          have HS0 := Lib.hid hst
          clear hst
          have c0 := hP4.cell 0 (v := .string t) rfl
          have c1 := hP4.cell 1 (v := L) rfl
          go_wp2_with fail
          clear c0 c1
          refine (HI.out _ hL4).mono ?_
          rintro ending w5 ⟨rfl, j5⟩
          have hP5 := hP4.after j5
          have hL5 := hL4.after j5
          have hb5 := bel_step hb4 j5
          clear hP4 hL4 hb4 j5
          have c0 := hP5.cell 0 (v := .string t) rfl
          cases y with
          | true =>
            have HS : Hid (A = amgo t.data.toList v e c m (k + 3) (f || (decide (byt t.data.toList k ≤ c) && decide (c ≤ byt t.data.toList (k + 2))))) := Lib.hid HS0.out
            clear HS0
            cases f with
            | true =>
              go_wp2
              go_roundw
              case rel => exact ⟨k + 3, m, true, by omega, by omega, by go_num, rfl, hP5, hL5, hb5, Lib.hid (by rw [HS.out]; rfl)⟩
              case measure => simp [intOf]; omega
            | false =>
              by_cases hz : t[k].toNat ≤ c
              · have HZ : Hid (decide (byt t.data.toList k ≤ c) = true) := Lib.hid (decide_eq_true (by rw [HY.out]; exact hz))
                by_cases hq : c ≤ t[k + 2].toNat
                · have HQ : Hid (decide (c ≤ byt t.data.toList (k + 2)) = true) := Lib.hid (decide_eq_true (by rw [HY2.out]; exact hq))
                  go_wp2
                  go_roundw
                  case rel => exact ⟨k + 3, m, true, by omega, by omega, by go_num, rfl, hP5, hL5, hb5, Lib.hid (by rw [HS.out, HZ.out, HQ.out]; rfl)⟩
                  case measure => simp [intOf]; omega
                · have HQ : Hid (decide (c ≤ byt t.data.toList (k + 2)) = false) := Lib.hid (decide_eq_false (by rw [HY2.out]; exact hq))
                  go_wp2
                  go_roundw
                  case rel => exact ⟨k + 3, m, false, by omega, by omega, by go_num, rfl, hP5, hL5, hb5, Lib.hid (by rw [HS.out, HZ.out, HQ.out]; rfl)⟩
                  case measure => simp [intOf]; omega
              · have HZ : Hid (decide (byt t.data.toList k ≤ c) = false) := Lib.hid (decide_eq_false (by rw [HY.out]; exact hz))
                go_wp2
                go_roundw
                case rel => exact ⟨k + 3, m, false, by omega, by omega, by go_num, rfl, hP5, hL5, hb5, Lib.hid (by rw [HS.out, HZ.out]; rfl)⟩
                case measure => simp [intOf]; omega
          | false =>
            have HS : Hid (A = amgo t.data.toList v e c m (k + 1) (f || decide (c = byt t.data.toList k))) := Lib.hid HS0.out
            clear HS0
            cases f with
            | true =>
              go_wp2
              go_roundw
              case rel => exact ⟨k + 1, m, true, by omega, by omega, by go_num, rfl, hP5, hL5, hb5, Lib.hid (by rw [HS.out]; rfl)⟩
              case measure => simp [intOf]; omega
            | false =>
              by_cases hz : c = t[k].toNat
              · have hz2 : ((c : Int) == (t[k].toNat : Int)) = true := by rw [hz]; simp
                have HZ : Hid (decide (c = byt t.data.toList k) = true) := Lib.hid (decide_eq_true (by rw [HY.out]; exact hz))
                clear hz
                go_wp2
                go_roundw
                case rel => exact ⟨k + 1, m, true, by omega, by omega, by go_num, rfl, hP5, hL5, hb5, Lib.hid (by rw [HS.out, HZ.out]; rfl)⟩
                case measure => simp [intOf]; omega
              · have hz2 : ((c : Int) == (t[k].toNat : Int)) = false := by rw [beq_eq_false_iff_ne]; omega
                have HZ : Hid (decide (c = byt t.data.toList k) = false) := Lib.hid (decide_eq_false (by rw [HY.out]; exact hz))
                clear hz
                go_wp2
                go_roundw
                case rel => exact ⟨k + 1, m, false, by omega, by omega, by go_num, rfl, hP5, hL5, hb5, Lib.hid (by rw [HS.out, HZ.out]; rfl)⟩
                case measure => simp [intOf]; omega
        · rw [if_neg h2] at hst
          have HS : Hid (A = amgo t.data.toList v e c m (k + 1) (f || decide (c = byt t.data.toList k))) := Lib.hid hst
          clear hst
          have hP5 := hP4
          have hL5 := hL4
          have hb5 := hb4
          clear hP4 hL4 hb4
          have c0 := hP5.cell 0 (v := .string t) rfl
          cases f with
          | true =>
            go_wp2
            go_roundw
            case rel => exact ⟨k + 1, m, true, by omega, by omega, by go_num, rfl, hP5, hL5, hb5, Lib.hid (by rw [HS.out]; rfl)⟩
            case measure => simp [intOf]; omega
          | false =>
            by_cases hz : c = t[k].toNat
            · have hz2 : ((c : Int) == (t[k].toNat : Int)) = true := by rw [hz]; simp
              have HZ : Hid (decide (c = byt t.data.toList k) = true) := Lib.hid (decide_eq_true (by rw [HY.out]; exact hz))
              clear hz
              go_wp2
              go_roundw
              case rel => exact ⟨k + 1, m, true, by omega, by omega, by go_num, rfl, hP5, hL5, hb5, Lib.hid (by rw [HS.out, HZ.out]; rfl)⟩
              case measure => simp [intOf]; omega
            · have hz2 : ((c : Int) == (t[k].toNat : Int)) = false := by rw [beq_eq_false_iff_ne]; omega
              have HZ : Hid (decide (c = byt t.data.toList k) = false) := Lib.hid (decide_eq_false (by rw [HY.out]; exact hz))
              clear hz
              go_wp2
              go_roundw
              case rel => exact ⟨k + 1, m, false, by omega, by omega, by go_num, rfl, hP5, hL5, hb5, Lib.hid (by rw [HS.out, HZ.out]; rfl)⟩
              case measure => simp [intOf]; omega
      · have hA : A = f := HR.out.trans (amgo_end (by omega))
        have HA := Lib.hid hA
        have HE := Lib.hid hb4
        clear hA HR hb4
        go_wp2
        go_ret
        exact ⟨by rw [HB.out, HA.out]; cases f <;> rfl, HE.out⟩
  | false =>
    obtain ⟨A, hA⟩ : ∃ A, amgo t.data.toList v e c e (i + 1) false = A := ⟨_, rfl⟩
    have HB : Hid (r = A) := Lib.hid (by rw [← hA]; exact HB0.out)
    have HA0 : Hid (A = amgo t.data.toList v e c e (i + 1) false) := Lib.hid hA.symm
    clear hA HB0
    go_wp2
    go_loopw [9, 11] (fun z g wr => ∃ (k n : Nat) (f : Bool), e ≤ k + n ∧ k ≤ e + 3 ∧ z = .int .i64 (k : Int) ∧ g = .bool f ∧ BlkAt wr w.heap.size #[.string t, L] 25 ∧ LiveAt wr L v ∧ Below w.heap.size w wr ∧ Hid (A = amgo t.data.toList v e c n k f)) (fun z _ _ => e - (intOf z).toNat)
    case atStart => exact ⟨i + 1, e, false, by omega, by omega, by go_num, rfl, hP3, hL3, hb3, HA0⟩
    case round =>
      obtain ⟨k, n, f, hn9, hk9, rfl, rfl, hP4, hL4, hb4, HR⟩ := hrel
      clear hP3 hL3 hb3
      by_cases hk : k < e
      · have hkt : k < t.size := by omega
        have i0 : (0 : Int) ≤ (k : Int) := by omega
        have i1 : (k : Int) < (t.size : Int) := by omega
        have HY := Lib.hid (byt_at t k hkt)
        obtain ⟨m, rfl, hst⟩ := amgo_step (t := t.data.toList) (v := v) (c := c) (f := f) hk hn9
        rw [← HR.out] at hst
        clear HR
        by_cases h2 : k + 2 < e
        · have h2t : k + 2 < t.size := by omega
          have i3 : (k : Int) + 2 < (t.size : Int) := by omega
          have HY2 := Lib.hid (byt_at t (k + 2) h2t)
          have hI := refIs_is t L v (k + 1) 45
          rw [if_pos h2] at hst
          generalize isB t.data.toList v (k + 1) 45 = y at *
          rw [show ((k + 1 : Nat) : Int) = (k : Int) + 1 by omega] at hI
          have HI := Lib.hid hI
          clear hI
          unfold patV at HI
          have HS0 := Lib.hid hst
          clear hst
          have c0 := hP4.cell 0 (v := .string t) rfl
          have c1 := hP4.cell 1 (v := L) rfl
          go_wp2_with fail
          clear c0 c1
          refine (HI.out _ hL4).mono ?_
          rintro ending w5 ⟨rfl, j5⟩
          have hP5 := hP4.after j5
          have hL5 := hL4.after j5
          have hb5 := bel_step hb4 j5
          clear hP4 hL4 hb4 j5
          have c0 := hP5.cell 0 (v := .string t) rfl
          cases y with
          | true =>
            have HS : Hid (A = amgo t.data.toList v e c m (k + 3) (f || (decide (byt t.data.toList k ≤ c) && decide (c ≤ byt t.data.toList (k + 2))))) := Lib.hid HS0.out
            clear HS0
            cases f with
            | true =>
              go_wp2
              go_roundw
              case rel => exact ⟨k + 3, m, true, by omega, by omega, by go_num, rfl, hP5, hL5, hb5, Lib.hid (by rw [HS.out]; rfl)⟩
              case measure => simp [intOf]; omega
            | false =>
              by_cases hz : t[k].toNat ≤ c
              · have HZ : Hid (decide (byt t.data.toList k ≤ c) = true) := Lib.hid (decide_eq_true (by rw [HY.out]; exact hz))
                by_cases hq : c ≤ t[k + 2].toNat
                · have HQ : Hid (decide (c ≤ byt t.data.toList (k + 2)) = true) := Lib.hid (decide_eq_true (by rw [HY2.out]; exact hq))
                  go_wp2
                  go_roundw
                  case rel => exact ⟨k + 3, m, true, by omega, by omega, by go_num, rfl, hP5, hL5, hb5, Lib.hid (by rw [HS.out, HZ.out, HQ.out]; rfl)⟩
                  case measure => simp [intOf]; omega
                · have HQ : Hid (decide (c ≤ byt t.data.toList (k + 2)) = false) := Lib.hid (decide_eq_false (by rw [HY2.out]; exact hq))
                  go_wp2
                  go_roundw
                  case rel => exact ⟨k + 3, m, false, by omega, by omega, by go_num, rfl, hP5, hL5, hb5, Lib.hid (by rw [HS.out, HZ.out, HQ.out]; rfl)⟩
                  case measure => simp [intOf]; omega
              · have HZ : Hid (decide (byt t.data.toList k ≤ c) = false) := Lib.hid (decide_eq_false (by rw [HY.out]; exact hz))
                go_wp2
                go_roundw
                case rel => exact ⟨k + 3, m, false, by omega, by omega, by go_num, rfl, hP5, hL5, hb5, Lib.hid (by rw [HS.out, HZ.out]; rfl)⟩
                case measure => simp [intOf]; omega
          | false =>
            have HS : Hid (A = amgo t.data.toList v e c m (k + 1) (f || decide (c = byt t.data.toList k))) := Lib.hid HS0.out
            clear HS0
            cases f with
            | true =>
              go_wp2
              go_roundw
              case rel => exact ⟨k + 1, m, true, by omega, by omega, by go_num, rfl, hP5, hL5, hb5, Lib.hid (by rw [HS.out]; rfl)⟩
              case measure => simp [intOf]; omega
            | false =>
              by_cases hz : c = t[k].toNat
              · have hz2 : ((c : Int) == (t[k].toNat : Int)) = true := by rw [hz]; simp
                have HZ : Hid (decide (c = byt t.data.toList k) = true) := Lib.hid (decide_eq_true (by rw [HY.out]; exact hz))
                clear hz
                go_wp2
                go_roundw
                case rel => exact ⟨k + 1, m, true, by omega, by omega, by go_num, rfl, hP5, hL5, hb5, Lib.hid (by rw [HS.out, HZ.out]; rfl)⟩
                case measure => simp [intOf]; omega
              · have hz2 : ((c : Int) == (t[k].toNat : Int)) = false := by rw [beq_eq_false_iff_ne]; omega
                have HZ : Hid (decide (c = byt t.data.toList k) = false) := Lib.hid (decide_eq_false (by rw [HY.out]; exact hz))
                clear hz
                go_wp2
                go_roundw
                case rel => exact ⟨k + 1, m, false, by omega, by omega, by go_num, rfl, hP5, hL5, hb5, Lib.hid (by rw [HS.out, HZ.out]; rfl)⟩
                case measure => simp [intOf]; omega
        · rw [if_neg h2] at hst
          have HS : Hid (A = amgo t.data.toList v e c m (k + 1) (f || decide (c = byt t.data.toList k))) := Lib.hid hst
          clear hst
          have hP5 := hP4
          have hL5 := hL4
          have hb5 := hb4
          clear hP4 hL4 hb4
          have c0 := hP5.cell 0 (v := .string t) rfl
          cases f with
          | true =>
            go_wp2
            go_roundw
            case rel => exact ⟨k + 1, m, true, by omega, by omega, by go_num, rfl, hP5, hL5, hb5, Lib.hid (by rw [HS.out]; rfl)⟩
            case measure => simp [intOf]; omega
          | false =>
            by_cases hz : c = t[k].toNat
            · have hz2 : ((c : Int) == (t[k].toNat : Int)) = true := by rw [hz]; simp
              have HZ : Hid (decide (c = byt t.data.toList k) = true) := Lib.hid (decide_eq_true (by rw [HY.out]; exact hz))
              clear hz
              go_wp2
              go_roundw
              case rel => exact ⟨k + 1, m, true, by omega, by omega, by go_num, rfl, hP5, hL5, hb5, Lib.hid (by rw [HS.out, HZ.out]; rfl)⟩
              case measure => simp [intOf]; omega
            · have hz2 : ((c : Int) == (t[k].toNat : Int)) = false := by rw [beq_eq_false_iff_ne]; omega
              have HZ : Hid (decide (c = byt t.data.toList k) = false) := Lib.hid (decide_eq_false (by rw [HY.out]; exact hz))
              clear hz
              go_wp2
              go_roundw
              case rel => exact ⟨k + 1, m, false, by omega, by omega, by go_num, rfl, hP5, hL5, hb5, Lib.hid (by rw [HS.out, HZ.out]; rfl)⟩
              case measure => simp [intOf]; omega
      · have hA : A = f := HR.out.trans (amgo_end (by omega))
        have HA := Lib.hid hA
        have HE := Lib.hid hb4
        clear hA HR hb4
        go_wp2
        go_ret
        exact ⟨by rw [HB.out, HA.out]; cases f <;> rfl, HE.out⟩

theorem act_yes {t : List UInt8} {v : List Bool} {i : Nat} (hi : i < t.length) (h : actAt t v i = true) : actB t v = true := List.any_eq_true.2 ⟨i, List.mem_range.2 hi, h⟩
theorem any_more {f : Nat → Bool} {k : Nat} (h : (List.range k).any f = false) (hf : f k = false) : (List.range (k + 1)).any f = false := by
  rw [List.range_succ, List.any_append, h]
  simp [hf]
theorem brI_ge (o : Option Nat) : decide ((0 : Int) ≤ brI o) = o.isSome := by
  cases o with
  | none => rfl
  | some e => exact decide_eq_true (by show (0 : Int) ≤ (e : Int); omega)

set_option maxHeartbeats 4000000 in
set_option maxRecDepth 100000 in
theorem refActive_is (t : ByteArray) (ht : t.size ≤ 1048576) (L : Value) (v : List Bool) (w : World) (hL0 : LiveAt w L v) : Calls Try.prog 13 #[patV t L] w (Gives w (.bool (actB t.data.toList v))) := by
  obtain ⟨wA, hwA, hb1, hP1⟩ := lay_pat w t L
  have hL1 := hL0.after hb1
  clear hL0
  unfold patV
  go_enter Try.func13, Try.ntmps13
  go_wp2
  go_loopw [3] (fun z wr => ∃ k : Nat, k ≤ t.size ∧ z = .int .i64 (k : Int) ∧ BlkAt wr w.heap.size #[.string t, L] 25 ∧ LiveAt wr L v ∧ Below w.heap.size w wr ∧ Hid ((List.range k).any (actAt t.data.toList v) = false)) (fun z _ => t.size - (intOf z).toNat)
  case atStart => exact ⟨0, Nat.zero_le _, rfl, hP1, hL1, hb1, Lib.hid rfl⟩
  case round =>
    obtain ⟨k, hk9, rfl, hP2, hL2, hb2, HR⟩ := hrel
    clear hP1 hL1 hb1 hwA
    by_cases hk : k < t.size
    · have hI1 := refIs_is t L v k 42
      have hI2 := refIs_is t L v k 63
      have hI3 := refBracket_is t ht L v k (by omega)
      have hG := brI_ge (brB t.data.toList v k)
      have HA : Hid (actAt t.data.toList v k = if isB t.data.toList v k 42 then true else if isB t.data.toList v k 63 then true else (brB t.data.toList v k).isSome) := Lib.hid rfl
      generalize isB t.data.toList v k 42 = y1 at *
      generalize isB t.data.toList v k 63 = y2 at *
      generalize (brB t.data.toList v k).isSome = y3 at *
      generalize brI (brB t.data.toList v k) = q at *
      have H1 := Lib.hid hI1
      have H2 := Lib.hid hI2
      have H3 := Lib.hid hI3
      have HG := Lib.hid hG
      clear hI1 hI2 hI3 hG
      unfold patV at H1 H2 H3
      have c0 := hP2.cell 0 (v := .string t) rfl
      have c1 := hP2.cell 1 (v := L) rfl
      go_wp2_with fail
      clear c0 c1
      refine (H1.out _ hL2).mono ?_
      rintro ending w3 ⟨rfl, j2⟩
      have hP3 := hP2.after j2
      have hL3 := hL2.after j2
      have hb3 := bel_step hb2 j2
      clear hP2 hL2 hb2 j2
      cases y1 with
      | true =>
        have HT : Hid (actAt t.data.toList v k = true) := Lib.hid HA.out
        have HE := Lib.hid hb3
        clear hb3
        go_wp2
        go_ret
        exact ⟨by rw [act_yes (by rw [len_list]; exact hk) HT.out]; rfl, HE.out⟩
      | false =>
        have c0 := hP3.cell 0 (v := .string t) rfl
        have c1 := hP3.cell 1 (v := L) rfl
        go_wp2_with fail
        clear c0 c1
        refine (H2.out _ hL3).mono ?_
        rintro ending w4 ⟨rfl, j3⟩
        have hP4 := hP3.after j3
        have hL4 := hL3.after j3
        have hb4 := bel_step hb3 j3
        clear hP3 hL3 hb3 j3
        cases y2 with
        | true =>
          have HT : Hid (actAt t.data.toList v k = true) := Lib.hid HA.out
          have HE := Lib.hid hb4
          clear hb4
          go_wp2
          go_ret
          exact ⟨by rw [act_yes (by rw [len_list]; exact hk) HT.out]; rfl, HE.out⟩
        | false =>
          have c0 := hP4.cell 0 (v := .string t) rfl
          have c1 := hP4.cell 1 (v := L) rfl
          go_wp2_with fail
          clear c0 c1
          refine (H3.out _ hL4).mono ?_
          rintro ending w5 ⟨rfl, j4⟩
          have hP5 := hP4.after j4
          have hL5 := hL4.after j4
          have hb5 := bel_step hb4 j4
          clear hP4 hL4 hb4 j4
          have hG := HG.out
          cases y3 with
          | true =>
            have HT : Hid (actAt t.data.toList v k = true) := Lib.hid HA.out
            have HE := Lib.hid hb5
            clear hb5
            go_wp2
            go_ret
            exact ⟨by rw [act_yes (by rw [len_list]; exact hk) HT.out]; rfl, HE.out⟩
          | false =>
            have HT : Hid (actAt t.data.toList v k = false) := Lib.hid HA.out
            go_wp2
            go_roundw
            case rel => exact ⟨k + 1, by omega, by go_num, hP5, hL5, hb5, Lib.hid (any_more HR.out HT.out)⟩
            case measure => simp [intOf]; omega
    · have hA : actB t.data.toList v = false := by
        unfold actB
        rw [len_list, show t.size = k by omega]
        exact HR.out
      have HN := Lib.hid hA
      have HE := Lib.hid hb2
      have c0 := hP2.cell 0 (v := .string t) rfl
      clear hA hb2
      go_wp2
      go_ret
      exact ⟨by rw [HN.out]; rfl, HE.out⟩
end Go.Proofs.Ytmpneifjjnfckaa
