/-
  Contracts of package pat's means and lastClose.
-/
import Derived.Test.YtmpneifjjnfckaaPatGives
import Derived.Deep.Cut
namespace Go.Proofs.Ytmpneifjjnfckaa
open Go.RowKit

set_option maxHeartbeats 4000000 in
set_option maxRecDepth 100000 in
theorem means_is (t : ByteArray) (L : Value) (v : List Bool) (i c : Nat) (w : World) (hL : LiveAt w L v) : Calls Try.prog 23 #[patV t L, .int .i64 (i : Int), .int .u8 (c : Int)] w (Gives w (.bool (isB t.data.toList v i c))) := by
  obtain ⟨wA, hwA, hb, hP⟩ := lay_pat w t L
  have hLA := hL.after hb
  clear hL
  obtain ⟨ao, cap, rfl, hl, hc⟩ := hLA
  have c0 := hP.cell 0 (v := .string t) rfl
  have c1 := hP.cell 1 (v := .slice ao v.length cap) rfl
  have HR : Hid (isB t.data.toList v i c = if i < t.size then (if livB v i then decide (byt t.data.toList i = c) else false) else false) := Lib.hid (by unfold isB; rw [len_list])
  generalize isB t.data.toList v i c = r at *
  unfold maxLen at hl
  have HB := Lib.hid hb
  clear hb hP
  unfold patV
  by_cases hi : i < t.size
  · have h1 : (i : Int) < (t.size : Int) := by omega
    have h0 : (0 : Int) ≤ (i : Int) := by omega
    have HY := Lib.hid (byt_at t i hi)
    have HR2 : Hid (r = if livB v i then decide (byt t.data.toList i = c) else false) := Lib.hid (by rw [HR.out, if_pos hi])
    clear HR
    by_cases hv : i < v.length
    · obtain ⟨x, hx⟩ : ∃ x, v[i]? = some x := ⟨_, List.getElem?_eq_getElem hv⟩
      obtain ⟨b, o, rfl, hcell⟩ := hc i x hx
      have HV : Hid (livB v i = x) := Lib.hid (by unfold livB; rw [List.getD_eq_getElem?_getD, hx]; rfl)
      generalize v.length = n at *
      clear hc hx
      cases x with
      | false =>
        go_enter Try.func23, Try.ntmps23
        go_wp2
        go_ret
        exact ⟨by rw [HR2.out, HV.out]; rfl, HB.out⟩
      | true =>
        by_cases hz : t[i].toNat = c
        · have hz2 : ((t[i].toNat : Int) == (c : Int)) = true := by rw [hz]; simp
          have HZ := Lib.hid hz
          clear hz
          go_enter Try.func23, Try.ntmps23
          go_wp2
          go_ret
          exact ⟨by rw [HR2.out, HV.out, HY.out, HZ.out]; simp, HB.out⟩
        · have hz2 : ((t[i].toNat : Int) == (c : Int)) = false := by rw [beq_eq_false_iff_ne]; omega
          have HZ := Lib.hid hz
          clear hz
          go_enter Try.func23, Try.ntmps23
          go_wp2
          go_ret
          exact ⟨by rw [HR2.out, HV.out, HY.out]; simp [HZ.out], HB.out⟩
    · have HV : Hid (livB v i = false) := Lib.hid (by unfold livB; rw [List.getD_eq_getElem?_getD, List.getElem?_eq_none (by omega)]; rfl)
      have h2 : decide (i < v.length) = false := decide_eq_false (by omega)
      generalize v.length = n at *
      clear hc
      go_enter Try.func23, Try.ntmps23
      go_wp2
      go_ret
      exact ⟨by rw [HR2.out, HV.out]; rfl, HB.out⟩
  · have HR2 : Hid (r = false) := Lib.hid (by rw [HR.out, if_neg hi])
    have h2 : decide (i < t.size) = false := decide_eq_false (by omega)
    clear HR hc
    go_enter Try.func23, Try.ntmps23
    go_wp2
    go_ret
    exact ⟨by rw [HR2.out]; rfl, HB.out⟩

/-- where the last live ] below n stands; -1: nowhere -/
def lastI (t : List UInt8) (v : List Bool) : Nat → Int
  | 0 => -1
  | n + 1 => if isB t v n 93 then n else lastI t v n

set_option maxHeartbeats 4000000 in
set_option maxRecDepth 100000 in
theorem lastClose_is (t : ByteArray) (ht : t.size ≤ 1048576) (L : Value) (v : List Bool) (w : World) (hL : LiveAt w L v) : Calls Try.prog 22 #[patV t L] w (Gives w (.int .i64 (lastI t.data.toList v t.size))) := by
  obtain ⟨wA, hwA, hb, hP⟩ := lay_pat w t L
  have hLA := hL.after hb
  clear hL
  have HI := fun i => Lib.hid (means_is t L v i 93)
  obtain ⟨R, hR⟩ : ∃ R, lastI t.data.toList v t.size = R := ⟨_, rfl⟩
  rw [hR]
  have HR := Lib.hid hR
  clear hR
  have c0 := hP.cell 0 (v := .string t) rfl
  unfold patV at HI ⊢
  go_enter Try.func22, Try.ntmps22
  go_wp2
  clear hwA c0
  go_loopw [3] (fun i wr => ∃ k : Nat, k ≤ t.size ∧ i = .int .i64 ((k : Int) - 1) ∧ BlkAt wr w.heap.size #[.string t, L] 25 ∧ LiveAt wr L v ∧ Below w.heap.size w wr ∧ Hid (lastI t.data.toList v k = R)) (fun i _ => (intOf i + 1).toNat)
  case atStart => exact ⟨t.size, Nat.le_refl _, rfl, hP, hLA, hb, HR⟩
  case round =>
    clear hP hLA hb
    obtain ⟨k, hk, rfl, hP, hLv, hb, HK⟩ := hrel
    have c0 := hP.cell 0 (v := .string t) rfl
    have c1 := hP.cell 1 (v := L) rfl
    cases k with
    | zero =>
      have e0 : ((0 : Nat) : Int) - 1 = -1 := rfl
      have HB := Lib.hid hb
      clear hb
      rw [e0]
      go_wp2
      go_ret
      exact ⟨by rw [← HK.out]; rfl, HB.out⟩
    | succ k =>
      have e0 : ((k + 1 : Nat) : Int) - 1 = (k : Int) := by omega
      rw [e0]
      have h0 : (0 : Int) ≤ (k : Int) := by omega
      have HC := HI k
      have HK2 : Hid ((if isB t.data.toList v k 93 then (k : Int) else lastI t.data.toList v k) = R) := HK
      generalize isB t.data.toList v k 93 = z at *
      go_wp2_with fail
      refine (HC.out _ hLv).mono ?_
      rintro e w1 ⟨rfl, hb1⟩
      have hP1 := hP.after hb1
      have hL1 := hLv.after hb1
      have hb2 := bel_step hb hb1
      clear hb1 hb hP hLv c0 c1
      cases z with
      | true =>
        have HB := Lib.hid hb2
        clear hb2
        go_wp2
        go_ret
        exact ⟨by rw [← HK2.out]; rfl, HB.out⟩
      | false =>
        go_wp2
        go_round
        case rel => exact ⟨k, by omega, rfl, hP1, hL1, hb2, HK2⟩
        case measure => simp [intOf]
end Go.Proofs.Ytmpneifjjnfckaa
