/-
  The contract of the document's Cut (conchref1). (By wip/tools/gen_refcut.py.)
-/
import Derived.Test.YtmpneifjjnfckaaRefMatch
import Derived.Test.YtmpneifjjnfckaaCutPlain
import Derived.Test.YtmpneifjjnfckaaPlain
namespace Go.Proofs.Ytmpneifjjnfckaa
open Go.RowKit

set_option maxHeartbeats 16000000 in
set_option maxRecDepth 100000 in
theorem refCut_is (t : ByteArray) (ht : t.size ≤ 1048576) (L : Value) (v : List Bool) (s : ByteArray) (hs : s.size ≤ 1048576) (front long : Bool) (w : World) (hL : LiveAt w L v) : Calls Try.prog 15 #[patV t L, .string s, .bool front, .bool long] w (Gives w (.string ⟨(cutB (patB t.data.toList v) s.data.toList front long).toArray⟩)) := by
  obtain ⟨wA, hwA, hb1, hP1⟩ := lay_pat w t L
  have hL0 := Lib.hid hL
  clear hL
  have hR : cutB (patB t.data.toList v) s.data.toList front long = cutF (cutAt (patB t.data.toList v) s.data.toList front long) s.data.toList (s.data.toList.length + 1 - 0) 0 := rfl
  generalize cutB (patB t.data.toList v) s.data.toList front long = R at *
  have HR0 := Lib.hid hR
  clear hR
  unfold patV
  cases front with
  | true =>
    cases long with
    | true =>
      go_enter Try.func15, Try.ntmps15
      go_wp2
      go_loopw [9] (fun z wr => ∃ i : Nat, i ≤ s.size + 1 ∧ z = .int .i64 (i : Int) ∧ BlkAt wr w.heap.size #[.string t, L] 25 ∧ Below w.heap.size w wr ∧ Hid (R = cutF (cutAt (patB t.data.toList v) s.data.toList true true) s.data.toList (s.data.toList.length + 1 - i) i)) (fun z _ => s.size + 1 - (intOf z).toNat)
      case atStart => exact ⟨0, Nat.zero_le _, rfl, hP1, hb1, HR0⟩
      case round =>
        obtain ⟨i, hi9, rfl, hP2, hb2, HR⟩ := hrel
        clear hP1 hb1 HR0 hwA
        by_cases hi : i ≤ s.size
        · have hK : s.data.toList.length + 1 - i = (s.data.toList.length - i) + 1 := by rw [len_list]; omega
          have hK2 : s.data.toList.length + 1 - (i + 1) = s.data.toList.length - i := by omega
          rw [hK] at HR
          obtain ⟨n, hn, hn9⟩ : ∃ n : Nat, (s.size : Int) - (i : Int) = (n : Int) ∧ n ≤ s.size := ⟨s.size - i, by omega, by omega⟩
          have HC : Hid (cutN s.data.toList true i = n) := Lib.hid (by unfold cutN; rw [if_pos rfl, len_list]; omega)
          obtain ⟨X, hX⟩ : ∃ X, s.extract 0 n = X := ⟨_, rfl⟩
          have HXl : Hid (X.data.toList = s.data.toList.take n) := Lib.hid (by rw [← hX, extract_bytes]; simp)
          have hXs : X.size ≤ 1048576 := by
            have := ByteArray.size_extract (a := s) (b := 0) (e := n)
            rw [hX] at this
            omega
          have hMt := refMatch_is t ht L v X hXs
          have HA : Hid (cutAt (patB t.data.toList v) s.data.toList true true i = if patB t.data.toList v X.data.toList then some (s.data.toList.drop n) else none) := Lib.hid (by unfold cutAt; rw [HC.out, HXl.out]; rfl)
          generalize patB t.data.toList v X.data.toList = y at *
          unfold patV at hMt
          have HMt := Lib.hid hMt
          clear hMt
          have i0 : (0 : Int) ≤ (n : Int) := by omega
          have i1 : (n : Int) ≤ (s.size : Int) := by omega
          have hLq := hL0.out.after hb2
          go_wp2
          have hP3 := hP2
          have hLq3 := hLq
          have hb3 := hb2
          clear hP2 hLq hb2
          obtain ⟨x3, hx3⟩ : ∃ x3, wr = x3 := ⟨_, rfl⟩
          subst hx3
          have L0 : ∀ q : Later wr, q.at_.cell? ⟨w.heap.size, 0, none⟩ = some (.string t) := fun q => (hP3.after q.below).cell 0 rfl
          have L1 : ∀ q : Later wr, q.at_.cell? ⟨w.heap.size, 1, none⟩ = some L := fun q => (hP3.after q.below).cell 1 rfl
          refine region_later (by kernel_rfl) (by kernel_rfl) ?_
          repeat (go_big_quiet_step (fail))
          go_big_quiet_step (exact later (HMt.out _ (hLq3.after (Later.below _))))
          repeat (go_big_quiet_step (fail))
          refine wpQuiet_nil ?_
          rintro _ ⟨q2, rfl⟩
          clear L0 L1
          have hP4 := hP3.after q2.below
          have hb4 := bel_step hb3 q2.below
          clear hP3 hLq3 hb3
          generalize q2.at_ = x4 at *
          cases y with
          | true =>
            have HV : Hid (R = s.data.toList.drop n) := Lib.hid (HR.out.trans (cutF_some HA.out))
            have HE := Lib.hid hb4
            clear hb4 hX
            go_wp2
            go_ret
            exact ⟨by rw [HV.out]; exact congrArg (fun x => Ending.returned (Value.string x)) (by rw [extract_bytes]; simp; exact List.take_of_length_le (by simp)), HE.out⟩
          | false =>
            have HV : Hid (R = cutF (cutAt (patB t.data.toList v) s.data.toList true true) s.data.toList (s.data.toList.length + 1 - (i + 1)) (i + 1)) := Lib.hid (by rw [hK2]; exact HR.out.trans (cutF_none HA.out))
            clear hX HR
            go_wp2
            refine region_later (by kernel_rfl) (by kernel_rfl) ?_
            repeat (go_big_quiet_step (fail))
            refine wpQuiet_nil ?_
            rintro _ ⟨q3, rfl⟩
            have hP5 := hP4.after q3.below
            have hb5 := bel_step hb4 q3.below
            clear hP4 hb4
            generalize q3.at_ = x5 at *
            clear hK hK2
            go_wp2
            go_roundw
            case rel => exact ⟨i + 1, by omega, by go_num, hP5, hb5, HV⟩
            case measure => simp [intOf]; omega
        · have HV : Hid (R = s.data.toList) := Lib.hid (by rw [HR.out, show s.data.toList.length + 1 - i = 0 by rw [len_list]; omega]; rfl)
          have HE := Lib.hid hb2
          clear hb2 HR
          go_wp2
          go_ret
          exact ⟨by rw [HV.out]; rfl, HE.out⟩
    | false =>
      go_enter Try.func15, Try.ntmps15
      go_wp2
      go_loopw [9] (fun z wr => ∃ i : Nat, i ≤ s.size + 1 ∧ z = .int .i64 (i : Int) ∧ BlkAt wr w.heap.size #[.string t, L] 25 ∧ Below w.heap.size w wr ∧ Hid (R = cutF (cutAt (patB t.data.toList v) s.data.toList true false) s.data.toList (s.data.toList.length + 1 - i) i)) (fun z _ => s.size + 1 - (intOf z).toNat)
      case atStart => exact ⟨0, Nat.zero_le _, rfl, hP1, hb1, HR0⟩
      case round =>
        obtain ⟨i, hi9, rfl, hP2, hb2, HR⟩ := hrel
        clear hP1 hb1 HR0 hwA
        by_cases hi : i ≤ s.size
        · have hK : s.data.toList.length + 1 - i = (s.data.toList.length - i) + 1 := by rw [len_list]; omega
          have hK2 : s.data.toList.length + 1 - (i + 1) = s.data.toList.length - i := by omega
          rw [hK] at HR
          have HC : Hid (cutN s.data.toList false i = i) := Lib.hid (by unfold cutN; rfl)
          obtain ⟨X, hX⟩ : ∃ X, s.extract 0 i = X := ⟨_, rfl⟩
          have HXl : Hid (X.data.toList = s.data.toList.take i) := Lib.hid (by rw [← hX, extract_bytes]; simp)
          have hXs : X.size ≤ 1048576 := by
            have := ByteArray.size_extract (a := s) (b := 0) (e := i)
            rw [hX] at this
            omega
          have hMt := refMatch_is t ht L v X hXs
          have HA : Hid (cutAt (patB t.data.toList v) s.data.toList true false i = if patB t.data.toList v X.data.toList then some (s.data.toList.drop i) else none) := Lib.hid (by unfold cutAt; rw [HC.out, HXl.out]; rfl)
          generalize patB t.data.toList v X.data.toList = y at *
          unfold patV at hMt
          have HMt := Lib.hid hMt
          clear hMt
          have i0 : (0 : Int) ≤ (i : Int) := by omega
          have i1 : (i : Int) ≤ (s.size : Int) := by omega
          have hLq := hL0.out.after hb2
          go_wp2
          have hP3 := hP2
          have hLq3 := hLq
          have hb3 := hb2
          clear hP2 hLq hb2
          obtain ⟨x3, hx3⟩ : ∃ x3, wr = x3 := ⟨_, rfl⟩
          subst hx3
          have L0 : ∀ q : Later wr, q.at_.cell? ⟨w.heap.size, 0, none⟩ = some (.string t) := fun q => (hP3.after q.below).cell 0 rfl
          have L1 : ∀ q : Later wr, q.at_.cell? ⟨w.heap.size, 1, none⟩ = some L := fun q => (hP3.after q.below).cell 1 rfl
          refine region_later (by kernel_rfl) (by kernel_rfl) ?_
          repeat (go_big_quiet_step (fail))
          go_big_quiet_step (exact later (HMt.out _ (hLq3.after (Later.below _))))
          repeat (go_big_quiet_step (fail))
          refine wpQuiet_nil ?_
          rintro _ ⟨q2, rfl⟩
          clear L0 L1
          have hP4 := hP3.after q2.below
          have hb4 := bel_step hb3 q2.below
          clear hP3 hLq3 hb3
          generalize q2.at_ = x4 at *
          cases y with
          | true =>
            have HV : Hid (R = s.data.toList.drop i) := Lib.hid (HR.out.trans (cutF_some HA.out))
            have HE := Lib.hid hb4
            clear hb4 hX
            go_wp2
            go_ret
            exact ⟨by rw [HV.out]; exact congrArg (fun x => Ending.returned (Value.string x)) (by rw [extract_bytes]; simp; exact List.take_of_length_le (by simp)), HE.out⟩
          | false =>
            have HV : Hid (R = cutF (cutAt (patB t.data.toList v) s.data.toList true false) s.data.toList (s.data.toList.length + 1 - (i + 1)) (i + 1)) := Lib.hid (by rw [hK2]; exact HR.out.trans (cutF_none HA.out))
            clear hX HR
            go_wp2
            refine region_later (by kernel_rfl) (by kernel_rfl) ?_
            repeat (go_big_quiet_step (fail))
            refine wpQuiet_nil ?_
            rintro _ ⟨q3, rfl⟩
            have hP5 := hP4.after q3.below
            have hb5 := bel_step hb4 q3.below
            clear hP4 hb4
            generalize q3.at_ = x5 at *
            clear hK hK2
            go_wp2
            go_roundw
            case rel => exact ⟨i + 1, by omega, by go_num, hP5, hb5, HV⟩
            case measure => simp [intOf]; omega
        · have HV : Hid (R = s.data.toList) := Lib.hid (by rw [HR.out, show s.data.toList.length + 1 - i = 0 by rw [len_list]; omega]; rfl)
          have HE := Lib.hid hb2
          clear hb2 HR
          go_wp2
          go_ret
          exact ⟨by rw [HV.out]; rfl, HE.out⟩
  | false =>
    cases long with
    | true =>
      go_enter Try.func15, Try.ntmps15
      go_wp2
      go_loopw [9] (fun z wr => ∃ i : Nat, i ≤ s.size + 1 ∧ z = .int .i64 (i : Int) ∧ BlkAt wr w.heap.size #[.string t, L] 25 ∧ Below w.heap.size w wr ∧ Hid (R = cutF (cutAt (patB t.data.toList v) s.data.toList false true) s.data.toList (s.data.toList.length + 1 - i) i)) (fun z _ => s.size + 1 - (intOf z).toNat)
      case atStart => exact ⟨0, Nat.zero_le _, rfl, hP1, hb1, HR0⟩
      case round =>
        obtain ⟨i, hi9, rfl, hP2, hb2, HR⟩ := hrel
        clear hP1 hb1 HR0 hwA
        by_cases hi : i ≤ s.size
        · have hK : s.data.toList.length + 1 - i = (s.data.toList.length - i) + 1 := by rw [len_list]; omega
          have hK2 : s.data.toList.length + 1 - (i + 1) = s.data.toList.length - i := by omega
          rw [hK] at HR
          obtain ⟨n, hn, hn9⟩ : ∃ n : Nat, (s.size : Int) - (i : Int) = (n : Int) ∧ n ≤ s.size := ⟨s.size - i, by omega, by omega⟩
          have HC : Hid (cutN s.data.toList true i = n) := Lib.hid (by unfold cutN; rw [if_pos rfl, len_list]; omega)
          obtain ⟨m, hm, hm9⟩ : ∃ m : Nat, (s.size : Int) - (n : Int) = (m : Int) ∧ m ≤ s.size := ⟨s.size - n, by omega, by omega⟩
          have HM : Hid (s.data.toList.length - n = m) := Lib.hid (by rw [len_list]; omega)
          obtain ⟨X, hX⟩ : ∃ X, s.extract m s.size = X := ⟨_, rfl⟩
          have HXl : Hid (X.data.toList = s.data.toList.drop m) := Lib.hid (by rw [← hX, extract_bytes]; simp; exact List.take_of_length_le (by simp))
          have hXs : X.size ≤ 1048576 := by
            have := ByteArray.size_extract (a := s) (b := m) (e := s.size)
            rw [hX] at this
            omega
          have hMt := refMatch_is t ht L v X hXs
          have HA : Hid (cutAt (patB t.data.toList v) s.data.toList false true i = if patB t.data.toList v X.data.toList then some (s.data.toList.take m) else none) := Lib.hid (by unfold cutAt; rw [HC.out, HM.out, HXl.out]; rfl)
          generalize patB t.data.toList v X.data.toList = y at *
          unfold patV at hMt
          have HMt := Lib.hid hMt
          clear hMt
          have i0 : (0 : Int) ≤ (m : Int) := by omega
          have i1 : (m : Int) ≤ (s.size : Int) := by omega
          have hLq := hL0.out.after hb2
          go_wp2
          refine region_later (by kernel_rfl) (by kernel_rfl) ?_
          repeat (go_big_quiet_step (fail))
          refine wpQuiet_nil ?_
          rintro _ ⟨q, rfl⟩
          have hP3 := hP2.after q.below
          have hLq3 := hLq.after q.below
          have hb3 := bel_step hb2 q.below
          clear hP2 hLq hb2
          generalize q.at_ = x3 at *
          go_wp2
          have L0 : ∀ q : Later x3, q.at_.cell? ⟨w.heap.size, 0, none⟩ = some (.string t) := fun q => (hP3.after q.below).cell 0 rfl
          have L1 : ∀ q : Later x3, q.at_.cell? ⟨w.heap.size, 1, none⟩ = some L := fun q => (hP3.after q.below).cell 1 rfl
          refine region_later (by kernel_rfl) (by kernel_rfl) ?_
          repeat (go_big_quiet_step (fail))
          go_big_quiet_step (exact later (HMt.out _ (hLq3.after (Later.below _))))
          repeat (go_big_quiet_step (fail))
          refine wpQuiet_nil ?_
          rintro _ ⟨q2, rfl⟩
          clear L0 L1
          have hP4 := hP3.after q2.below
          have hb4 := bel_step hb3 q2.below
          clear hP3 hLq3 hb3
          generalize q2.at_ = x4 at *
          cases y with
          | true =>
            have HV : Hid (R = s.data.toList.take m) := Lib.hid (HR.out.trans (cutF_some HA.out))
            have HE := Lib.hid hb4
            clear hb4 hX
            go_wp2
            go_ret
            exact ⟨by rw [HV.out]; exact congrArg (fun x => Ending.returned (Value.string x)) (by rw [extract_bytes]; simp), HE.out⟩
          | false =>
            have HV : Hid (R = cutF (cutAt (patB t.data.toList v) s.data.toList false true) s.data.toList (s.data.toList.length + 1 - (i + 1)) (i + 1)) := Lib.hid (by rw [hK2]; exact HR.out.trans (cutF_none HA.out))
            clear hX HR
            have hP5 := hP4
            have hb5 := hb4
            clear hP4 hb4
            clear hK hK2
            go_wp2
            go_roundw
            case rel => exact ⟨i + 1, by omega, by go_num, hP5, hb5, HV⟩
            case measure => simp [intOf]; omega
        · have HV : Hid (R = s.data.toList) := Lib.hid (by rw [HR.out, show s.data.toList.length + 1 - i = 0 by rw [len_list]; omega]; rfl)
          have HE := Lib.hid hb2
          clear hb2 HR
          go_wp2
          go_ret
          exact ⟨by rw [HV.out]; rfl, HE.out⟩
    | false =>
      go_enter Try.func15, Try.ntmps15
      go_wp2
      go_loopw [9] (fun z wr => ∃ i : Nat, i ≤ s.size + 1 ∧ z = .int .i64 (i : Int) ∧ BlkAt wr w.heap.size #[.string t, L] 25 ∧ Below w.heap.size w wr ∧ Hid (R = cutF (cutAt (patB t.data.toList v) s.data.toList false false) s.data.toList (s.data.toList.length + 1 - i) i)) (fun z _ => s.size + 1 - (intOf z).toNat)
      case atStart => exact ⟨0, Nat.zero_le _, rfl, hP1, hb1, HR0⟩
      case round =>
        obtain ⟨i, hi9, rfl, hP2, hb2, HR⟩ := hrel
        clear hP1 hb1 HR0 hwA
        by_cases hi : i ≤ s.size
        · have hK : s.data.toList.length + 1 - i = (s.data.toList.length - i) + 1 := by rw [len_list]; omega
          have hK2 : s.data.toList.length + 1 - (i + 1) = s.data.toList.length - i := by omega
          rw [hK] at HR
          have HC : Hid (cutN s.data.toList false i = i) := Lib.hid (by unfold cutN; rfl)
          obtain ⟨m, hm, hm9⟩ : ∃ m : Nat, (s.size : Int) - (i : Int) = (m : Int) ∧ m ≤ s.size := ⟨s.size - i, by omega, by omega⟩
          have HM : Hid (s.data.toList.length - i = m) := Lib.hid (by rw [len_list]; omega)
          obtain ⟨X, hX⟩ : ∃ X, s.extract m s.size = X := ⟨_, rfl⟩
          have HXl : Hid (X.data.toList = s.data.toList.drop m) := Lib.hid (by rw [← hX, extract_bytes]; simp; exact List.take_of_length_le (by simp))
          have hXs : X.size ≤ 1048576 := by
            have := ByteArray.size_extract (a := s) (b := m) (e := s.size)
            rw [hX] at this
            omega
          have hMt := refMatch_is t ht L v X hXs
          have HA : Hid (cutAt (patB t.data.toList v) s.data.toList false false i = if patB t.data.toList v X.data.toList then some (s.data.toList.take m) else none) := Lib.hid (by unfold cutAt; rw [HC.out, HM.out, HXl.out]; rfl)
          generalize patB t.data.toList v X.data.toList = y at *
          unfold patV at hMt
          have HMt := Lib.hid hMt
          clear hMt
          have i0 : (0 : Int) ≤ (m : Int) := by omega
          have i1 : (m : Int) ≤ (s.size : Int) := by omega
          have hLq := hL0.out.after hb2
          go_wp2
          refine region_later (by kernel_rfl) (by kernel_rfl) ?_
          repeat (go_big_quiet_step (fail))
          refine wpQuiet_nil ?_
          rintro _ ⟨q, rfl⟩
          have hP3 := hP2.after q.below
          have hLq3 := hLq.after q.below
          have hb3 := bel_step hb2 q.below
          clear hP2 hLq hb2
          generalize q.at_ = x3 at *
          go_wp2
          have L0 : ∀ q : Later x3, q.at_.cell? ⟨w.heap.size, 0, none⟩ = some (.string t) := fun q => (hP3.after q.below).cell 0 rfl
          have L1 : ∀ q : Later x3, q.at_.cell? ⟨w.heap.size, 1, none⟩ = some L := fun q => (hP3.after q.below).cell 1 rfl
          refine region_later (by kernel_rfl) (by kernel_rfl) ?_
          repeat (go_big_quiet_step (fail))
          go_big_quiet_step (exact later (HMt.out _ (hLq3.after (Later.below _))))
          repeat (go_big_quiet_step (fail))
          refine wpQuiet_nil ?_
          rintro _ ⟨q2, rfl⟩
          clear L0 L1
          have hP4 := hP3.after q2.below
          have hb4 := bel_step hb3 q2.below
          clear hP3 hLq3 hb3
          generalize q2.at_ = x4 at *
          cases y with
          | true =>
            have HV : Hid (R = s.data.toList.take m) := Lib.hid (HR.out.trans (cutF_some HA.out))
            have HE := Lib.hid hb4
            clear hb4 hX
            go_wp2
            go_ret
            exact ⟨by rw [HV.out]; exact congrArg (fun x => Ending.returned (Value.string x)) (by rw [extract_bytes]; simp), HE.out⟩
          | false =>
            have HV : Hid (R = cutF (cutAt (patB t.data.toList v) s.data.toList false false) s.data.toList (s.data.toList.length + 1 - (i + 1)) (i + 1)) := Lib.hid (by rw [hK2]; exact HR.out.trans (cutF_none HA.out))
            clear hX HR
            have hP5 := hP4
            have hb5 := hb4
            clear hP4 hb4
            clear hK hK2
            go_wp2
            go_roundw
            case rel => exact ⟨i + 1, by omega, by go_num, hP5, hb5, HV⟩
            case measure => simp [intOf]; omega
        · have HV : Hid (R = s.data.toList) := Lib.hid (by rw [HR.out, show s.data.toList.length + 1 - i = 0 by rw [len_list]; omega]; rfl)
          have HE := Lib.hid hb2
          clear hb2 HR
          go_wp2
          go_ret
          exact ⟨by rw [HV.out]; rfl, HE.out⟩
end Go.Proofs.Ytmpneifjjnfckaa
