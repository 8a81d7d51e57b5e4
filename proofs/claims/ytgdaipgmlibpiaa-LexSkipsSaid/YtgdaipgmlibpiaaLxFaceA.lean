/-
  The contracts of package lex (Reserved, Ends, Op, Skip, Single), over its code as it landed. (By wip/tools/gen_lxface.py.)
-/
import Derived.Test.YtgdaipgmlibpiaaLxRuns
import Derived.Lib.Walk
import Derived.Lib.Bytealg
namespace Go.Proofs.Ytgdaipgmlibpiaa
open Go.RowKit

set_option maxHeartbeats 4000000 in
theorem lxReserved_is (s : ByteArray) (w : World) : Calls Try.prog 7 #[.string s] w fun e w' => e = .returned (.bool (resB s.data.toList)) ∧ w = w' := by
  by_cases h0 : s.data.toList = [105, 102]
  · obtain rfl := bytes_eqL h0
    clear h0
    go_enter Try.func7, Try.ntmps7
    go_wp2
    go_ret
    exact ⟨rfl, rfl⟩
  by_cases h1 : s.data.toList = [116, 104, 101, 110]
  · obtain rfl := bytes_eqL h1
    clear h0 h1
    go_enter Try.func7, Try.ntmps7
    go_wp2
    go_ret
    exact ⟨rfl, rfl⟩
  by_cases h2 : s.data.toList = [101, 108, 115, 101]
  · obtain rfl := bytes_eqL h2
    clear h0 h1 h2
    go_enter Try.func7, Try.ntmps7
    go_wp2
    go_ret
    exact ⟨rfl, rfl⟩
  by_cases h3 : s.data.toList = [101, 108, 105, 102]
  · obtain rfl := bytes_eqL h3
    clear h0 h1 h2 h3
    go_enter Try.func7, Try.ntmps7
    go_wp2
    go_ret
    exact ⟨rfl, rfl⟩
  by_cases h4 : s.data.toList = [102, 105]
  · obtain rfl := bytes_eqL h4
    clear h0 h1 h2 h3 h4
    go_enter Try.func7, Try.ntmps7
    go_wp2
    go_ret
    exact ⟨rfl, rfl⟩
  by_cases h5 : s.data.toList = [119, 104, 105, 108, 101]
  · obtain rfl := bytes_eqL h5
    clear h0 h1 h2 h3 h4 h5
    go_enter Try.func7, Try.ntmps7
    go_wp2
    go_ret
    exact ⟨rfl, rfl⟩
  by_cases h6 : s.data.toList = [117, 110, 116, 105, 108]
  · obtain rfl := bytes_eqL h6
    clear h0 h1 h2 h3 h4 h5 h6
    go_enter Try.func7, Try.ntmps7
    go_wp2
    go_ret
    exact ⟨rfl, rfl⟩
  by_cases h7 : s.data.toList = [100, 111]
  · obtain rfl := bytes_eqL h7
    clear h0 h1 h2 h3 h4 h5 h6 h7
    go_enter Try.func7, Try.ntmps7
    go_wp2
    go_ret
    exact ⟨rfl, rfl⟩
  by_cases h8 : s.data.toList = [100, 111, 110, 101]
  · obtain rfl := bytes_eqL h8
    clear h0 h1 h2 h3 h4 h5 h6 h7 h8
    go_enter Try.func7, Try.ntmps7
    go_wp2
    go_ret
    exact ⟨rfl, rfl⟩
  by_cases h9 : s.data.toList = [102, 111, 114]
  · obtain rfl := bytes_eqL h9
    clear h0 h1 h2 h3 h4 h5 h6 h7 h8 h9
    go_enter Try.func7, Try.ntmps7
    go_wp2
    go_ret
    exact ⟨rfl, rfl⟩
  by_cases h10 : s.data.toList = [99, 97, 115, 101]
  · obtain rfl := bytes_eqL h10
    clear h0 h1 h2 h3 h4 h5 h6 h7 h8 h9 h10
    go_enter Try.func7, Try.ntmps7
    go_wp2
    go_ret
    exact ⟨rfl, rfl⟩
  by_cases h11 : s.data.toList = [101, 115, 97, 99]
  · obtain rfl := bytes_eqL h11
    clear h0 h1 h2 h3 h4 h5 h6 h7 h8 h9 h10 h11
    go_enter Try.func7, Try.ntmps7
    go_wp2
    go_ret
    exact ⟨rfl, rfl⟩
  by_cases h12 : s.data.toList = [105, 110]
  · obtain rfl := bytes_eqL h12
    clear h0 h1 h2 h3 h4 h5 h6 h7 h8 h9 h10 h11 h12
    go_enter Try.func7, Try.ntmps7
    go_wp2
    go_ret
    exact ⟨rfl, rfl⟩
  by_cases h13 : s.data.toList = [123]
  · obtain rfl := bytes_eqL h13
    clear h0 h1 h2 h3 h4 h5 h6 h7 h8 h9 h10 h11 h12 h13
    go_enter Try.func7, Try.ntmps7
    go_wp2
    go_ret
    exact ⟨rfl, rfl⟩
  by_cases h14 : s.data.toList = [125]
  · obtain rfl := bytes_eqL h14
    clear h0 h1 h2 h3 h4 h5 h6 h7 h8 h9 h10 h11 h12 h13 h14
    go_enter Try.func7, Try.ntmps7
    go_wp2
    go_ret
    exact ⟨rfl, rfl⟩
  by_cases h15 : s.data.toList = [33]
  · obtain rfl := bytes_eqL h15
    clear h0 h1 h2 h3 h4 h5 h6 h7 h8 h9 h10 h11 h12 h13 h14 h15
    go_enter Try.func7, Try.ntmps7
    go_wp2
    go_ret
    exact ⟨rfl, rfl⟩
  have HP : Hid (resB s.data.toList = false) := Lib.hid (by
    unfold resB words
    simp only [List.contains_cons, List.contains_nil, Bool.or_false, Bool.or_eq_false_iff, beq_eq_false_iff_ne, ne_eq]
    exact ⟨h0, h1, h2, h3, h4, h5, h6, h7, h8, h9, h10, h11, h12, h13, h14, h15⟩)
  have k0 := bytes_neL h0
  have k1 := bytes_neL h1
  have k2 := bytes_neL h2
  have k3 := bytes_neL h3
  have k4 := bytes_neL h4
  have k5 := bytes_neL h5
  have k6 := bytes_neL h6
  have k7 := bytes_neL h7
  have k8 := bytes_neL h8
  have k9 := bytes_neL h9
  have k10 := bytes_neL h10
  have k11 := bytes_neL h11
  have k12 := bytes_neL h12
  have k13 := bytes_neL h13
  have k14 := bytes_neL h14
  have k15 := bytes_neL h15
  clear h0 h1 h2 h3 h4 h5 h6 h7 h8 h9 h10 h11 h12 h13 h14 h15
  go_enter Try.func7, Try.ntmps7
  go_wp2
  go_ret
  exact ⟨by rw [HP.out]; rfl, rfl⟩

/-- is it one operator? -/
def opsL9 : List (List UInt8) := [[59, 59], [38, 38], [124, 124], [62, 62], [60, 60], [60, 38], [62, 38], [60, 62], [62, 124], [59], [38], [124], [40], [41], [60], [62], [10]]
def isB9 (l : List UInt8) : Bool := opsL9.contains l

set_option maxHeartbeats 4000000 in
theorem lxIsOp_is (s : ByteArray) (w : World) : Calls Try.prog 17 #[.string s] w fun e w' => e = .returned (.bool (isB9 s.data.toList)) ∧ w = w' := by
  by_cases h0 : s.data.toList = [59, 59]
  · obtain rfl := bytes_eqL h0
    clear h0
    go_enter Try.func17, Try.ntmps17
    go_wp2
    go_ret
    exact ⟨rfl, rfl⟩
  by_cases h1 : s.data.toList = [38, 38]
  · obtain rfl := bytes_eqL h1
    clear h0 h1
    go_enter Try.func17, Try.ntmps17
    go_wp2
    go_ret
    exact ⟨rfl, rfl⟩
  by_cases h2 : s.data.toList = [124, 124]
  · obtain rfl := bytes_eqL h2
    clear h0 h1 h2
    go_enter Try.func17, Try.ntmps17
    go_wp2
    go_ret
    exact ⟨rfl, rfl⟩
  by_cases h3 : s.data.toList = [62, 62]
  · obtain rfl := bytes_eqL h3
    clear h0 h1 h2 h3
    go_enter Try.func17, Try.ntmps17
    go_wp2
    go_ret
    exact ⟨rfl, rfl⟩
  by_cases h4 : s.data.toList = [60, 60]
  · obtain rfl := bytes_eqL h4
    clear h0 h1 h2 h3 h4
    go_enter Try.func17, Try.ntmps17
    go_wp2
    go_ret
    exact ⟨rfl, rfl⟩
  by_cases h5 : s.data.toList = [60, 38]
  · obtain rfl := bytes_eqL h5
    clear h0 h1 h2 h3 h4 h5
    go_enter Try.func17, Try.ntmps17
    go_wp2
    go_ret
    exact ⟨rfl, rfl⟩
  by_cases h6 : s.data.toList = [62, 38]
  · obtain rfl := bytes_eqL h6
    clear h0 h1 h2 h3 h4 h5 h6
    go_enter Try.func17, Try.ntmps17
    go_wp2
    go_ret
    exact ⟨rfl, rfl⟩
  by_cases h7 : s.data.toList = [60, 62]
  · obtain rfl := bytes_eqL h7
    clear h0 h1 h2 h3 h4 h5 h6 h7
    go_enter Try.func17, Try.ntmps17
    go_wp2
    go_ret
    exact ⟨rfl, rfl⟩
  by_cases h8 : s.data.toList = [62, 124]
  · obtain rfl := bytes_eqL h8
    clear h0 h1 h2 h3 h4 h5 h6 h7 h8
    go_enter Try.func17, Try.ntmps17
    go_wp2
    go_ret
    exact ⟨rfl, rfl⟩
  by_cases h9 : s.data.toList = [59]
  · obtain rfl := bytes_eqL h9
    clear h0 h1 h2 h3 h4 h5 h6 h7 h8 h9
    go_enter Try.func17, Try.ntmps17
    go_wp2
    go_ret
    exact ⟨rfl, rfl⟩
  by_cases h10 : s.data.toList = [38]
  · obtain rfl := bytes_eqL h10
    clear h0 h1 h2 h3 h4 h5 h6 h7 h8 h9 h10
    go_enter Try.func17, Try.ntmps17
    go_wp2
    go_ret
    exact ⟨rfl, rfl⟩
  by_cases h11 : s.data.toList = [124]
  · obtain rfl := bytes_eqL h11
    clear h0 h1 h2 h3 h4 h5 h6 h7 h8 h9 h10 h11
    go_enter Try.func17, Try.ntmps17
    go_wp2
    go_ret
    exact ⟨rfl, rfl⟩
  by_cases h12 : s.data.toList = [40]
  · obtain rfl := bytes_eqL h12
    clear h0 h1 h2 h3 h4 h5 h6 h7 h8 h9 h10 h11 h12
    go_enter Try.func17, Try.ntmps17
    go_wp2
    go_ret
    exact ⟨rfl, rfl⟩
  by_cases h13 : s.data.toList = [41]
  · obtain rfl := bytes_eqL h13
    clear h0 h1 h2 h3 h4 h5 h6 h7 h8 h9 h10 h11 h12 h13
    go_enter Try.func17, Try.ntmps17
    go_wp2
    go_ret
    exact ⟨rfl, rfl⟩
  by_cases h14 : s.data.toList = [60]
  · obtain rfl := bytes_eqL h14
    clear h0 h1 h2 h3 h4 h5 h6 h7 h8 h9 h10 h11 h12 h13 h14
    go_enter Try.func17, Try.ntmps17
    go_wp2
    go_ret
    exact ⟨rfl, rfl⟩
  by_cases h15 : s.data.toList = [62]
  · obtain rfl := bytes_eqL h15
    clear h0 h1 h2 h3 h4 h5 h6 h7 h8 h9 h10 h11 h12 h13 h14 h15
    go_enter Try.func17, Try.ntmps17
    go_wp2
    go_ret
    exact ⟨rfl, rfl⟩
  by_cases h16 : s.data.toList = [10]
  · obtain rfl := bytes_eqL h16
    clear h0 h1 h2 h3 h4 h5 h6 h7 h8 h9 h10 h11 h12 h13 h14 h15 h16
    go_enter Try.func17, Try.ntmps17
    go_wp2
    go_ret
    exact ⟨rfl, rfl⟩
  have HP : Hid (isB9 s.data.toList = false) := Lib.hid (by
    unfold isB9 opsL9
    simp only [List.contains_cons, List.contains_nil, Bool.or_false, Bool.or_eq_false_iff, beq_eq_false_iff_ne, ne_eq]
    exact ⟨h0, h1, h2, h3, h4, h5, h6, h7, h8, h9, h10, h11, h12, h13, h14, h15, h16⟩)
  have k0 := bytes_neL h0
  have k1 := bytes_neL h1
  have k2 := bytes_neL h2
  have k3 := bytes_neL h3
  have k4 := bytes_neL h4
  have k5 := bytes_neL h5
  have k6 := bytes_neL h6
  have k7 := bytes_neL h7
  have k8 := bytes_neL h8
  have k9 := bytes_neL h9
  have k10 := bytes_neL h10
  have k11 := bytes_neL h11
  have k12 := bytes_neL h12
  have k13 := bytes_neL h13
  have k14 := bytes_neL h14
  have k15 := bytes_neL h15
  have k16 := bytes_neL h16
  clear h0 h1 h2 h3 h4 h5 h6 h7 h8 h9 h10 h11 h12 h13 h14 h15 h16
  go_enter Try.func17, Try.ntmps17
  go_wp2
  go_ret
  exact ⟨by rw [HP.out]; rfl, rfl⟩

set_option maxHeartbeats 4000000 in
theorem lxEnds_is (c : Nat) (w : World) : Calls Try.prog 9 #[.int .u8 (c : Int)] w fun e w' => e = .returned (.bool (endB c)) ∧ w = w' := by
  by_cases h0 : c = 32
  · subst h0
    go_enter Try.func9, Try.ntmps9
    go_wp2
    go_ret
    exact ⟨rfl, rfl⟩
  by_cases h1 : c = 9
  · subst h1
    clear h0
    go_enter Try.func9, Try.ntmps9
    go_wp2
    go_ret
    exact ⟨rfl, rfl⟩
  by_cases h2 : c = 10
  · subst h2
    clear h0 h1
    go_enter Try.func9, Try.ntmps9
    go_wp2
    go_ret
    exact ⟨rfl, rfl⟩
  by_cases h3 : c = 59
  · subst h3
    clear h0 h1 h2
    go_enter Try.func9, Try.ntmps9
    go_wp2
    go_ret
    exact ⟨rfl, rfl⟩
  by_cases h4 : c = 38
  · subst h4
    clear h0 h1 h2 h3
    go_enter Try.func9, Try.ntmps9
    go_wp2
    go_ret
    exact ⟨rfl, rfl⟩
  by_cases h5 : c = 124
  · subst h5
    clear h0 h1 h2 h3 h4
    go_enter Try.func9, Try.ntmps9
    go_wp2
    go_ret
    exact ⟨rfl, rfl⟩
  by_cases h6 : c = 40
  · subst h6
    clear h0 h1 h2 h3 h4 h5
    go_enter Try.func9, Try.ntmps9
    go_wp2
    go_ret
    exact ⟨rfl, rfl⟩
  by_cases h7 : c = 41
  · subst h7
    clear h0 h1 h2 h3 h4 h5 h6
    go_enter Try.func9, Try.ntmps9
    go_wp2
    go_ret
    exact ⟨rfl, rfl⟩
  by_cases h8 : c = 60
  · subst h8
    clear h0 h1 h2 h3 h4 h5 h6 h7
    go_enter Try.func9, Try.ntmps9
    go_wp2
    go_ret
    exact ⟨rfl, rfl⟩
  by_cases h9 : c = 62
  · subst h9
    clear h0 h1 h2 h3 h4 h5 h6 h7 h8
    go_enter Try.func9, Try.ntmps9
    go_wp2
    go_ret
    exact ⟨rfl, rfl⟩
  have HP : Hid (endB c = false) := Lib.hid (by
    unfold endB inL
    simp only [List.any_cons, List.any_nil, Bool.or_false, Bool.or_eq_false_iff, decide_eq_false_iff_not]
    exact ⟨fun e => h0 e.symm, fun e => h1 e.symm, fun e => h2 e.symm, fun e => h3 e.symm, fun e => h4 e.symm, fun e => h5 e.symm, fun e => h6 e.symm, fun e => h7 e.symm, fun e => h8 e.symm, fun e => h9 e.symm⟩)
  have k0 : ((c : Int) == 32) = false := by rw [beq_eq_false_iff_ne]; omega
  have k1 : ((c : Int) == 9) = false := by rw [beq_eq_false_iff_ne]; omega
  have k2 : ((c : Int) == 10) = false := by rw [beq_eq_false_iff_ne]; omega
  have k3 : ((c : Int) == 59) = false := by rw [beq_eq_false_iff_ne]; omega
  have k4 : ((c : Int) == 38) = false := by rw [beq_eq_false_iff_ne]; omega
  have k5 : ((c : Int) == 124) = false := by rw [beq_eq_false_iff_ne]; omega
  have k6 : ((c : Int) == 40) = false := by rw [beq_eq_false_iff_ne]; omega
  have k7 : ((c : Int) == 41) = false := by rw [beq_eq_false_iff_ne]; omega
  have k8 : ((c : Int) == 60) = false := by rw [beq_eq_false_iff_ne]; omega
  have k9 : ((c : Int) == 62) = false := by rw [beq_eq_false_iff_ne]; omega
  clear h0 h1 h2 h3 h4 h5 h6 h7 h8 h9
  go_enter Try.func9, Try.ntmps9
  go_wp2
  go_ret
  exact ⟨by rw [HP.out]; rfl, rfl⟩

/-- the longest operator of at most k bytes -/
def goO (t : List UInt8) : Nat → Option (List UInt8)
  | 0 => none
  | k + 1 => if isB9 (t.take (k + 1)) then some (t.take (k + 1)) else goO t k
theorem goO_yes {t : List UInt8} {k : Nat} (h : isB9 (t.take (k + 1)) = true) : goO t (k + 1) = some (t.take (k + 1)) := by rw [goO, if_pos h]
theorem goO_no {t : List UInt8} {k : Nat} (h : isB9 (t.take (k + 1)) = false) : goO t (k + 1) = goO t k := by rw [goO, h]; rfl
theorem isB9_one (c : UInt8) : isB9 [c] = oneO c.toNat := by
  have key : ∀ n : Fin 256, isB9 [UInt8.ofNat n.val] = oneO (UInt8.ofNat n.val).toNat := by decide +kernel
  have h := key ⟨c.toNat, c.toNat_lt⟩
  rw [show UInt8.ofNat (Fin.val ⟨c.toNat, c.toNat_lt⟩) = c from UInt8.ofNat_toNat] at h
  exact h
theorem isB9_two (c d : UInt8) : isB9 [c, d] = twoO [c, d] := by
  unfold isB9 opsL9 twoO twos
  simp
theorem goO_is (t : List UInt8) : goO t (min 2 t.length) = opT t := by
  match t with
  | [] => rfl
  | [c] =>
    show goO [c] 1 = _
    unfold opT
    rw [goO, show ([c] : List UInt8).take 1 = [c] from rfl, isB9_one, show ([c] : List UInt8).take 2 = [c] from rfl, show twoO [c] = false by simp [twoO, twos]]
    rfl
  | c :: d :: r =>
    rw [show min 2 (c :: d :: r).length = 2 by simp only [List.length_cons]; omega]
    unfold opT
    rw [goO, goO, show (c :: d :: r).take (1 + 1) = [c, d] from rfl, show (c :: d :: r).take (0 + 1) = [c] from rfl, isB9_one, isB9_two]
    rfl
theorem lxV_some {s : ByteArray} {l : List UInt8} (h : s.data.toList = l) : lxV (some l) = .tuple #[.string s, .bool true] := by subst h; rfl

set_option maxHeartbeats 4000000 in
set_option maxRecDepth 100000 in
theorem lxOp_is (s : ByteArray) (at_ : Int) (hs : s.size ≤ 1048576) (h1 : at_ ≤ 9223372036854775807) (w : World) : Calls Try.prog 8 #[.string s, .int .i64 at_] w fun e w' => e = .returned (lxV (opP s.data.toList at_)) ∧ w = w' := by
  by_cases ha : at_ < 0
  · have HP : Hid (opP s.data.toList at_ = none) := Lib.hid (by unfold opP; rw [if_neg (by omega)])
    have d0 : decide (at_ < 0) = true := decide_eq_true ha
    go_enter Try.func8, Try.ntmps8
    go_wp2
    go_ret2
    exact ⟨by rw [HP.out]; rfl, rfl⟩
  obtain ⟨n, rfl⟩ := Int.eq_ofNat_of_zero_le (show 0 ≤ at_ by omega)
  have d0 : decide ((n : Int) < 0) = false := decide_eq_false (by omega)
  have hn0 : (0 : Int) ≤ (n : Int) := by omega
  clear ha
  obtain ⟨R, hR⟩ : ∃ R, opP s.data.toList (n : Int) = R := ⟨_, rfl⟩
  rw [hR]
  by_cases hns : s.size ≤ n
  · have HP : Hid (R = none) := Lib.hid (by
      rw [← hR]
      unfold opP
      rw [if_pos (by omega), Int.toNat_natCast, List.drop_of_length_le (by simpa using hns)]
      rfl)
    obtain ⟨q, hq⟩ : ∃ q, min (2 : Int) ((s.size : Int) - (n : Int)) = q := ⟨_, rfl⟩
    have dq : decide ((0 : Int) < q) = false := decide_eq_false (by omega)
    clear hR
    go_enter Try.func8, Try.ntmps8
    go_wp2
    go_loop [6] (fun i => i = .int .i64 q) (fun _ => 0)
    case atStart => rfl
    case round =>
      subst hrel
      go_wp2
      go_ret2
      exact ⟨by rw [HP.out]; rfl, rfl⟩
  have hlt : n < s.size := by omega
  have hn1 : (n : Int) ≤ (s.size : Int) := by omega
  obtain ⟨M, hM⟩ : ∃ M : Nat, min 2 (s.size - n) = M := ⟨_, rfl⟩
  have hq : min (2 : Int) ((s.size : Int) - (n : Int)) = (M : Int) := by omega
  have HR : Hid (goO (s.data.toList.drop n) M = R) := Lib.hid (by
    rw [← hR]
    unfold opP
    rw [if_pos (by omega), Int.toNat_natCast, ← goO_is, ← hM]
    simp)
  have hMs : n + M ≤ s.size := by omega
  clear hR hM
  have HI := Lib.hid (fun T w => lxIsOp_is T w)
  go_enter Try.func8, Try.ntmps8
  go_wp2
  go_loop [6] (fun i => ∃ k : Nat, n + k ≤ s.size ∧ i = .int .i64 (k : Int) ∧ Hid (goO (s.data.toList.drop n) k = R)) (fun i => (intOf i).toNat)
  case atStart => exact ⟨M, hMs, rfl, HR⟩
  case round =>
    clear HR hMs hq
    obtain ⟨k, hk, rfl, HQ⟩ := hrel
    cases k with
    | zero =>
      have HX : Hid (R = none) := Lib.hid HQ.out.symm
      clear HQ
      have dk : decide ((0 : Int) < ((0 : Nat) : Int)) = false := rfl
      go_wp2
      go_ret2
      exact ⟨by rw [HX.out]; rfl, rfl⟩
    | succ k =>
      obtain ⟨K, hK⟩ : ∃ K, k + 1 = K := ⟨_, rfl⟩
      rw [hK] at hk HQ ⊢
      have hK1 : 1 ≤ K := by omega
      obtain ⟨T, hT⟩ : ∃ T, s.extract n (n + K) = T := ⟨_, rfl⟩
      have HT : Hid (T.data.toList = (s.data.toList.drop n).take K) := Lib.hid (by rw [← hT, extract_bytes, show n + K - n = K by omega])
      have H1 := Lib.hid (fun w => HI.out T w)
      have dk : decide ((0 : Int) < (K : Int)) = true := decide_eq_true (by omega)
      have hnK : (n : Int) ≤ (n : Int) + (K : Int) := by omega
      have hnK0 : (0 : Int) ≤ (n : Int) + (K : Int) := by omega
      have hnKs : (n : Int) + (K : Int) ≤ (s.size : Int) := by omega
      have hcast : (((n + K : Nat)) : Int) = (n : Int) + (K : Int) := by omega
      cases hb : isB9 T.data.toList with
      | true =>
        rw [hb] at H1
        have HX : Hid (R = some T.data.toList) := Lib.hid (by
          rw [← HQ.out]
          rw [HT.out] at hb ⊢
          subst hK
          exact goO_yes hb)
        clear HQ hb HT hK
        go_wp2_with (go_at_call 17; refine (H1.out _).mono ?_; rintro e w1 ⟨rfl, rfl⟩)
        go_ret2
        exact ⟨by rw [HX.out, lxV_some rfl]; rfl, rfl⟩
      | false =>
        rw [hb] at H1
        have HX : Hid (goO (s.data.toList.drop n) (K - 1) = R) := Lib.hid (by
          rw [← HQ.out]
          rw [HT.out] at hb
          subst hK
          exact (goO_no hb).symm)
        clear HQ hb HT hK
        go_wp2_with (go_at_call 17; refine (H1.out _).mono ?_; rintro e w1 ⟨rfl, rfl⟩)
        go_round
        case rel => exact ⟨K - 1, by omega, by go_num, HX⟩
        case measure => simp [intOf]; omega

end Go.Proofs.Ytgdaipgmlibpiaa
