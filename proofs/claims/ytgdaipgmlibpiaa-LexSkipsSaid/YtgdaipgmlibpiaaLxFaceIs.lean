/-
  The contracts of package lex: Skip and Single, over its code as it landed, and all five gathered.
-/
import Derived.Test.YtgdaipgmlibpiaaLxFaceA
import Derived.Test.YtgdaipgmlibpiaaLxRuns
import Derived.Lib.Walk
import Derived.Lib.Bytealg
namespace Go.Proofs.Ytgdaipgmlibpiaa
open Go.RowKit

theorem ib_in {l : List UInt8} {c : UInt8} (h : l.contains c = true) : Lib.indexByte l c = ((l.takeWhile (fun b => b ≠ c)).length : Int) := by
  induction l with
  | nil => simp at h
  | cons b r ih =>
    unfold Lib.indexByte
    by_cases hb : b = c
    · subst hb
      simp
    · have hb2 : (b == c) = false := beq_eq_false_iff_ne.2 hb
      have hr : r.contains c = true := by
        have hb3 : (c == b) = false := beq_eq_false_iff_ne.2 fun e => hb e.symm
        rw [List.contains_cons, hb3, Bool.false_or] at h
        exact h
      have hi := ih hr
      have hn : ((Lib.indexByte r c) == -1) = false := by rw [hi, beq_eq_false_iff_ne]; omega
      rw [if_neg (by rw [hb2]; decide), hn, if_neg (by decide), hi, List.takeWhile_cons, if_pos (by simpa using hb), List.length_cons]
      omega
theorem ib_out {l : List UInt8} {c : UInt8} (h : l.contains c = false) : Lib.indexByte l c = -1 := by
  induction l with
  | nil => rfl
  | cons b r ih =>
    rw [List.contains_cons, Bool.or_eq_false_iff] at h
    have hb2 : (b == c) = false := beq_eq_false_iff_ne.2 fun e => (beq_eq_false_iff_ne.1 h.1) e.symm
    unfold Lib.indexByte
    rw [if_neg (by rw [hb2]; decide), ih h.2]
    rfl
theorem tw_all {l : List UInt8} {c : UInt8} (h : l.contains c = false) : (l.takeWhile (fun b => b ≠ c)).length = l.length := by
  induction l with
  | nil => rfl
  | cons b r ih =>
    rw [List.contains_cons, Bool.or_eq_false_iff] at h
    have hb : b ≠ c := fun e => (beq_eq_false_iff_ne.1 h.1) e.symm
    rw [List.takeWhile_cons, if_pos (by simpa using hb), List.length_cons, ih h.2, List.length_cons]
theorem tw_le (l : List UInt8) (c : UInt8) : (l.takeWhile (fun b => b ≠ c)).length ≤ l.length := (List.takeWhile_sublist _).length_le
theorem tw_lt {l : List UInt8} {c : UInt8} (h : l.contains c = true) : (l.takeWhile (fun b => b ≠ c)).length < l.length := by
  induction l with
  | nil => simp at h
  | cons b r ih =>
    by_cases hb : b = c
    · subst hb
      simp
    · have hb3 : (c == b) = false := beq_eq_false_iff_ne.2 fun e => hb e.symm
      rw [List.contains_cons, hb3, Bool.false_or] at h
      have := ih h
      rw [List.takeWhile_cons, if_pos (by simpa using hb), List.length_cons, List.length_cons]
      omega

set_option maxHeartbeats 1000000 in
set_option maxRecDepth 100000 in
theorem lxIxS_any (s : ByteArray) (c : Int) (w : World) :
    Calls Try.prog 23 #[.string s, .int .u8 c] w fun e w' => e = .returned (.int .i64 (Lib.indexByte s.data.toList c.toNat.toUInt8)) ∧ w = w' := by
  go_enter Try.func23, Try.ntmps23
  go_wp2
  rw [run_callFunc_extern Try.func25 (by kernel_rfl) (by kernel_rfl) (by kernel_rfl) (e := Extern.BytealgIndexByte.indexByte) (by kernel_rfl), Lib.run_indexByteString]
  simp only [Result.andThen]
  rw [Oper.upon_value]
  go_wp2
  go_ret
  exact ⟨rfl, rfl⟩

set_option maxHeartbeats 1000000 in
theorem lxIx_any (s : ByteArray) (c : Int) (w : World) :
    Calls Try.prog 20 #[.string s, .int .u8 c] w fun e w' => e = .returned (.int .i64 (Lib.indexByte s.data.toList c.toNat.toUInt8)) ∧ w = w' := by
  go_enter Try.func20, Try.ntmps20
  go_wp2_with fail
  refine (lxIxS_any _ _ _).mono ?_
  rintro e w' ⟨rfl, rfl⟩
  go_wp2
  go_ret
  exact ⟨rfl, rfl⟩

set_option maxHeartbeats 1000000 in
theorem lxCom_is (s : ByteArray) (w : World) : Calls Try.prog 22 #[.string s] w fun e w' => e = .returned (.int .i64 (comN s.data.toList : Nat)) ∧ w = w' := by
  have H := Lib.hid (fun w => lxIx_any s 10 w)
  rw [show (Int.toNat 10).toUInt8 = (10 : UInt8) from rfl] at H
  cases hc : s.data.toList.contains 10 with
  | true =>
    have hi : Lib.indexByte s.data.toList 10 = ((comN s.data.toList : Nat) : Int) := ib_in hc
    rw [hi] at H
    clear hi hc
    generalize comN s.data.toList = n at *
    have d : decide ((0 : Int) ≤ (n : Int)) = true := decide_eq_true (by omega)
    go_enter Try.func22, Try.ntmps22
    go_wp2_with fail
    refine (H.out _).mono ?_
    rintro e w1 ⟨rfl, rfl⟩
    go_wp2
    go_ret
    exact ⟨rfl, rfl⟩
  | false =>
    rw [ib_out hc] at H
    have HC : Hid (comN s.data.toList = s.size) := Lib.hid ((tw_all hc).trans (by simp))
    rw [HC.out]
    clear hc
    have d : decide ((0 : Int) ≤ (-1 : Int)) = false := rfl
    go_enter Try.func22, Try.ntmps22
    go_wp2_with fail
    refine (H.out _).mono ?_
    rintro e w1 ⟨rfl, rfl⟩
    go_wp2
    go_ret
    exact ⟨rfl, rfl⟩

/-- does l begin with a backslash and a line feed? -/
def jnB : List UInt8 → Bool
  | c :: d :: _ => c == 92 && d == 10
  | _ => false
theorem jnB_take (l : List UInt8) (h : 2 ≤ l.length) : (l.take 2 == [92, 10]) = jnB l := by
  match l, h with
  | c :: d :: r, _ =>
    show ([c, d] == [92, 10]) = (c == 92 && d == 10)
    simp
theorem jnB_short (l : List UInt8) (h : ¬ 2 ≤ l.length) : jnB l = false := by
  match l, h with
  | [], _ => rfl
  | [_], _ => rfl
  | c :: d :: r, h => simp at h

set_option maxHeartbeats 1000000 in
theorem lxHasS_is (s : ByteArray) (w : World) : Calls Try.prog 24 #[.string s, .string ⟨#[92, 10]⟩] w fun e w' => e = .returned (.bool (jnB s.data.toList)) ∧ w = w' := by
  by_cases hp : 2 ≤ s.size
  · have hb : ((s.extract 0 2).toList == [92, 10]) = jnB s.data.toList := by
      rw [toList_data, extract_bytes, List.drop_zero]
      exact jnB_take _ (by simpa using hp)
    have d1 : decide ((2 : Int) ≤ (s.size : Int)) = true := decide_eq_true (by omega)
    obtain ⟨q, hq⟩ : ∃ q, jnB s.data.toList = q := ⟨_, rfl⟩
    rw [hq] at hb ⊢
    clear hq
    go_enter Try.func24, Try.ntmps24
    go_wp2
    go_ret
    exact ⟨rfl, rfl⟩
  · have HX : Hid (jnB s.data.toList = false) := Lib.hid (jnB_short _ (by simpa using hp))
    have d1 : decide ((2 : Int) ≤ (s.size : Int)) = false := decide_eq_false (by omega)
    go_enter Try.func24, Try.ntmps24
    go_wp2
    go_ret
    exact ⟨by rw [HX.out]; rfl, rfl⟩
set_option maxHeartbeats 1000000 in
theorem lxHas_is (s : ByteArray) (w : World) : Calls Try.prog 21 #[.string s, .string ⟨#[92, 10]⟩] w fun e w' => e = .returned (.bool (jnB s.data.toList)) ∧ w = w' := by
  have H := Lib.hid (fun w => lxHasS_is s w)
  generalize jnB s.data.toList = q at *
  go_enter Try.func21, Try.ntmps21
  go_wp2_with fail
  refine (H.out _).mono ?_
  rintro e w1 ⟨rfl, rfl⟩
  go_wp2
  go_ret
  exact ⟨rfl, rfl⟩

/-- how long the first thing is that says nothing -/
def blN : List UInt8 → Nat
  | [] => 0
  | c :: r => if c = 32 ∨ c = 9 then 1 else if c = 92 then (if jnB (c :: r) then 2 else 0) else if c = 35 then comN (c :: r) else 0
theorem blN_cons (c : UInt8) (r : List UInt8) : blN (c :: r) = if c = 32 ∨ c = 9 then 1 else if c = 92 then (if jnB (c :: r) then 2 else 0) else if c = 35 then comN (c :: r) else 0 := rfl
theorem skip_bl {l : List UInt8} (h : blN l = 0) : skipGo l = 0 := by
  match l, h with
  | [], _ => rfl
  | c :: r, h =>
    rw [blN_cons] at h
    by_cases h1 : c = 32 ∨ c = 9
    · rw [if_pos h1] at h; cases h
    rw [if_neg h1] at h
    have h3 : c ≠ 35 := fun e => by
      subst e
      rw [if_neg (by decide), if_pos rfl, com_more (by decide)] at h
      omega
    refine skip_else (fun e => h1 (.inl e)) (fun e => h1 (.inr e)) h3 ?_
    rintro ⟨rfl, h2⟩
    match r, h2 with
    | d :: r, h2 =>
      simp only [List.head?_cons, Option.some.injEq] at h2
      subst h2
      rw [if_pos rfl] at h
      cases h
theorem com_end (l : List UInt8) : skipGo (l.drop (comN l)) = 0 := by
  induction l with
  | nil => rfl
  | cons c r ih =>
    by_cases h : c = 10
    · subst h
      rw [com_stop]
      refine skip_else (by decide) (by decide) (by decide) (fun h => absurd h.1 (by decide))
    · rw [com_more h, Nat.add_comm, List.drop_succ_cons]
      exact ih
theorem skip_on {l : List UInt8} (h : blN l ≠ 0) : skipGo l = blN l + skipGo (l.drop (blN l)) := by
  match l, h with
  | [], h => exact absurd rfl h
  | c :: r, h =>
    rw [blN_cons] at h ⊢
    by_cases h1 : c = 32 ∨ c = 9
    · rw [if_pos h1, skip_blank h1]; rfl
    rw [if_neg h1] at h ⊢
    by_cases h2 : c = 92
    · rw [if_pos h2] at h ⊢
      cases hj : jnB (c :: r) with
      | false => rw [hj] at h; exact absurd rfl h
      | true =>
        match r, hj with
        | d :: r, hj =>
          have hd : d = 10 := by
            subst h2
            unfold jnB at hj
            simpa using hj
          subst h2 hd
          rw [skip_join]; rfl
    rw [if_neg h2] at h ⊢
    by_cases h3 : c = 35
    · rw [if_pos h3] at h ⊢
      subst h3
      rw [com_end, skip_com]; rfl
    · rw [if_neg h3] at h; exact absurd rfl h
theorem com_le (l : List UInt8) : comN l ≤ l.length := tw_le l 10
theorem bl_le (l : List UInt8) : blN l ≤ l.length := by
  match l with
  | [] => exact Nat.le_refl _
  | c :: r =>
    rw [blN_cons]
    have h := com_le (c :: r)
    have h2 : jnB (c :: r) = true → 2 ≤ (c :: r).length := fun hj => by
      rcases Nat.lt_or_ge (c :: r).length 2 with hx | hx
      · rw [jnB_short _ (by omega)] at hj; cases hj
      · exact hx
    split
    · simp
    split
    · split
      · exact h2 (by assumption)
      · omega
    split <;> omega

set_option maxHeartbeats 4000000 in
set_option maxRecDepth 100000 in
theorem lxBl_is (s : ByteArray) (w : World) : Calls Try.prog 19 #[.string s] w fun e w' => e = .returned (.int .i64 (blN s.data.toList : Nat)) ∧ w = w' := by
  by_cases hz : s.size = 0
  · obtain rfl := emp_of0 hz
    clear hz
    go_enter Try.func19, Try.ntmps19
    go_wp2
    go_ret
    exact ⟨rfl, rfl⟩
  have hp : 0 < s.size := by omega
  have hpi : (0 : Int) < (s.size : Int) := by omega
  have hdc := drop_cons s 0 hp
  rw [List.drop_zero] at hdc
  have hne : (s.toList == []) = false := bytes_neL (by rw [hdc]; simp)
  have hne2 : s.toList.isEmpty = false := by rw [toList_data, hdc]; rfl
  have hx1 : (s[0].toNat : Int) < 256 := by have := s[0].toNat_lt; omega
  have hx0 : (0 : Int) ≤ (s[0].toNat : Int) := by omega
  have HC := Lib.hid (fun w => lxCom_is s w)
  have HJ := Lib.hid (fun w => lxHas_is s w)
  obtain ⟨R, hR⟩ : ∃ R, blN s.data.toList = R := ⟨_, rfl⟩
  rw [hR]
  by_cases h32 : s[0].toNat = 32
  · have b : ((s[0].toNat : Int) == 32) = true := by rw [h32]; rfl
    have HX : Hid (R = 1) := Lib.hid (by rw [← hR, hdc, byte_is (d := 32) h32]; rfl)
    clear hR hdc h32 HC HJ
    go_enter Try.func19, Try.ntmps19
    go_wp2
    go_ret
    exact ⟨by rw [HX.out]; rfl, rfl⟩
  have b32 : ((s[0].toNat : Int) == 32) = false := by rw [beq_eq_false_iff_ne]; omega
  by_cases h9 : s[0].toNat = 9
  · have b : ((s[0].toNat : Int) == 9) = true := by rw [h9]; rfl
    have HX : Hid (R = 1) := Lib.hid (by rw [← hR, hdc, byte_is (d := 9) h9]; rfl)
    clear hR hdc h32 h9 HC HJ
    go_enter Try.func19, Try.ntmps19
    go_wp2
    go_ret
    exact ⟨by rw [HX.out]; rfl, rfl⟩
  have b9 : ((s[0].toNat : Int) == 9) = false := by rw [beq_eq_false_iff_ne]; omega
  by_cases h92 : s[0].toNat = 92
  · have b : ((s[0].toNat : Int) == 92) = true := by rw [h92]; rfl
    cases hj : jnB s.data.toList with
    | true =>
      have HX : Hid (R = 2) := Lib.hid (by
        rw [← hR, hdc]
        rw [hdc] at hj
        rw [blN_cons, hj, byte_is (d := 92) h92]; rfl)
      rw [hj] at HJ
      clear hR hdc h32 h9 h92 HC hj
      go_enter Try.func19, Try.ntmps19
      go_wp2_with fail
      refine (HJ.out _).mono ?_
      rintro e w1 ⟨rfl, rfl⟩
      go_wp2
      go_ret
      exact ⟨by rw [HX.out]; rfl, rfl⟩
    | false =>
      have HX : Hid (R = 0) := Lib.hid (by
        rw [← hR, hdc]
        rw [hdc] at hj
        rw [blN_cons, hj, byte_is (d := 92) h92]; rfl)
      rw [hj] at HJ
      clear hR hdc h32 h9 h92 HC hj
      go_enter Try.func19, Try.ntmps19
      go_wp2_with fail
      refine (HJ.out _).mono ?_
      rintro e w1 ⟨rfl, rfl⟩
      go_wp2
      go_ret
      exact ⟨by rw [HX.out]; rfl, rfl⟩
  have b92 : ((s[0].toNat : Int) == 92) = false := by rw [beq_eq_false_iff_ne]; omega
  by_cases h35 : s[0].toNat = 35
  · have b : ((s[0].toNat : Int) == 35) = true := by rw [h35]; rfl
    have HX : Hid (R = comN s.data.toList) := Lib.hid (by
      rw [← hR, hdc]
      rw [blN_cons, byte_is (d := 35) h35]; rfl)
    rw [HX.out]
    clear HX hR
    generalize comN s.data.toList = n at *
    clear hdc h32 h9 h92 h35 HJ
    go_enter Try.func19, Try.ntmps19
    go_wp2_with fail
    refine (HC.out _).mono ?_
    rintro e w1 ⟨rfl, rfl⟩
    go_wp2
    go_ret
    exact ⟨rfl, rfl⟩
  have b35 : ((s[0].toNat : Int) == 35) = false := by rw [beq_eq_false_iff_ne]; omega
  have HX : Hid (R = 0) := Lib.hid (by
    rw [← hR, hdc]
    rw [blN_cons, if_neg (fun h => h.elim (fun h => h32 (by rw [h]; rfl)) (fun h => h9 (by rw [h]; rfl))), if_neg (fun h => h92 (by rw [h]; rfl)), if_neg (fun h => h35 (by rw [h]; rfl))])
  clear hR hdc h32 h9 h92 h35 HC HJ
  go_enter Try.func19, Try.ntmps19
  go_wp2
  go_ret
  exact ⟨by rw [HX.out]; rfl, rfl⟩

set_option maxHeartbeats 4000000 in
set_option maxRecDepth 100000 in
theorem lxSkip_is (s : ByteArray) (at_ : Int) (hs : s.size ≤ 1048576) (w : World) : Calls Try.prog 12 #[.string s, .int .i64 at_] w fun e w' => e = .returned (.int .i64 (skipP s.data.toList at_ : Nat)) ∧ w = w' := by
  obtain ⟨R, hR⟩ : ∃ R, skipP s.data.toList at_ = R := ⟨_, rfl⟩
  rw [hR]
  obtain ⟨a0, ha0⟩ : ∃ a0, atIn s.data.toList at_ = a0 := ⟨_, rfl⟩
  have hmm : min (max at_ 0) (s.size : Int) = (a0 : Int) := by
    rw [← ha0]
    unfold atIn
    have : s.data.toList.length = s.size := by simp
    rw [this]
    omega
  have ha1 : a0 ≤ s.size := by omega
  have HR : Hid (a0 + skipGo (s.data.toList.drop a0) = R) := Lib.hid (by rw [← hR, ← ha0]; rfl)
  clear hR ha0
  have HB := Lib.hid (fun T w => lxBl_is T w)
  go_enter Try.func12, Try.ntmps12
  go_wp2
  go_loop [1, 5] (fun i j => ∃ k : Nat, k ≤ s.size ∧ i = .int .i64 (k : Int) ∧ Hid (k + skipGo (s.data.toList.drop k) = R)) (fun i _ => s.size - (intOf i).toNat)
  case atStart => exact ⟨a0, ha1, rfl, HR⟩
  case round =>
    clear HR hmm ha1
    obtain ⟨k, hk, rfl, HQ⟩ := hrel
    have hk0 : (0 : Int) ≤ (k : Int) := by omega
    have hk1 : (k : Int) ≤ (s.size : Int) := by omega
    obtain ⟨Y, hY⟩ : ∃ Y, s.extract k s.size = Y := ⟨_, rfl⟩
    have hYd : Y.data.toList = s.data.toList.drop k := by rw [← hY, drop_size]
    have H1 := Lib.hid (fun w => HB.out Y w)
    have hle := bl_le Y.data.toList
    rw [hYd] at H1 hle
    have hle2 : k + blN (s.data.toList.drop k) ≤ s.size := by
      have : (s.data.toList.drop k).length = s.size - k := by simp
      omega
    by_cases hb : blN (s.data.toList.drop k) = 0
    · have HX : Hid (R = k) := Lib.hid (by rw [← HQ.out, skip_bl hb]; rfl)
      rw [hb] at H1
      clear HQ hb hYd hle hle2
      go_wp2_with (go_at_call 19; refine (H1.out _).mono ?_; rintro e w1 ⟨rfl, rfl⟩)
      go_ret
      exact ⟨by rw [HX.out]; rfl, rfl⟩
    · have HX : Hid ((k + blN (s.data.toList.drop k)) + skipGo (s.data.toList.drop (k + blN (s.data.toList.drop k))) = R) := Lib.hid (by
        rw [← HQ.out, skip_on hb, List.drop_drop]; omega)
      clear HQ hYd hle
      generalize blN (s.data.toList.drop k) = n at *
      have hn : decide ((n : Int) = 0) = false := decide_eq_false (by omega)
      have hn2 : ((n : Int) == 0) = false := by rw [beq_eq_false_iff_ne]; omega
      have hn1 : 1 ≤ n := by omega
      clear hb
      go_wp2_with (go_at_call 19; refine (H1.out _).mono ?_; rintro e w1 ⟨rfl, rfl⟩)
      go_round
      case rel => exact ⟨k + n, by omega, by go_num, HX⟩
      case measure => simp [intOf]; omega

theorem quo_is (l : List UInt8) : quoN l = (l.takeWhile (fun b => b ≠ 39)).length := rfl

set_option maxHeartbeats 4000000 in
set_option maxRecDepth 100000 in
theorem lxSingle_is (s : ByteArray) (a : Int) (hs : s.size ≤ 1048576) (w : World) : Calls Try.prog 14 #[.string s, .int .i64 a] w fun e w' => e = .returned (singV (singP s.data.toList a)) ∧ w = w' := by
  by_cases ha : a < 0
  · have HX : Hid (singP s.data.toList a = none) := Lib.hid (sing_neg ha)
    have da : decide (a < 0) = true := decide_eq_true ha
    go_enter Try.func14, Try.ntmps14
    go_wp2
    go_ret3
    rw [HX.out]
    exact ⟨rfl, rfl⟩
  obtain ⟨n, rfl⟩ := Int.eq_ofNat_of_zero_le (show 0 ≤ a by omega)
  have da : decide ((n : Int) < 0) = false := decide_eq_false (by omega)
  have hn0 : (0 : Int) ≤ (n : Int) := by omega
  clear ha
  by_cases hns : s.size ≤ n
  · have HX : Hid (singP s.data.toList (n : Int) = none) := Lib.hid (sing_out (by simpa using hns))
    have dn : decide (s.size ≤ n) = true := decide_eq_true hns
    go_enter Try.func14, Try.ntmps14
    go_wp2
    go_ret3
    rw [HX.out]
    exact ⟨rfl, rfl⟩
  have dn : decide (s.size ≤ n) = false := decide_eq_false hns
  have hlt : n < s.size := by omega
  have hn1 : (n : Int) < (s.size : Int) := by omega
  have hdc := drop_cons s n hlt
  have hx1 : (s[n].toNat : Int) < 256 := by have := s[n].toNat_lt; omega
  have hx0 : (0 : Int) ≤ (s[n].toNat : Int) := by omega
  by_cases h39 : s[n].toNat = 39
  · have b39 : ((s[n].toNat : Int) != 39) = false := by rw [h39]; rfl
    have hd2 : s.data.toList.drop n = 39 :: s.data.toList.drop (n + 1) := by rw [hdc, UInt8.toNat_inj.1 (show s[n].toNat = (39 : UInt8).toNat from h39)]
    have hnb : (0 : Int) ≤ (n : Int) + 1 := by omega
    have hnc : (n : Int) + 1 ≤ (s.size : Int) := by omega
    have hcst : ((n + 1 : Nat) : Int) = (n : Int) + 1 := rfl
    obtain ⟨Y, hY⟩ : ∃ Y, s.extract (n + 1) s.size = Y := ⟨_, rfl⟩
    have hYd : Y.data.toList = s.data.toList.drop (n + 1) := by rw [← hY, drop_size]
    have H1 := Lib.hid (fun w => lxIx_any Y 39 w)
    rw [show (Int.toNat 39).toUInt8 = (39 : UInt8) from rfl, hYd] at H1
    have hrl : (s.data.toList.drop (n + 1)).length = s.size - (n + 1) := by simp
    cases hc : (s.data.toList.drop (n + 1)).contains 39 with
    | false =>
      have hw := tw_all hc
      rw [← quo_is, hrl] at hw
      have HX : Hid (singV (singP s.data.toList (n : Int)) = .tuple #[.string ⟨#[]⟩, .int .i64 0, .bool false]) := Lib.hid (by
        rw [sing_open hd2 (by omega)]; rfl)
      rw [ib_out hc] at H1
      clear hw hc hrl hYd hd2 hdc h39
      generalize singV (singP s.data.toList (n : Int)) = V at *
      have dz : decide ((-1 : Int) < 0) = true := rfl
      go_enter Try.func14, Try.ntmps14
      go_wp2_with (go_at_call 20; refine (H1.out _).mono ?_; rintro e w1 ⟨rfl, rfl⟩)
      go_ret3
      exact ⟨congrArg Ending.returned HX.out.symm, rfl⟩
    | true =>
      have hw := tw_lt hc
      rw [← quo_is, hrl] at hw
      have hi := ib_in hc
      rw [← quo_is] at hi
      rw [hi] at H1
      obtain ⟨q, hq⟩ : ∃ q, quoN (s.data.toList.drop (n + 1)) = q := ⟨_, rfl⟩
      rw [hq] at hw H1
      have hE : n + 1 + q < s.size := by omega
      have HX : Hid (singV (singP s.data.toList (n : Int)) = .tuple #[.string (s.extract (n + 1) (n + 1 + q)), .int .i64 ((n : Int) + 1 + (q : Int) + 1), .bool true]) := Lib.hid (by
        rw [sing_yes hd2 (by omega), hq, extract_bytes, show n + 1 + q - (n + 1) = q by omega]
        rfl)
      clear hw hi hc hrl hYd hd2 hdc h39 hq
      generalize singV (singP s.data.toList (n : Int)) = V at *
      have dz : decide ((q : Int) < 0) = false := decide_eq_false (by omega)
      have hq0 : (0 : Int) ≤ (n : Int) + 1 + (q : Int) := by omega
      have hq1 : (n : Int) + 1 + (q : Int) ≤ (s.size : Int) := by omega
      have hq2 : (n : Int) + 1 ≤ (n : Int) + 1 + (q : Int) := by omega
      have hcs2 : ((n + 1 + q : Nat) : Int) = (n : Int) + 1 + (q : Int) := by omega
      go_enter Try.func14, Try.ntmps14
      go_wp2_with (go_at_call 20; refine (H1.out _).mono ?_; rintro e w1 ⟨rfl, rfl⟩)
      go_ret3
      exact ⟨congrArg Ending.returned HX.out.symm, rfl⟩
  · have b39 : ((s[n].toNat : Int) != 39) = true := by simp only [bne_iff_ne, ne_eq]; omega
    have HX : Hid (singP s.data.toList (n : Int) = none) := Lib.hid (sing_else hdc (byte_neQ (d := 39) h39))
    clear hdc h39
    go_enter Try.func14, Try.ntmps14
    go_wp2
    go_ret3
    rw [HX.out]
    exact ⟨rfl, rfl⟩

theorem giv {f : Nat} {a : Array Value} {w : World} {v : Value} (h : Calls Try.prog f a w fun e w' => e = .returned v ∧ w = w') : Calls Try.prog f a w (Gives w v) :=
  h.mono fun _ _ he => ⟨he.1, he.2 ▸ Below.refl _ _⟩
theorem lex_face : LexFace where
  op s a hs _ h1 w := giv (lxOp_is s a (by omega) h1 w)
  skip s a hs _ _ w := giv (lxSkip_is s a (by omega) w)
  ends c _ w := giv (lxEnds_is c w)
  reserved s _ w := giv (lxReserved_is s w)
  single s a hs _ _ w := giv (lxSingle_is s a (by omega) w)
end Go.Proofs.Ytgdaipgmlibpiaa
