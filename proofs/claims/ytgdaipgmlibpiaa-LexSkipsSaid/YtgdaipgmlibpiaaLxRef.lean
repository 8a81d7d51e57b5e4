/-
  Contracts of the document's Reserved, Op and Skip (conchref1). (By wip/tools/gen_lxref.py.)
-/
import Derived.Test.YtgdaipgmlibpiaaLxPlain
import Derived.Deep.CutRange
namespace Go.Proofs.Ytgdaipgmlibpiaa
open Go.RowKit

set_option maxHeartbeats 4000000 in
theorem refReserved_is (s : ByteArray) (w : World) : Calls Try.prog 16 #[.string s] w fun e w' => e = .returned (.bool (resB s.data.toList)) ∧ w = w' := by
  by_cases h0 : s.data.toList = [105, 102]
  · obtain rfl := bytes_eqL h0
    clear h0
    go_enter Try.func16, Try.ntmps16
    go_wp2
    go_ret
    exact ⟨rfl, rfl⟩
  by_cases h1 : s.data.toList = [116, 104, 101, 110]
  · obtain rfl := bytes_eqL h1
    clear h0 h1
    go_enter Try.func16, Try.ntmps16
    go_wp2
    go_ret
    exact ⟨rfl, rfl⟩
  by_cases h2 : s.data.toList = [101, 108, 115, 101]
  · obtain rfl := bytes_eqL h2
    clear h0 h1 h2
    go_enter Try.func16, Try.ntmps16
    go_wp2
    go_ret
    exact ⟨rfl, rfl⟩
  by_cases h3 : s.data.toList = [101, 108, 105, 102]
  · obtain rfl := bytes_eqL h3
    clear h0 h1 h2 h3
    go_enter Try.func16, Try.ntmps16
    go_wp2
    go_ret
    exact ⟨rfl, rfl⟩
  by_cases h4 : s.data.toList = [102, 105]
  · obtain rfl := bytes_eqL h4
    clear h0 h1 h2 h3 h4
    go_enter Try.func16, Try.ntmps16
    go_wp2
    go_ret
    exact ⟨rfl, rfl⟩
  by_cases h5 : s.data.toList = [119, 104, 105, 108, 101]
  · obtain rfl := bytes_eqL h5
    clear h0 h1 h2 h3 h4 h5
    go_enter Try.func16, Try.ntmps16
    go_wp2
    go_ret
    exact ⟨rfl, rfl⟩
  by_cases h6 : s.data.toList = [117, 110, 116, 105, 108]
  · obtain rfl := bytes_eqL h6
    clear h0 h1 h2 h3 h4 h5 h6
    go_enter Try.func16, Try.ntmps16
    go_wp2
    go_ret
    exact ⟨rfl, rfl⟩
  by_cases h7 : s.data.toList = [100, 111]
  · obtain rfl := bytes_eqL h7
    clear h0 h1 h2 h3 h4 h5 h6 h7
    go_enter Try.func16, Try.ntmps16
    go_wp2
    go_ret
    exact ⟨rfl, rfl⟩
  by_cases h8 : s.data.toList = [100, 111, 110, 101]
  · obtain rfl := bytes_eqL h8
    clear h0 h1 h2 h3 h4 h5 h6 h7 h8
    go_enter Try.func16, Try.ntmps16
    go_wp2
    go_ret
    exact ⟨rfl, rfl⟩
  by_cases h9 : s.data.toList = [102, 111, 114]
  · obtain rfl := bytes_eqL h9
    clear h0 h1 h2 h3 h4 h5 h6 h7 h8 h9
    go_enter Try.func16, Try.ntmps16
    go_wp2
    go_ret
    exact ⟨rfl, rfl⟩
  by_cases h10 : s.data.toList = [99, 97, 115, 101]
  · obtain rfl := bytes_eqL h10
    clear h0 h1 h2 h3 h4 h5 h6 h7 h8 h9 h10
    go_enter Try.func16, Try.ntmps16
    go_wp2
    go_ret
    exact ⟨rfl, rfl⟩
  by_cases h11 : s.data.toList = [101, 115, 97, 99]
  · obtain rfl := bytes_eqL h11
    clear h0 h1 h2 h3 h4 h5 h6 h7 h8 h9 h10 h11
    go_enter Try.func16, Try.ntmps16
    go_wp2
    go_ret
    exact ⟨rfl, rfl⟩
  by_cases h12 : s.data.toList = [105, 110]
  · obtain rfl := bytes_eqL h12
    clear h0 h1 h2 h3 h4 h5 h6 h7 h8 h9 h10 h11 h12
    go_enter Try.func16, Try.ntmps16
    go_wp2
    go_ret
    exact ⟨rfl, rfl⟩
  by_cases h13 : s.data.toList = [123]
  · obtain rfl := bytes_eqL h13
    clear h0 h1 h2 h3 h4 h5 h6 h7 h8 h9 h10 h11 h12 h13
    go_enter Try.func16, Try.ntmps16
    go_wp2
    go_ret
    exact ⟨rfl, rfl⟩
  by_cases h14 : s.data.toList = [125]
  · obtain rfl := bytes_eqL h14
    clear h0 h1 h2 h3 h4 h5 h6 h7 h8 h9 h10 h11 h12 h13 h14
    go_enter Try.func16, Try.ntmps16
    go_wp2
    go_ret
    exact ⟨rfl, rfl⟩
  by_cases h15 : s.data.toList = [33]
  · obtain rfl := bytes_eqL h15
    clear h0 h1 h2 h3 h4 h5 h6 h7 h8 h9 h10 h11 h12 h13 h14 h15
    go_enter Try.func16, Try.ntmps16
    go_wp2
    go_ret
    exact ⟨rfl, rfl⟩
  have HP : Hid (resB s.data.toList = false) := Lib.hid (by
    unfold resB words
    simp only [List.contains_cons, List.contains_nil, Bool.or_false, Bool.or_eq_false_iff, beq_eq_false_iff_ne, ne_eq]
    exact ⟨h0, h1, h2, h3, h4, h5, h6, h7, h8, h9, h10, h11, h12, h13, h14, h15⟩)
  have k0 := bytes_neL h0
  have k1 := bytes_neL h1
  have k2 := bytes_neL h2
  have k3 := bytes_neL h3
  have k4 := bytes_neL h4
  have k5 := bytes_neL h5
  have k6 := bytes_neL h6
  have k7 := bytes_neL h7
  have k8 := bytes_neL h8
  have k9 := bytes_neL h9
  have k10 := bytes_neL h10
  have k11 := bytes_neL h11
  have k12 := bytes_neL h12
  have k13 := bytes_neL h13
  have k14 := bytes_neL h14
  have k15 := bytes_neL h15
  clear h0 h1 h2 h3 h4 h5 h6 h7 h8 h9 h10 h11 h12 h13 h14 h15
  go_enter Try.func16, Try.ntmps16
  go_wp2
  go_ret
  exact ⟨by rw [HP.out]; rfl, rfl⟩

theorem drop_size (s : ByteArray) (n : Nat) : (s.extract n s.size).data.toList = s.data.toList.drop n := by
  rw [extract_bytes, List.take_of_length_le (by simp)]
theorem two_of {c d : UInt8} {r : List UInt8} (h : twoO [c, d] = true) : opT (c :: d :: r) = some [c, d] := by
  unfold opT
  rw [show (c :: d :: r).take 2 = [c, d] from rfl, if_pos h]
theorem take2_space {t : List UInt8} {x : List UInt8} (h : (t ++ [32]).take 2 = x) (hx : twoO x = true) : t.take 2 = x := by
  match t, h with
  | [], h => subst h; simp [twoO, twos] at hx
  | [c], h => subst h; simp [twoO, twos] at hx
  | c :: d :: r, h => exact h
theorem take2_no {t : List UInt8} (h : twoO ((t ++ [32]).take 2) = false) : twoO (t.take 2) = false := by
  match t, h with
  | [], _ => rfl
  | [c], _ => simp [twoO, twos]
  | c :: d :: r, h => exact h

set_option maxHeartbeats 8000000 in
set_option maxRecDepth 100000 in
theorem refOp_is (s : ByteArray) (at_ : Int) (w : World) (hs : s.size ≤ 1048576) : Calls Try.prog 11 #[.string s, .int .i64 at_] w fun e w' => e = .returned (lxV (opP s.data.toList at_)) ∧ w = w' := by
  by_cases h0 : at_ < 0
  · have HP : Hid (opP s.data.toList at_ = none) := Lib.hid (by unfold opP; rw [if_neg (by omega)])
    have d0 : decide (at_ < 0) = true := decide_eq_true h0
    go_enter Try.func11, Try.ntmps11
    go_wp2
    go_ret2
    exact ⟨by rw [HP.out]; rfl, rfl⟩
  obtain ⟨n, rfl⟩ := Int.eq_ofNat_of_zero_le (show 0 ≤ at_ by omega)
  have d0 : decide ((n : Int) < 0) = false := decide_eq_false (by omega)
  by_cases h1 : s.size ≤ n
  · have HP : Hid (opP s.data.toList (n : Int) = none) := Lib.hid (by
      unfold opP
      rw [if_pos (by omega), Int.toNat_natCast, List.drop_of_length_le (by simpa using h1)]
      rfl)
    have d1 : decide (s.size ≤ n) = true := decide_eq_true h1
    go_enter Try.func11, Try.ntmps11
    go_wp2
    go_ret2
    exact ⟨by rw [HP.out]; rfl, rfl⟩
  have d1 : decide (s.size ≤ n) = false := decide_eq_false h1
  have hlt : n < s.size := by omega
  have hn0 : (0 : Int) ≤ (n : Int) := by omega
  have hn1 : (n : Int) ≤ (s.size : Int) := by omega
  have HO : Hid (opP s.data.toList (n : Int) = opT (s.data.toList.drop n)) := Lib.hid (by unfold opP; rw [if_pos (by omega), Int.toNat_natCast])
  obtain ⟨Y, hY⟩ : ∃ Y, s.extract n s.size = Y := ⟨_, rfl⟩
  have hYd : Y.data.toList = s.data.toList.drop n := by rw [← hY, drop_size]
  have hYs : Y.size ≤ s.size := by have : Y.data.toList.length ≤ s.size := by rw [hYd]; simp
                                   simpa using this
  have hcat : ∀ W : World, (Op.stringOp .add Y ⟨#[32]⟩).run Try.prog W = .ok (.string (Y ++ ⟨#[32]⟩)) W := fun W => run_string_add_sum W _ _ (by show Y.size + 1 ≤ _; omega)
  obtain ⟨T, hT⟩ : ∃ T : ByteArray, Y ++ ⟨#[32]⟩ = T := ⟨_, rfl⟩
  have hTd : T.data.toList = s.data.toList.drop n ++ [32] := by rw [← hT, ByteArray.data_append, Array.toList_append, hYd]
  have hdc := drop_cons s n hlt
  have hTs : 2 ≤ T.size := by
    have : T.data.toList.length = T.size := by simp
    rw [← this, hTd, hdc]
    simp
  have hTi : (2 : Int) ≤ (T.size : Int) := by omega
  have hTj : (1 : Int) ≤ (T.size : Int) := by omega
  have hTk : (0 : Int) < (T.size : Int) := by omega
  obtain ⟨U, hU⟩ : ∃ U, T.extract 0 2 = U := ⟨_, rfl⟩
  have hUd : U.data.toList = (s.data.toList.drop n ++ [32]).take 2 := by rw [← hU, extract_bytes, hTd]; rfl
  rw [hT] at hcat
  by_cases u0 : U.data.toList = [59, 59]
  · obtain rfl := bytes_eqL u0
    have HX : Hid (opP s.data.toList (n : Int) = some [59, 59]) := Lib.hid (by
      rw [HO.out]
      have h2 := take2_space (hUd.symm.trans u0) (by decide)
      unfold opT
      rw [h2, if_pos (by decide)])
    clear HO hYd hTd hUd hdc u0
    go_enter Try.func11, Try.ntmps11
    go_wp2
    go_ret2
    exact ⟨by rw [HX.out]; rfl, rfl⟩
  by_cases u1 : U.data.toList = [38, 38]
  · obtain rfl := bytes_eqL u1
    have HX : Hid (opP s.data.toList (n : Int) = some [38, 38]) := Lib.hid (by
      rw [HO.out]
      have h2 := take2_space (hUd.symm.trans u1) (by decide)
      unfold opT
      rw [h2, if_pos (by decide)])
    clear HO hYd hTd hUd hdc u0 u1
    go_enter Try.func11, Try.ntmps11
    go_wp2
    go_ret2
    exact ⟨by rw [HX.out]; rfl, rfl⟩
  by_cases u2 : U.data.toList = [124, 124]
  · obtain rfl := bytes_eqL u2
    have HX : Hid (opP s.data.toList (n : Int) = some [124, 124]) := Lib.hid (by
      rw [HO.out]
      have h2 := take2_space (hUd.symm.trans u2) (by decide)
      unfold opT
      rw [h2, if_pos (by decide)])
    clear HO hYd hTd hUd hdc u0 u1 u2
    go_enter Try.func11, Try.ntmps11
    go_wp2
    go_ret2
    exact ⟨by rw [HX.out]; rfl, rfl⟩
  by_cases u3 : U.data.toList = [62, 62]
  · obtain rfl := bytes_eqL u3
    have HX : Hid (opP s.data.toList (n : Int) = some [62, 62]) := Lib.hid (by
      rw [HO.out]
      have h2 := take2_space (hUd.symm.trans u3) (by decide)
      unfold opT
      rw [h2, if_pos (by decide)])
    clear HO hYd hTd hUd hdc u0 u1 u2 u3
    go_enter Try.func11, Try.ntmps11
    go_wp2
    go_ret2
    exact ⟨by rw [HX.out]; rfl, rfl⟩
  by_cases u4 : U.data.toList = [60, 60]
  · obtain rfl := bytes_eqL u4
    have HX : Hid (opP s.data.toList (n : Int) = some [60, 60]) := Lib.hid (by
      rw [HO.out]
      have h2 := take2_space (hUd.symm.trans u4) (by decide)
      unfold opT
      rw [h2, if_pos (by decide)])
    clear HO hYd hTd hUd hdc u0 u1 u2 u3 u4
    go_enter Try.func11, Try.ntmps11
    go_wp2
    go_ret2
    exact ⟨by rw [HX.out]; rfl, rfl⟩
  by_cases u5 : U.data.toList = [60, 38]
  · obtain rfl := bytes_eqL u5
    have HX : Hid (opP s.data.toList (n : Int) = some [60, 38]) := Lib.hid (by
      rw [HO.out]
      have h2 := take2_space (hUd.symm.trans u5) (by decide)
      unfold opT
      rw [h2, if_pos (by decide)])
    clear HO hYd hTd hUd hdc u0 u1 u2 u3 u4 u5
    go_enter Try.func11, Try.ntmps11
    go_wp2
    go_ret2
    exact ⟨by rw [HX.out]; rfl, rfl⟩
  by_cases u6 : U.data.toList = [62, 38]
  · obtain rfl := bytes_eqL u6
    have HX : Hid (opP s.data.toList (n : Int) = some [62, 38]) := Lib.hid (by
      rw [HO.out]
      have h2 := take2_space (hUd.symm.trans u6) (by decide)
      unfold opT
      rw [h2, if_pos (by decide)])
    clear HO hYd hTd hUd hdc u0 u1 u2 u3 u4 u5 u6
    go_enter Try.func11, Try.ntmps11
    go_wp2
    go_ret2
    exact ⟨by rw [HX.out]; rfl, rfl⟩
  by_cases u7 : U.data.toList = [60, 62]
  · obtain rfl := bytes_eqL u7
    have HX : Hid (opP s.data.toList (n : Int) = some [60, 62]) := Lib.hid (by
      rw [HO.out]
      have h2 := take2_space (hUd.symm.trans u7) (by decide)
      unfold opT
      rw [h2, if_pos (by decide)])
    clear HO hYd hTd hUd hdc u0 u1 u2 u3 u4 u5 u6 u7
    go_enter Try.func11, Try.ntmps11
    go_wp2
    go_ret2
    exact ⟨by rw [HX.out]; rfl, rfl⟩
  by_cases u8 : U.data.toList = [62, 124]
  · obtain rfl := bytes_eqL u8
    have HX : Hid (opP s.data.toList (n : Int) = some [62, 124]) := Lib.hid (by
      rw [HO.out]
      have h2 := take2_space (hUd.symm.trans u8) (by decide)
      unfold opT
      rw [h2, if_pos (by decide)])
    clear HO hYd hTd hUd hdc u0 u1 u2 u3 u4 u5 u6 u7 u8
    go_enter Try.func11, Try.ntmps11
    go_wp2
    go_ret2
    exact ⟨by rw [HX.out]; rfl, rfl⟩
  have HN : Hid (twoO ((s.data.toList.drop n).take 2) = false) := Lib.hid (take2_no (by
    rw [← hUd]
    unfold twoO twos
    simp only [List.contains_cons, List.contains_nil, Bool.or_false, Bool.or_eq_false_iff, beq_eq_false_iff_ne, ne_eq]
    exact ⟨u0, u1, u2, u3, u4, u5, u6, u7, u8⟩))
  have k0 := bytes_neL u0
  have k1 := bytes_neL u1
  have k2 := bytes_neL u2
  have k3 := bytes_neL u3
  have k4 := bytes_neL u4
  have k5 := bytes_neL u5
  have k6 := bytes_neL u6
  have k7 := bytes_neL u7
  have k8 := bytes_neL u8
  clear u0 u1 u2 u3 u4 u5 u6 u7 u8 hUd
  have H1 := Lib.hid (fun w => refIn_any ⟨#[59, 124, 38, 40, 41, 60, 62, 10]⟩ (by decide) s[n].toNat w)
  have HE : Hid (inL (⟨#[59, 124, 38, 40, 41, 60, 62, 10]⟩ : ByteArray).data.toList s[n].toNat = oneO s[n].toNat) := Lib.hid rfl
  rw [HE.out] at H1
  have ht0 : T[0] = s[n] := by
    have h2 : T.data.toList[0]? = some s[n] := by rw [hTd, hdc]; rfl
    have h3 : T.data.toList[0]? = some T[0] := by
      have h4 := drop_cons T 0 (by omega)
      rw [List.drop_zero] at h4
      rw [h4]
      rfl
    rw [h3] at h2
    injection h2
  have hx1 : (s[n].toNat : Int) < 256 := by have := s[n].toNat_lt; omega
  have hx0 : (0 : Int) ≤ (s[n].toNat : Int) := by omega
  have HO1 : Hid (oneO s[n].toNat = true → opP s.data.toList (n : Int) = some [s[n]]) := Lib.hid fun h => by
    rw [HO.out]; unfold opT; rw [HN.out, hdc]; simp [h]
  have HO0 : Hid (oneO s[n].toNat = false → opP s.data.toList (n : Int) = none) := Lib.hid fun h => by
    rw [HO.out]; unfold opT; rw [HN.out, hdc]; simp [h]
  obtain ⟨V1, hV1⟩ : ∃ V1, T.extract 0 1 = V1 := ⟨_, rfl⟩
  have HV1 : Hid (Value.string V1 = strV [s[n]]) := Lib.hid (by
    have : V1.data.toList = [s[n]] := by rw [← hV1, extract_bytes, hTd, hdc]; rfl
    rw [← this]; rfl)
  clear HO HN HE hYd hTd hdc
  cases hz : oneO s[n].toNat with
  | true =>
    rw [hz] at H1
    have HX := Lib.hid (HO1.out hz)
    clear HO1 HO0 hz
    go_enter Try.func11, Try.ntmps11
    go_wp2_with fail
    refine (H1.out _).mono ?_
    rintro e w1 ⟨rfl, rfl⟩
    go_wp2
    go_ret2
    exact ⟨by rw [HX.out]; show Ending.returned (.tuple #[Value.string V1, .bool true]) = _; rw [HV1.out]; rfl, rfl⟩
  | false =>
    rw [hz] at H1
    have HX := Lib.hid (HO0.out hz)
    clear HO1 HO0 hz
    go_enter Try.func11, Try.ntmps11
    go_wp2_with fail
    refine (H1.out _).mono ?_
    rintro e w1 ⟨rfl, rfl⟩
    go_wp2
    go_ret2
    exact ⟨by rw [HX.out]; rfl, rfl⟩

end Go.Proofs.Ytgdaipgmlibpiaa
