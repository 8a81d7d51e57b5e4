/-
  Contracts of package text's functions (isDigit, inName, Number, NameLen, Name) over the translation, each: it returns what the plain function says, and the world is as it was.
-/
import Derived.Test.YtekpopopibhjbaaChecked
import Derived.Test.YtekpopopibhjbaaPlain
import Derived.WalkKit
import Derived.Lib.Hide
namespace Go.Proofs.Ytekpopopibhjbaa
open Go.RowKit

set_option maxHeartbeats 400000 in
theorem isDigit_any (c : Int) (w : World) :
    Calls Try.prog 41 #[.int .u8 c] w fun e w' => e = .returned (.bool (digB c)) ∧ w = w' := by
  by_cases h1 : 48 ≤ c
  · by_cases h2 : c ≤ 57
    · have hd : digB c = true := digB_mk ⟨h1, h2⟩
      have H := Lib.hid hd; clear hd
      go_enter Try.func41, Try.ntmps41
      go_wp2
      go_ret
      exact ⟨by rw [H.out]; rfl, rfl⟩
    · have hd : digB c = false := by simp [digB, h2]
      have H := Lib.hid hd; clear hd
      go_enter Try.func41, Try.ntmps41
      go_wp2
      go_ret
      exact ⟨by rw [H.out]; rfl, rfl⟩
  · have hd : digB c = false := by simp [digB, h1]
    have H := Lib.hid hd; clear hd
    go_enter Try.func41, Try.ntmps41
    go_wp2
    go_ret
    exact ⟨by rw [H.out]; rfl, rfl⟩

set_option maxHeartbeats 400000 in
theorem inName_any (c : Int) (w : World) :
    Calls Try.prog 42 #[.int .u8 c] w fun e w' => e = .returned (.bool (namB c)) ∧ w = w' := by
  by_cases h1 : 97 ≤ c ∧ c ≤ 122
  · obtain ⟨h1, h2⟩ := h1
    have hd : namB c = true := by simp [namB, h1, h2]
    have H := Lib.hid hd; clear hd
    go_enter Try.func42, Try.ntmps42
    go_wp2
    go_ret
    exact ⟨by rw [H.out]; rfl, rfl⟩
  · have a1 : (decide (97 ≤ c) && decide (c ≤ 122)) = false := by
      rw [← Bool.decide_and]; exact decide_eq_false h1
    by_cases h3 : 65 ≤ c ∧ c ≤ 90
    · obtain ⟨h3, h4⟩ := h3
      have hd : namB c = true := by simp [namB, h3, h4]
      have H := Lib.hid hd; clear hd a1 h1
      have h5 : c < 97 := by omega
      go_enter Try.func42, Try.ntmps42
      go_wp2
      go_ret
      exact ⟨by rw [H.out]; rfl, rfl⟩
    · have a2 : (decide (65 ≤ c) && decide (c ≤ 90)) = false := by
        rw [← Bool.decide_and]; exact decide_eq_false h3
      by_cases h5 : c = 95
      · have hd : namB c = true := by simp [namB, h5]
        have H := Lib.hid hd
        subst h5
        clear hd a1 h1 a2 h3
        go_enter Try.func42, Try.ntmps42
        go_wp2
        go_ret
        exact ⟨by rw [H.out]; rfl, rfl⟩
      · have hb : (c == 95) = false := by simpa using h5
        have hd : namB c = digB c := by simp only [namB, a1, a2, hb, Bool.false_or]
        have H := Lib.hid hd; clear hd a1 a2
        by_cases k1 : 97 ≤ c
        · have k2 : ¬ c ≤ 122 := fun h => h1 ⟨k1, h⟩
          have k3 : 65 ≤ c := by omega
          have k4 : ¬ c ≤ 90 := by omega
          clear h1 h3
          go_enter Try.func42, Try.ntmps42
          go_wp2_with ((go_at_call 41); (refine (isDigit_any _ _).mono ?_); (rintro e w' ⟨rfl, rfl⟩))
          go_ret
          exact ⟨by rw [H.out]; rfl, rfl⟩
        · by_cases k3 : 65 ≤ c
          · have k4 : ¬ c ≤ 90 := fun h => h3 ⟨k3, h⟩
            clear h1 h3
            go_enter Try.func42, Try.ntmps42
            go_wp2_with ((go_at_call 41); (refine (isDigit_any _ _).mono ?_); (rintro e w' ⟨rfl, rfl⟩))
            go_ret
            exact ⟨by rw [H.out]; rfl, rfl⟩
          · clear h1 h3
            go_enter Try.func42, Try.ntmps42
            go_wp2_with ((go_at_call 41); (refine (isDigit_any _ _).mono ?_); (rintro e w' ⟨rfl, rfl⟩))
            go_ret
            exact ⟨by rw [H.out]; rfl, rfl⟩

theorem ret_two {a b c d : Value} (h : a = c) (g : b = d) : Ending.returned (.tuple #[a, b]) = .returned (.tuple #[c, d]) := by rw [h, g]

/-- Number's answer -/
def numRes (o : Option Int) : Ending := .returned (.tuple #[.int .i64 (o.getD 0), .bool o.isSome])

set_option maxHeartbeats 1000000 in
theorem Number_any (s : ByteArray) (w : World) (hs : s.size ≤ maxLen) :
    Calls Try.prog 38 #[.string s] w fun e w' => e = numRes (numB s.data.toList) ∧ w = w' := by
  unfold maxLen at hs
  cases he : s.toList.isEmpty
  case true =>
    have he2 : s.data.toList.isEmpty = true := by rw [← toList_data]; exact he
    have hn : numB s.data.toList = none := by simp only [numB, he2, if_true]
    have H := Lib.hid hn; clear hn he2
    go_enter Try.func38, Try.ntmps38
    go_wp2
    go_ret2
    exact ⟨by rw [H.out]; rfl, rfl⟩
  case false =>
    have he' : s.data.toList.isEmpty = false := by rw [← toList_data]; exact he
    have hn : numB s.data.toList = numGo s.data.toList 0 := by simp [numB, he']
    have hn2 : numB s.data.toList = numGo (s.data.toList.drop 0) 0 := by rw [hn, List.drop_zero]
    have H := Lib.hid hn2; clear hn hn2 he'
    go_enter Try.func38, Try.ntmps38
    go_wp2
    go_loop [4, 11] (fun n i => ∃ (k : Nat) (m : Int), k ≤ s.size ∧ 0 ≤ m ∧ m ≤ 4611686018427387904 ∧ i = .int .i64 k ∧ n = .int .i64 m ∧ Hid (numB s.data.toList = numGo (s.data.toList.drop k) m)) (fun _ i => s.size - (intOf i).toNat)
    case atStart => exact ⟨0, 0, Nat.zero_le _, by omega, by omega, rfl, rfl, H⟩
    case round =>
      obtain ⟨k, m, hk, hm0, hm1, rfl, rfl, HR⟩ := hrel
      clear H
      by_cases hlt : k < s.size
      · have hdc := drop_cons s k hlt
        have HD := Lib.hid hdc; clear hdc
        have hc0 : (0:Int) ≤ s[k].toNat := by omega
        have hc1 : (s[k].toNat : Int) ≤ 255 := by have := s[k].toNat_lt; omega
        cases hd : digB (s[k].toNat : Int)
        · go_wp2_with ((go_at_call 41); (refine (isDigit_any _ _).mono ?_); (rintro e w' ⟨rfl, rfl⟩))
          go_ret2
          exact ⟨by rw [HR.out, HD.out, numGo_bad hd]; rfl, rfl⟩
        · have hb := digB_yes hd
          obtain ⟨hb0, hb1⟩ := hb
          by_cases hg : (4611686018427387904 - ((s[k].toNat : Int) - 48)) / 10 < m
          · have HF := Lib.hid (numGo_big (r := s.data.toList.drop (k+1)) hd hg)
            go_wp2_with ((go_at_call 41); (refine (isDigit_any _ _).mono ?_); (rintro e w' ⟨rfl, rfl⟩))
            go_ret2
            exact ⟨by rw [HR.out, HD.out, HF.out]; rfl, rfl⟩
          · have HF := Lib.hid (numGo_step (r := s.data.toList.drop (k+1)) hd hg)
            have hm2 : m * 10 + ((s[k].toNat : Int) - 48) ≤ 4611686018427387904 := by omega
            have hm3 : m * 10 ≤ 4611686018427387904 := by omega
            go_wp2_with ((go_at_call 41); (refine (isDigit_any _ _).mono ?_); (rintro e w' ⟨rfl, rfl⟩))
            go_round
            case rel => exact ⟨k + 1, m * 10 + ((s[k].toNat : Int) - 48), by omega, by omega, hm2, by go_num, rfl, Lib.hid (by rw [HR.out, HD.out, HF.out])⟩
            case measure => simp [intOf]; omega
      · have hks : k = s.size := by omega
        have HF : Hid (numB s.data.toList = some m) := Lib.hid (by rw [HR.out, List.drop_of_length_le (by simp; omega)]; rfl)
        clear HR hks
        go_wp2
        go_ret2
        exact ⟨by rw [HF.out]; rfl, rfl⟩

theorem ret_int {k : IntKind} {a b : Int} (h : a = b) : Ending.returned (.int k a) = .returned (.int k b) := by rw [h]

set_option maxHeartbeats 1000000 in
theorem NameLen_any (s : ByteArray) (a : Int) (w : World) (hs : s.size ≤ maxLen) :
    Calls Try.prog 39 #[.string s, .int .i64 a] w fun e w' => e = .returned (.int .i64 (nlen s.data.toList a)) ∧ w = w' := by
  unfold maxLen at hs
  by_cases h0 : a < 0
  · have hn : nlen s.data.toList a = 0 := by simp [nlen, h0]
    have H := Lib.hid hn; clear hn
    go_enter Try.func39, Try.ntmps39
    go_wp2
    go_ret
    exact ⟨by rw [H.out]; rfl, rfl⟩
  · by_cases h1 : (s.size : Int) ≤ a
    · have hn : nlen s.data.toList a = 0 := nlen_out h0 (by simpa using h1)
      have H := Lib.hid hn; clear hn
      go_enter Try.func39, Try.ntmps39
      go_wp2
      go_ret
      exact ⟨by rw [H.out]; rfl, rfl⟩
    · obtain ⟨n, rfl⟩ := Int.eq_ofNat_of_zero_le (show 0 ≤ a by omega)
      have hlt : n < s.size := by omega
      clear h0 h1
      have g0 : decide ((n : Int) < 0) = false := decide_eq_false (by omega)
      have g1 : decide (s.size ≤ n) = false := decide_eq_false (by omega)
      have hdc := drop_cons s n hlt
      have hc1 : (s[n].toNat : Int) ≤ 255 := by have := s[n].toNat_lt; omega
      cases hd : digB (s[n].toNat : Int)
      case true =>
        have H := Lib.hid (nlen_dig hdc hd); clear hdc
        go_enter Try.func39, Try.ntmps39
        go_wp2_with ((go_at_call 41); (refine (isDigit_any _ _).mono ?_); (rintro e w' ⟨rfl, rfl⟩))
        go_ret
        exact ⟨by rw [H.out]; rfl, rfl⟩
      case false =>
        have H := Lib.hid (nlen_run hdc hd); clear hdc
        go_enter Try.func39, Try.ntmps39
        go_wp2_with ((go_at_call 41); (refine (isDigit_any _ _).mono ?_); (rintro e w' ⟨rfl, rfl⟩))
        clear hd hc1
        go_loop [5] (fun i => ∃ k : Nat, n ≤ k ∧ k ≤ s.size ∧ i = .int .i64 k ∧ Hid (nlen s.data.toList n = (k : Int) - n + nrun (s.data.toList.drop k))) (fun i => s.size - (intOf i).toNat)
        case atStart => exact ⟨n, Nat.le_refl _, by omega, rfl, Lib.hid (by rw [H.out]; omega)⟩
        case round =>
          obtain ⟨k, hnk, hk, rfl, HR⟩ := hrel
          clear H
          by_cases hkl : k < s.size
          · have hdc := drop_cons s k hkl
            have hc1 : (s[k].toNat : Int) ≤ 255 := by have := s[k].toNat_lt; omega
            cases hm : namB (s[k].toNat : Int)
            case true =>
              have HD := Lib.hid (nrun_yes hdc hm); clear hdc
              go_wp2_with ((go_at_call 42); (refine (inName_any _ _).mono ?_); (rintro e w' ⟨rfl, rfl⟩))
              go_round
              case rel => exact ⟨k + 1, by omega, by omega, by go_num, Lib.hid (by rw [HR.out, HD.out]; omega)⟩
              case measure => simp [intOf]; omega
            case false =>
              have HD := Lib.hid (nrun_no hdc hm); clear hdc
              go_wp2_with ((go_at_call 42); (refine (inName_any _ _).mono ?_); (rintro e w' ⟨rfl, rfl⟩))
              go_ret
              exact ⟨ret_int (by rw [HR.out, HD.out]; omega), rfl⟩
          · have HD : Hid (nrun (s.data.toList.drop k) = 0) := Lib.hid (by rw [List.drop_of_length_le (by simp; omega)]; rfl)
            go_wp2
            go_ret
            exact ⟨ret_int (by rw [HR.out, HD.out]; omega), rfl⟩

end Go.Proofs.Ytekpopopibhjbaa
