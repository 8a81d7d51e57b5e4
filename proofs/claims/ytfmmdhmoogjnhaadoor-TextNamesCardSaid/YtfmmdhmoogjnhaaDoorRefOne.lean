/-
  Contracts of the document's answers for layer 1 (conchref1: letter, NameLen, Name, Number, Lines, Digits): they return what the same plain functions say; of what was there nothing turns.
-/
import Derived.Test.YtfmmdhmoogjnhaaDoorText
import Derived.Test.YtfmmdhmoogjnhaaDoorLines
import Derived.Test.YtfmmdhmoogjnhaaDoorNums
namespace Go.Proofs.YtfmmdhmoogjnhaaDoor
open Go.RowKit

/-- letter's answer -/
def letB (c : Int) (first : Bool) : Bool := if first then namB c && !digB c else namB c

theorem nam_dig {c : Int} (h : digB c = true) : namB c = true := by simp [namB, h]

set_option maxHeartbeats 1000000 in
theorem letter_any (c : Int) (f : Bool) (w : World) :
    Calls Tryd.prog 22 #[.int .u8 c, .bool f] w fun e w' => e = .returned (.bool (letB c f)) ∧ w = w' := by
  by_cases h1 : 97 ≤ c ∧ c ≤ 122
  · obtain ⟨h1, h2⟩ := h1
    have hd : letB c f = true := by
      have a : namB c = true := by simp [namB, h1, h2]
      have b : digB c = false := by simp [digB]; omega
      cases f <;> simp [letB, a, b]
    have H := Lib.hid hd; clear hd
    go_enter Tryd.func22, Tryd.ntmps22
    go_wp2
    go_ret
    exact ⟨by rw [H.out]; rfl, rfl⟩
  · have a1 : (decide (97 ≤ c) && decide (c ≤ 122)) = false := by
      rw [← Bool.decide_and]; exact decide_eq_false h1
    by_cases h3 : 65 ≤ c ∧ c ≤ 90
    · obtain ⟨h3, h4⟩ := h3
      have hd : letB c f = true := by
        have a : namB c = true := by simp [namB, h3, h4]
        have b : digB c = false := by simp [digB]; omega
        cases f <;> simp [letB, a, b]
      have H := Lib.hid hd; clear hd a1 h1
      have h5 : ¬ 97 ≤ c := by omega
      go_enter Tryd.func22, Tryd.ntmps22
      go_wp2
      go_ret
      exact ⟨by rw [H.out]; rfl, rfl⟩
    · have a2 : (decide (65 ≤ c) && decide (c ≤ 90)) = false := by
        rw [← Bool.decide_and]; exact decide_eq_false h3
      by_cases h5 : c = 95
      · have hd : letB c f = true := by
          subst h5; cases f <;> decide
        have H := Lib.hid hd
        subst h5
        clear hd a1 h1 a2 h3
        go_enter Tryd.func22, Tryd.ntmps22
        go_wp2
        go_ret
        exact ⟨by rw [H.out]; rfl, rfl⟩
      · have hb : (c == 95) = false := by simpa using h5
        have hd : namB c = digB c := by simp only [namB, a1, a2, hb, Bool.false_or]
        have hl : letB c f = (!f && digB c) := by cases f <;> simp [letB, hd]
        have H := Lib.hid hl; clear hd hl a1 a2
        have hdig : digB c = (decide (48 ≤ c) && decide (c ≤ 57)) := rfl
        have HD := Lib.hid hdig; clear hdig
        by_cases k1 : 97 ≤ c
        · have k2 : ¬ c ≤ 122 := fun h => h1 ⟨k1, h⟩
          have k3 : 65 ≤ c := by omega
          have k4 : ¬ c ≤ 90 := by omega
          have k5 : 48 ≤ c := by omega
          have k6 : ¬ c ≤ 57 := by omega
          clear h1 h3
          cases f
          all_goals
            go_enter Tryd.func22, Tryd.ntmps22
            go_wp2
            go_ret
            exact ⟨by rw [H.out, HD.out]; simp [k5, k6], rfl⟩
        · by_cases k3 : 65 ≤ c
          · have k4 : ¬ c ≤ 90 := fun h => h3 ⟨k3, h⟩
            have k5 : 48 ≤ c := by omega
            have k6 : ¬ c ≤ 57 := by omega
            clear h1 h3
            cases f
            all_goals
              go_enter Tryd.func22, Tryd.ntmps22
              go_wp2
              go_ret
              exact ⟨by rw [H.out, HD.out]; simp [k5, k6], rfl⟩
          · clear h1 h3
            by_cases k5 : 48 ≤ c
            · by_cases k6 : c ≤ 57
              · cases f
                all_goals
                  go_enter Tryd.func22, Tryd.ntmps22
                  go_wp2
                  go_ret
                  exact ⟨by rw [H.out, HD.out]; simp [k5, k6], rfl⟩
              · cases f
                all_goals
                  go_enter Tryd.func22, Tryd.ntmps22
                  go_wp2
                  go_ret
                  exact ⟨by rw [H.out, HD.out]; simp [k5, k6], rfl⟩
            · cases f
              all_goals
                go_enter Tryd.func22, Tryd.ntmps22
                go_wp2
                go_ret
                exact ⟨by rw [H.out, HD.out]; simp <;> omega, rfl⟩

set_option maxHeartbeats 1000000 in
theorem RLines_any (s : ByteArray) (w : World) (hs : s.size ≤ 1048576) :
    Calls Tryd.prog 18 #[.string s] w (LinesLeft w (linesOf s.data.toList)) := by
  obtain ⟨i0, hi, hz0, hz1, hz2⟩ := info_parts info_str
  go_enter Tryd.func18, Tryd.ntmps18
  go_wp2
  go_loopw [3, 4, 5] (fun v b i wr => ∃ (k bn : Nat) (L : List (List UInt8)), bn ≤ k ∧ k ≤ s.size ∧ L.length ≤ k ∧ i = .int .i64 k ∧ b = .int .i64 bn ∧
      wr.ownsRow w.heap.size 9 1 v L.length (L.map strV) ∧ Below w.heap.size w wr ∧
      Hid (linesOf s.data.toList = L ++ lgo (s.data.toList.drop k) ((s.data.toList.drop bn).take (k - bn)))) (fun _ _ i _ => s.size - (intOf i).toNat)
  case atStart => exact ⟨0, 0, [], Nat.le_refl _, Nat.zero_le _, Nat.le_refl _, rfl, rfl, World.ownsRow_nil _ _ _ _, Below.refl _ _, Lib.hid (by simp [linesOf])⟩
  case round =>
    obtain ⟨k, bn, L, hbk, hk, hL, rfl, rfl, hown, hbx, HR⟩ := hrel
    by_cases hlt : k < s.size
    · have HD := Lib.hid (drop_cons s k hlt)
      have hc1 : (s[k].toNat : Int) ≤ 255 := by have := s[k].toNat_lt; omega
      by_cases hf : (s[k].toNat : Int) = 10
      · have HF := Lib.hid hf
        have hfb : ((s[k].toNat : Int) == 10) = true := by simpa using hf
        clear hf
        go_wp2_with (at_builtin; refine wpList_append_own _ rfl _ _ 30 rfl w.heap.size 9 i0 (.string ByteArray.empty) 1 16 Tryd.underlying30 hi hz0 hz1 hz2 rfl (by decide) _ _ _ rfl (hown.alloc _) ⟨wr.heap.size, 0, none⟩ 1 1 [.string (s.extract bn k)] rfl rfl ?c1 ?c2 ?c3 ?c4 ?c5 ?_)
        case c1 =>
          intro j u hj
          match j, hj with
          | 0, hj => simp at hj; subst hj; simp [Addr.add]
        case c2 => intro u hu; simp at hu; subst hu; rfl
        case c3 => unfold maxLen; omega
        case c4 => omega
        case c5 => have := hbx.size; simp; omega
        intro v' w1 hown' hgrow _
        rw [extract_bytes] at hown'
        have R := rel_line (x := (s.data.toList.drop bn).take (k - bn)) hbx hown hown' hgrow
        clear hown' hgrow hown hbx
        go_wp2
        go_roundw
        case rel => exact ⟨k + 1, k + 1, L ++ [(s.data.toList.drop bn).take (k - bn)], Nat.le_refl _, by omega, by simp; omega, by go_num, by go_num, R.1, R.2, Lib.hid (by rw [HR.out, HD.out, lgo_feed HF.out]; simp)⟩
        case measure => simp [intOf]; omega
      · have HF := Lib.hid hf
        have hfb : ((s[k].toNat : Int) == 10) = false := by simpa using hf
        clear hf
        have HT := Lib.hid (take_more s bn k hbk hlt)
        go_wp2
        go_roundw
        case rel => exact ⟨k + 1, bn, L, by omega, by omega, by omega, by go_num, rfl, hown, hbx, Lib.hid (by rw [HR.out, HD.out, lgo_other HF.out, HT.out])⟩
        case measure => simp [intOf]; omega
    · have hks : s.size ≤ k := by omega
      have HD : Hid (s.data.toList.drop k = []) := Lib.hid (List.drop_of_length_le (by simp; omega))
      have HT : Hid ((s.data.toList.drop bn).take (k - bn) = s.data.toList.drop bn) := Lib.hid (List.take_of_length_le (by simp; omega))
      by_cases hb : bn < s.size
      · have HL : Hid (linesOf s.data.toList = L ++ [s.data.toList.drop bn]) := Lib.hid (by
          rw [HR.out, HD.out, HT.out]
          have : (s.data.toList.drop bn).isEmpty = false := by simp; omega
          simp [lgo, this])
        go_wp2_with (at_builtin; refine wpList_append_own _ rfl _ _ 30 rfl w.heap.size 9 i0 (.string ByteArray.empty) 1 16 Tryd.underlying30 hi hz0 hz1 hz2 rfl (by decide) _ _ _ rfl (hown.alloc _) ⟨wr.heap.size, 0, none⟩ 1 1 [.string (s.extract bn s.size)] rfl rfl ?d1 ?d2 ?d3 ?d4 ?d5 ?_)
        case d1 =>
          intro j u hj
          match j, hj with
          | 0, hj => simp at hj; subst hj; simp [Addr.add]
        case d2 => intro u hu; simp at hu; subst hu; rfl
        case d3 => unfold maxLen; omega
        case d4 => omega
        case d5 => have := hbx.size; simp; omega
        intro v' w1 hown' hgrow _
        rw [extract_bytes, List.take_of_length_le (by simp)] at hown'
        have R := rel_line (x := s.data.toList.drop bn) hbx hown hown' hgrow
        clear hown' hgrow hown hbx
        go_wp2
        go_ret
        exact ⟨_, rfl, by rw [HL.out]; exact R.1, R.2⟩
      · have HL : Hid (linesOf s.data.toList = L) := Lib.hid (by
          rw [HR.out, HD.out, HT.out, List.drop_of_length_le (by simp; omega)]
          simp [lgo])
        go_wp2
        go_ret
        exact ⟨_, rfl, by rw [HL.out]; exact hown, hbx⟩

theorem nlen_first_no {l r : List UInt8} {n : Nat} {c : UInt8} (h : l.drop n = c :: r) (hl : letB (c.toNat : Int) true = false) : nlen l (n : Int) = 0 := by
  cases hd : digB (c.toNat : Int)
  · rw [nlen_run h hd]
    have : namB (c.toNat : Int) = false := by simpa [letB, hd] using hl
    exact nrun_no h this
  · exact nlen_dig h hd
theorem nlen_first_yes {l r : List UInt8} {n : Nat} {c : UInt8} (h : l.drop n = c :: r) (hl : letB (c.toNat : Int) true = true) : nlen l (n : Int) = 1 + nrun r := by
  simp only [letB, if_true, Bool.and_eq_true, Bool.not_eq_true'] at hl
  rw [nlen_run h hl.2, nrun_yes h hl.1]

set_option maxHeartbeats 1000000 in
theorem RNameLen_any (s : ByteArray) (a : Int) (w : World) (hs : s.size ≤ maxLen) :
    Calls Tryd.prog 11 #[.string s, .int .i64 a] w fun e w' => e = .returned (.int .i64 (nlen s.data.toList a)) ∧ w = w' := by
  unfold maxLen at hs
  by_cases h0 : a < 0
  · have hn : nlen s.data.toList a = 0 := by simp [nlen, h0]
    have H := Lib.hid hn; clear hn
    go_enter Tryd.func11, Tryd.ntmps11
    go_wp2
    go_ret
    exact ⟨by rw [H.out]; rfl, rfl⟩
  · by_cases h1 : (s.size : Int) ≤ a
    · have hn : nlen s.data.toList a = 0 := nlen_out h0 (by simpa using h1)
      have H := Lib.hid hn; clear hn
      go_enter Tryd.func11, Tryd.ntmps11
      go_wp2
      go_ret
      exact ⟨by rw [H.out]; rfl, rfl⟩
    · obtain ⟨n, rfl⟩ := Int.eq_ofNat_of_zero_le (show 0 ≤ a by omega)
      have hlt : n < s.size := by omega
      clear h0 h1
      have g0 : decide ((n : Int) < 0) = false := decide_eq_false (by omega)
      have g1 : decide (s.size ≤ n) = false := decide_eq_false (by omega)
      go_enter Tryd.func11, Tryd.ntmps11
      go_wp2
      go_loop [5] (fun i => ∃ k : Nat, n + k ≤ s.size ∧ i = .int .i64 k ∧ (k = 0 ∨ Hid (nlen s.data.toList n = (k : Int) + nrun (s.data.toList.drop (n + k))))) (fun i => s.size - (intOf i).toNat)
      case atStart => exact ⟨0, by omega, rfl, Or.inl rfl⟩
      case round =>
        obtain ⟨k, hk, rfl, HR⟩ := hrel
        by_cases hkl : n + k < s.size
        · cases HR with
          | inl h =>
            subst h
            have hdc := drop_cons s n hlt
            have hc1 : (s[n].toNat : Int) ≤ 255 := by have := s[n].toNat_lt; omega
            cases hl : letB (s[n].toNat : Int) true
            · have HN := Lib.hid (nlen_first_no hdc hl); clear hdc
              go_wp2_with ((go_at_call 22); (refine (letter_any _ _ _).mono ?_); (rintro e w' ⟨rfl, rfl⟩))
              go_ret
              exact ⟨by rw [HN.out]; rfl, rfl⟩
            · have HN := Lib.hid (nlen_first_yes hdc hl); clear hdc
              go_wp2_with ((go_at_call 22); (refine (letter_any _ _ _).mono ?_); (rintro e w' ⟨rfl, rfl⟩))
              go_round
              case rel => exact ⟨1, by omega, rfl, Or.inr (Lib.hid (by rw [HN.out]; rfl))⟩
              case measure => simp [intOf]; omega
          | inr HR =>
            by_cases hk0 : k = 0
            · subst hk0
              have hdc := drop_cons s n hlt
              have hc1 : (s[n].toNat : Int) ≤ 255 := by have := s[n].toNat_lt; omega
              cases hl : letB (s[n].toNat : Int) true
              · have HN := Lib.hid (nlen_first_no hdc hl); clear hdc
                go_wp2_with ((go_at_call 22); (refine (letter_any _ _ _).mono ?_); (rintro e w' ⟨rfl, rfl⟩))
                go_ret
                exact ⟨by rw [HN.out]; rfl, rfl⟩
              · have HN := Lib.hid (nlen_first_yes hdc hl); clear hdc
                go_wp2_with ((go_at_call 22); (refine (letter_any _ _ _).mono ?_); (rintro e w' ⟨rfl, rfl⟩))
                go_round
                case rel => exact ⟨1, by omega, rfl, Or.inr (Lib.hid (by rw [HN.out]; rfl))⟩
                case measure => simp [intOf]; omega
            · have hdc := drop_cons s (n + k) hkl
              have hc1 : (s[n + k].toNat : Int) ≤ 255 := by have := s[n + k].toNat_lt; omega
              have hkb : ((k : Int) == 0) = false := by rw [beq_eq_false_iff_ne]; omega
              have hl1 : letB (s[n + k].toNat : Int) false = namB (s[n + k].toNat : Int) := rfl
              have hkn : (k : Int) < (s.size : Int) - n := by omega
              cases hl : letB (s[n + k].toNat : Int) false
              · have HN := Lib.hid (nrun_no hdc (hl1.symm.trans hl)); clear hdc hl1
                go_wp2_with ((go_at_call 22); (refine (letter_any _ _ _).mono ?_); (rintro e w' ⟨rfl, rfl⟩))
                go_ret
                exact ⟨ret_int (by rw [HR.out, HN.out]; omega), rfl⟩
              · have HN := Lib.hid (nrun_yes hdc (hl1.symm.trans hl)); clear hdc hl1
                go_wp2_with ((go_at_call 22); (refine (letter_any _ _ _).mono ?_); (rintro e w' ⟨rfl, rfl⟩))
                go_round
                case rel => exact ⟨k + 1, by omega, by go_num, Or.inr (Lib.hid (by rw [HR.out, HN.out, show n + (k + 1) = n + k + 1 from rfl]; omega))⟩
                case measure => simp [intOf]; omega
        · have hkn : ¬ (k : Int) < (s.size : Int) - n := by omega
          cases HR with
          | inl h => omega
          | inr HR =>
            have HN : Hid (nrun (s.data.toList.drop (n + k)) = 0) := Lib.hid (by rw [List.drop_of_length_le (by simp; omega)]; rfl)
            go_wp2
            go_ret
            exact ⟨ret_int (by rw [HR.out, HN.out]; omega), rfl⟩

set_option maxHeartbeats 1000000 in
theorem RName_any (s : ByteArray) (w : World) (hs : s.size ≤ maxLen) :
    Calls Tryd.prog 14 #[.string s] w fun e w' => e = .returned (.bool (nameB s.data.toList)) ∧ w = w' := by
  cases he : s.toList.isEmpty
  case true =>
    have he2 : s.data.toList.isEmpty = true := by rw [← toList_data]; exact he
    have H : Hid (nameB s.data.toList = false) := Lib.hid (by simp only [nameB, he2, Bool.not_true, Bool.false_and])
    clear he2
    go_enter Tryd.func14, Tryd.ntmps14
    go_wp2
    go_ret
    exact ⟨by rw [H.out]; rfl, rfl⟩
  case false =>
    have he2 : s.data.toList.isEmpty = false := by rw [← toList_data]; exact he
    have H : Hid (nameB s.data.toList = (nlen s.data.toList 0 == (s.size : Int))) := Lib.hid (by simp [nameB, he2])
    clear he2
    go_enter Tryd.func14, Tryd.ntmps14
    go_wp2_with ((go_at_call 11); (refine (RNameLen_any _ _ _ hs).mono ?_); (rintro e w' ⟨rfl, rfl⟩))
    go_ret
    exact ⟨by rw [H.out]; rfl, rfl⟩

set_option maxHeartbeats 1000000 in
theorem RNumber_any (s : ByteArray) (w : World) (hs : s.size ≤ maxLen) :
    Calls Tryd.prog 12 #[.string s] w fun e w' => e = numRes (numB s.data.toList) ∧ w = w' := by
  unfold maxLen at hs
  have hn0 : ∀ k : Nat, 0 < k ∨ s.toList.isEmpty = false → numB s.data.toList = numGo (s.data.toList.drop 0) 0 ∨ s.toList.isEmpty = true := by
    intro k _
    cases he : s.toList.isEmpty
    · left
      have he' : s.data.toList.isEmpty = false := by rw [← toList_data]; exact he
      simp [numB, he']
    · right; rfl
  have H : Hid (s.toList.isEmpty = false → numB s.data.toList = numGo (s.data.toList.drop 0) 0) := Lib.hid (by
    intro he
    have he' : s.data.toList.isEmpty = false := by rw [← toList_data]; exact he
    simp [numB, he'])
  have HE : Hid (s.toList.isEmpty = true → numB s.data.toList = none) := Lib.hid (by
    intro he
    have he' : s.data.toList.isEmpty = true := by rw [← toList_data]; exact he
    simp only [numB, he', if_true])
  have HZ : Hid (s.toList.isEmpty = true → s.size = 0) := Lib.hid (by
    intro he
    have he' : s.data.toList = [] := by rw [← toList_data]; simpa using he
    have : s.data.toList.length = 0 := by rw [he']; rfl
    simpa using this)
  clear hn0
  go_enter Tryd.func12, Tryd.ntmps12
  go_wp2
  go_loop [4, 5] (fun n i => ∃ (k : Nat) (m : Int), k ≤ s.size ∧ 0 ≤ m ∧ m ≤ 4611686018427387904 ∧ i = .int .i64 k ∧ n = .int .i64 m ∧ (k = 0 → m = 0) ∧ Hid (s.toList.isEmpty = false → numB s.data.toList = numGo (s.data.toList.drop k) m)) (fun _ i => s.size - (intOf i).toNat)
  case atStart => exact ⟨0, 0, Nat.zero_le _, by omega, by omega, rfl, rfl, fun _ => rfl, H⟩
  case round =>
    obtain ⟨k, m, hk, hm0, hm1, rfl, rfl, hz, HR⟩ := hrel
    have Hz := Lib.hid hz; clear hz
    clear H
    by_cases hlt : k < s.size
    · have hne : s.toList.isEmpty = false := by
        cases he : s.toList.isEmpty
        · rfl
        · have := HZ.out he; omega
      have HN := Lib.hid hne; clear hne
      have HD := Lib.hid (drop_cons s k hlt)
      have hc0 : (0:Int) ≤ s[k].toNat := by omega
      have hc1 : (s[k].toNat : Int) ≤ 255 := by have := s[k].toNat_lt; omega
      by_cases b1 : (s[k].toNat : Int) < 48
      · have HF : Hid (digB (s[k].toNat : Int) = false) := Lib.hid (by simp [digB]; omega)
        go_wp2
        go_ret2
        exact ⟨by rw [HR.out HN.out, HD.out, numGo_bad HF.out]; rfl, rfl⟩
      · by_cases b2 : 57 < (s[k].toNat : Int)
        · have HF : Hid (digB (s[k].toNat : Int) = false) := Lib.hid (by simp [digB]; omega)
          go_wp2
          go_ret2
          exact ⟨by rw [HR.out HN.out, HD.out, numGo_bad HF.out]; rfl, rfl⟩
        · have HF : Hid (digB (s[k].toNat : Int) = true) := Lib.hid (digB_mk ⟨by omega, by omega⟩)
          by_cases b3 : 461168601842738790 < m
          · have HG := Lib.hid (numGo_big (r := s.data.toList.drop (k+1)) (n := m) HF.out (by omega))
            go_wp2
            go_ret2
            exact ⟨by rw [HR.out HN.out, HD.out, HG.out]; rfl, rfl⟩
          · by_cases b4 : 4611686018427387904 < 10 * m + ((s[k].toNat : Int) - 48)
            · have HG := Lib.hid (numGo_big (r := s.data.toList.drop (k+1)) (n := m) HF.out (by omega))
              go_wp2
              go_ret2
              exact ⟨by rw [HR.out HN.out, HD.out, HG.out]; rfl, rfl⟩
            · have HG := Lib.hid (numGo_step (r := s.data.toList.drop (k+1)) (n := m) HF.out (by omega))
              go_wp2
              go_round
              case rel => exact ⟨k + 1, 10 * m + ((s[k].toNat : Int) - 48), by omega, by omega, by omega, by go_num, rfl, by omega, Lib.hid (fun h => by rw [HR.out h, HD.out, HG.out, Int.mul_comm])⟩
              case measure => simp [intOf]; omega
    · cases he : s.toList.isEmpty
      · have HF : Hid (numB s.data.toList = some m) := Lib.hid (by rw [HR.out he, List.drop_of_length_le (by simp; omega)]; rfl)
        go_wp2
        go_ret2
        exact ⟨by rw [HF.out]; rfl, rfl⟩
      · have hm : m = 0 := Hz.out (by have := HZ.out he; omega)
        have HF := Lib.hid (HE.out he)
        subst hm
        go_wp2
        go_ret2
        exact ⟨by rw [HF.out]; rfl, rfl⟩
end Go.Proofs.YtfmmdhmoogjnhaaDoor
