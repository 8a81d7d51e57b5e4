/-
  Contracts of the document's answers for layer 1 (conchref1: letter, NameLen, Name, Number, Lines, Digits): they return what the same plain functions say; of what was there nothing turns.
-/
import Derived.Test.YtekpopopibhjbaaText
import Derived.Test.YtekpopopibhjbaaLines
import Derived.Test.YtekpopopibhjbaaNums
namespace Go.Proofs.Ytekpopopibhjbaa
open Go.RowKit

/-- letter's answer -/
def letB (c : Int) (first : Bool) : Bool := if first then namB c && !digB c else namB c

theorem nam_dig {c : Int} (h : digB c = true) : namB c = true := by simp [namB, h]

theorem nlen_first_no {l r : List UInt8} {n : Nat} {c : UInt8} (h : l.drop n = c :: r) (hl : letB (c.toNat : Int) true = false) : nlen l (n : Int) = 0 := by
  cases hd : digB (c.toNat : Int)
  · rw [nlen_run h hd]
    have : namB (c.toNat : Int) = false := by simpa [letB, hd] using hl
    exact nrun_no h this
  · exact nlen_dig h hd
theorem nlen_first_yes {l r : List UInt8} {n : Nat} {c : UInt8} (h : l.drop n = c :: r) (hl : letB (c.toNat : Int) true = true) : nlen l (n : Int) = 1 + nrun r := by
  simp only [letB, if_true, Bool.and_eq_true, Bool.not_eq_true'] at hl
  rw [nlen_run h hl.2, nrun_yes h hl.1]

set_option maxHeartbeats 1000000 in
theorem RNumber_any (s : ByteArray) (w : World) (hs : s.size ≤ maxLen) :
    Calls Try.prog 16 #[.string s] w fun e w' => e = numRes (numB s.data.toList) ∧ w = w' := by
  unfold maxLen at hs
  have hn0 : ∀ k : Nat, 0 < k ∨ s.toList.isEmpty = false → numB s.data.toList = numGo (s.data.toList.drop 0) 0 ∨ s.toList.isEmpty = true := by
    intro k _
    cases he : s.toList.isEmpty
    · left
      have he' : s.data.toList.isEmpty = false := by rw [← toList_data]; exact he
      simp [numB, he']
    · right; rfl
  have H : Hid (s.toList.isEmpty = false → numB s.data.toList = numGo (s.data.toList.drop 0) 0) := Lib.hid (by
    intro he
    have he' : s.data.toList.isEmpty = false := by rw [← toList_data]; exact he
    simp [numB, he'])
  have HE : Hid (s.toList.isEmpty = true → numB s.data.toList = none) := Lib.hid (by
    intro he
    have he' : s.data.toList.isEmpty = true := by rw [← toList_data]; exact he
    simp only [numB, he', if_true])
  have HZ : Hid (s.toList.isEmpty = true → s.size = 0) := Lib.hid (by
    intro he
    have he' : s.data.toList = [] := by rw [← toList_data]; simpa using he
    have : s.data.toList.length = 0 := by rw [he']; rfl
    simpa using this)
  clear hn0
  go_enter Try.func16, Try.ntmps16
  go_wp2
  go_loop [4, 5] (fun n i => ∃ (k : Nat) (m : Int), k ≤ s.size ∧ 0 ≤ m ∧ m ≤ 4611686018427387904 ∧ i = .int .i64 k ∧ n = .int .i64 m ∧ (k = 0 → m = 0) ∧ Hid (s.toList.isEmpty = false → numB s.data.toList = numGo (s.data.toList.drop k) m)) (fun _ i => s.size - (intOf i).toNat)
  case atStart => exact ⟨0, 0, Nat.zero_le _, by omega, by omega, rfl, rfl, fun _ => rfl, H⟩
  case round =>
    obtain ⟨k, m, hk, hm0, hm1, rfl, rfl, hz, HR⟩ := hrel
    have Hz := Lib.hid hz; clear hz
    clear H
    by_cases hlt : k < s.size
    · have hne : s.toList.isEmpty = false := by
        cases he : s.toList.isEmpty
        · rfl
        · have := HZ.out he; omega
      have HN := Lib.hid hne; clear hne
      have HD := Lib.hid (drop_cons s k hlt)
      have hc0 : (0:Int) ≤ s[k].toNat := by omega
      have hc1 : (s[k].toNat : Int) ≤ 255 := by have := s[k].toNat_lt; omega
      by_cases b1 : (s[k].toNat : Int) < 48
      · have HF : Hid (digB (s[k].toNat : Int) = false) := Lib.hid (by simp [digB]; omega)
        go_wp2
        go_ret2
        exact ⟨by rw [HR.out HN.out, HD.out, numGo_bad HF.out]; rfl, rfl⟩
      · by_cases b2 : 57 < (s[k].toNat : Int)
        · have HF : Hid (digB (s[k].toNat : Int) = false) := Lib.hid (by simp [digB]; omega)
          go_wp2
          go_ret2
          exact ⟨by rw [HR.out HN.out, HD.out, numGo_bad HF.out]; rfl, rfl⟩
        · have HF : Hid (digB (s[k].toNat : Int) = true) := Lib.hid (digB_mk ⟨by omega, by omega⟩)
          by_cases b3 : 461168601842738790 < m
          · have HG := Lib.hid (numGo_big (r := s.data.toList.drop (k+1)) (n := m) HF.out (by omega))
            go_wp2
            go_ret2
            exact ⟨by rw [HR.out HN.out, HD.out, HG.out]; rfl, rfl⟩
          · by_cases b4 : 4611686018427387904 < 10 * m + ((s[k].toNat : Int) - 48)
            · have HG := Lib.hid (numGo_big (r := s.data.toList.drop (k+1)) (n := m) HF.out (by omega))
              go_wp2
              go_ret2
              exact ⟨by rw [HR.out HN.out, HD.out, HG.out]; rfl, rfl⟩
            · have HG := Lib.hid (numGo_step (r := s.data.toList.drop (k+1)) (n := m) HF.out (by omega))
              go_wp2
              go_round
              case rel => exact ⟨k + 1, 10 * m + ((s[k].toNat : Int) - 48), by omega, by omega, by omega, by go_num, rfl, by omega, Lib.hid (fun h => by rw [HR.out h, HD.out, HG.out, Int.mul_comm])⟩
              case measure => simp [intOf]; omega
    · cases he : s.toList.isEmpty
      · have HF : Hid (numB s.data.toList = some m) := Lib.hid (by rw [HR.out he, List.drop_of_length_le (by simp; omega)]; rfl)
        go_wp2
        go_ret2
        exact ⟨by rw [HF.out]; rfl, rfl⟩
      · have hm : m = 0 := Hz.out (by have := HZ.out he; omega)
        have HF := Lib.hid (HE.out he)
        subst hm
        go_wp2
        go_ret2
        exact ⟨by rw [HF.out]; rfl, rfl⟩
end Go.Proofs.Ytekpopopibhjbaa
