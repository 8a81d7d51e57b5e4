/-
  conchlaw2.PosCounts returns true for every input.
-/
import Derived.Test.YthphdcapkgengaaPos
namespace Go.Proofs.Ythphdcapkgengaa
open Go.RowKit

theorem no_line {l : List UInt8} {c : Int} : AtIs l ((ln l : Int) + 1) c none := fun m hm h _ => by
  have := mono hm (Nat.le_refl _)
  rw [lnAt_end l (Nat.le_refl _)] at this
  omega
theorem no_col {l : List UInt8} : AtIs l (ln l) ((cn l : Int) + 1) none := fun m hm h g => by
  have e1 := lnAt_end l (Nat.le_refl _)
  have e2 := cnAt_end l (Nat.le_refl _)
  by_cases hl : m = l.length
  · subst hl; omega
  · have := rises (l := l) (j := m) (k := l.length) (by omega) (Nat.le_refl _)
    omega

set_option maxHeartbeats 2000000 in
theorem PosCounts_walk (s : ByteArray) (w : World) :
    Calls Try.prog 3 #[.string s] w (Gives w (.bool true)) := by
  by_cases hl : 400 < s.size
  · go_enter Try.func3, Try.ntmps3
    go_wp2_with fail
    refine (awake_any _).mono ?_
    rintro e w' ⟨rfl, rfl⟩
    go_wp2
    go_ret
    exact ⟨rfl, Below.refl _ _⟩
  · have hsm : s.size ≤ 1048576 := by omega
    have hl3 : decide ((400 : Int) < (s.size : Int)) = false := decide_eq_false (by omega)
    go_enter Try.func3, Try.ntmps3
    go_wp2_with fail
    go_loop [3, 4, 5] (fun x y i => ∃ (k n m : Nat), k ≤ s.size ∧ m ≤ k ∧ n ≤ k + 1 ∧ x = .int .i64 n ∧ y = .int .i64 m ∧ i = .int .i64 k ∧
        Hid (lnAt s.data.toList k = n ∧ cnAt s.data.toList k = k - m + 1 ∧ lnAt s.data.toList m = n ∧ cnAt s.data.toList m = 1)) (fun _ _ i => s.size - (intOf i).toNat)
    case atStart => exact ⟨0, 1, 0, by omega, by omega, by omega, rfl, rfl, rfl, Lib.hid ⟨lnAt_zero _, cnAt_zero _, lnAt_zero _, cnAt_zero _⟩⟩
    case round =>
      obtain ⟨k, n, m, hk, hm, hn, rfl, rfl, rfl, HR⟩ := hrel
      by_cases hks : k < s.size
      · have HD := Lib.hid (byte_cons s k hks)
        by_cases hc : s[k] = 10
        · have hc2 : (s[k].toNat : Int) = 10 := by rw [hc]; rfl
          have HC := Lib.hid hc; clear hc
          go_wp2
          go_round
          case rel => exact ⟨k + 1, n + 1, k + 1, by omega, by omega, by omega, by go_num, by go_num, by go_num, Lib.hid (by have := step_feed (HC.out ▸ HD.out); have := HR.out; omega)⟩
          case measure => simp [intOf]; omega
        · have hc2 : ¬ (s[k].toNat : Int) = 10 := fun h => hc (UInt8.toNat_inj.1 (by show s[k].toNat = 10; omega))
          have HC := Lib.hid hc; clear hc
          go_wp2
          go_round
          case rel => exact ⟨k + 1, n, m, by omega, by omega, by omega, rfl, rfl, by go_num, Lib.hid (by have := step_other HD.out HC.out; have := HR.out; omega)⟩
          case measure => simp [intOf]; omega
      · obtain ⟨r1, r2, r3, r4⟩ := HR.out
        have hke : k = s.size := by omega
        rw [hke] at r1 r2
        rw [lnAt_end _ (by rw [len_data]; exact Nat.le_refl _)] at r1
        rw [cnAt_end _ (by rw [len_data]; exact Nat.le_refl _)] at r2
        have HE1 := Lib.hid r1; have HE2 := Lib.hid r2
        have N1 : Hid (AtIs s.data.toList ((n : Int) + 1) 1 none) := Lib.hid (by rw [← r1]; exact no_line)
        have N2 : Hid (AtIs s.data.toList n ((s.size : Int) - m + 2) none) := Lib.hid (by
          have := no_col (l := s.data.toList)
          rw [r1, r2] at this
          rwa [show ((s.size - m + 1 : Nat) : Int) + 1 = (s.size : Int) - m + 2 by omega] at this)
        have N3 : Hid (AtIs s.data.toList n 1 (some m)) := Lib.hid ⟨by rw [len_data]; omega, by rw [r3], by rw [r4]; rfl⟩
        clear r1 r2 r3 r4 HR hke
        go_wp2_with fail
        refine (Of_at s s.size _ hsm (Nat.le_refl _)).mono ?_
        rintro e w' ⟨rfl, rfl⟩
        rw [lnAt_end _ (by rw [len_data]; exact Nat.le_refl _), cnAt_end _ (by rw [len_data]; exact Nat.le_refl _), HE1.out, HE2.out]
        have e1 : ((s.size - m + 1 : Nat) : Int) = (s.size : Int) - m + 1 := by omega
        rw [e1]
        clear e1
        go_wp2_with fail
        refine (At_is _ _ _ none _ hsm (by omega) (by omega) N1.out).mono ?_
        rintro e w' ⟨rfl, rfl⟩
        go_wp2_with fail
        refine (At_is _ _ _ none _ hsm (by omega) (by omega) N2.out).mono ?_
        rintro e w' ⟨rfl, rfl⟩
        go_wp2_with fail
        refine (At_is _ _ _ (some m) _ hsm (by omega) (by omega) N3.out).mono ?_
        rintro e w' ⟨rfl, rfl⟩
        go_wp2_with fail
        refine (Of_any s (-1) _ hsm).mono ?_
        rintro e w' ⟨rfl, rfl⟩
        rw [show held s.size (-1) = 0 by unfold held; omega, lnAt_zero, cnAt_zero]
        go_wp2_with fail
        refine (awake_any _).mono ?_
        rintro e w' ⟨rfl, rfl⟩
        go_wp2
        go_ret
        exact ⟨rfl, Below.refl _ _⟩
end Go.Proofs.Ythphdcapkgengaa
