/-
  conchlaw2.PosBack returns true for every input.
-/
import Derived.Test.YthphdcapkgengaaPos
namespace Go.Proofs.Ythphdcapkgengaa
open Go.RowKit

/-- line and column of the place ahead of k; ahead of the first: 1 and 0 -/
def Ahead (l : List UInt8) (k : Nat) (n m : Nat) : Prop := (k = 0 ∧ n = 1 ∧ m = 0) ∨ (∃ j, k = j + 1 ∧ n = lnAt l j ∧ m = cnAt l j)

set_option maxHeartbeats 4000000 in
theorem PosBack_walk (s : ByteArray) (w : World) :
    Calls Try.prog 5 #[.string s] w (Gives w (.bool true)) := by
  by_cases hl : 400 < s.size
  · go_enter Try.func5, Try.ntmps5
    go_wp2_with fail
    refine (awake_any _).mono ?_
    rintro e w' ⟨rfl, rfl⟩
    go_wp2
    go_ret
    exact ⟨rfl, Below.refl _ _⟩
  · have hsm : s.size ≤ 1048576 := by omega
    have hl3 : decide ((400 : Int) < (s.size : Int)) = false := decide_eq_false (by omega)
    go_enter Try.func5, Try.ntmps5
    go_wp2_with fail
    go_loop [3, 4, 5] (fun x y i => ∃ (k n m : Nat), k ≤ s.size + 1 ∧ n ≤ 402 ∧ m ≤ 402 ∧ x = .int .i64 n ∧ y = .int .i64 m ∧ i = .int .i64 k ∧ Hid (Ahead s.data.toList k n m)) (fun _ _ i => s.size + 1 - (intOf i).toNat)
    case atStart => exact ⟨0, 1, 0, by omega, by omega, by omega, rfl, rfl, rfl, Lib.hid (.inl ⟨rfl, rfl, rfl⟩)⟩
    case round =>
      obtain ⟨k, n, m, hk, hn, hm, rfl, rfl, rfl, HR⟩ := hrel
      by_cases hks : k ≤ s.size
      · have hb1 := lnAt_le s.data.toList k
        have hb2 := cnAt_le s.data.toList k
        have HA := Lib.hid (AtIs.self s.data.toList (k := k) (by rw [len_data]; exact hks))
        rcases HR.out with ⟨rfl, rfl, rfl⟩ | ⟨j, rfl, hn2, hm2⟩
        · clear HR hb1 hb2
          go_wp2_with fail
          refine (Of_at s 0 _ hsm hks).mono ?_
          rintro e w' ⟨rfl, rfl⟩
          rw [lnAt_zero, cnAt_zero] at HA ⊢
          go_wp2_with fail
          refine (At_is _ _ _ (some 0) _ hsm (by decide) (by decide) HA.out).mono ?_
          rintro e w' ⟨rfl, rfl⟩
          go_wp2_with fail
          go_round
          case rel => exact ⟨1, 1, 1, by omega, by omega, by omega, rfl, rfl, rfl, Lib.hid (.inr ⟨0, rfl, (lnAt_zero _).symm, (cnAt_zero _).symm⟩)⟩
          case measure => simp [intOf]
        · have hjs : j < s.size := by omega
          have HD := Lib.hid (byte_cons s j hjs)
          have ej : ((j + 1 : Nat) : Int) - 1 = j := by omega
          by_cases hc : s[j] = 10
          · have hc2 : (s[j].toNat : Int) = 10 := by rw [hc]; rfl
            obtain ⟨q1, q2⟩ := step_feed (hc ▸ HD.out)
            rw [← hn2] at q1
            rw [q1, q2] at HA
            have hn3 : n ≤ 401 := by omega
            have HQ1 := Lib.hid q1; have HQ2 := Lib.hid q2
            clear hc hb1 hb2 hn2 hm2 q1 q2 HR
            go_wp2_with fail
            refine (Of_at s (j + 1) _ hsm hks).mono ?_
            rintro e w' ⟨rfl, rfl⟩
            rw [HQ1.out, HQ2.out]
            go_wp2_with fail
            refine (At_is _ _ _ (some (j + 1)) _ hsm (by omega) (by decide) HA.out).mono ?_
            rintro e w' ⟨rfl, rfl⟩
            go_wp2_with fail
            go_round
            case rel => exact ⟨j + 1 + 1, n + 1, 1, by omega, by omega, by omega, by go_num, rfl, by go_num, Lib.hid (.inr ⟨j + 1, rfl, HQ1.out.symm, HQ2.out.symm⟩)⟩
            case measure => simp [intOf]; omega
          · have hc2 : ¬ (s[j].toNat : Int) = 10 := fun h => hc (UInt8.toNat_inj.1 (by show s[j].toNat = 10; omega))
            obtain ⟨q1, q2⟩ := step_other HD.out hc
            rw [← hn2] at q1
            rw [← hm2] at q2
            rw [q1, q2] at HA
            have hn3 : n ≤ 401 := by omega
            have hm3 : m ≤ 401 := by omega
            have HQ1 := Lib.hid q1; have HQ2 := Lib.hid q2
            clear hc hb1 hb2 hn2 hm2 q1 q2 HR
            go_wp2_with fail
            refine (Of_at s (j + 1) _ hsm hks).mono ?_
            rintro e w' ⟨rfl, rfl⟩
            rw [HQ1.out, HQ2.out]
            go_wp2_with fail
            refine (At_is _ _ _ (some (j + 1)) _ hsm (by omega) (by omega) HA.out).mono ?_
            rintro e w' ⟨rfl, rfl⟩
            go_wp2_with fail
            go_round
            case rel => exact ⟨j + 1 + 1, n, m + 1, by omega, by omega, by omega, rfl, by go_num, by go_num, Lib.hid (.inr ⟨j + 1, rfl, HQ1.out.symm, HQ2.out.symm⟩)⟩
            case measure => simp [intOf]; omega
      · go_wp2_with fail
        refine (awake_any _).mono ?_
        rintro e w' ⟨rfl, rfl⟩
        go_wp2
        go_ret
        exact ⟨rfl, Below.refl _ _⟩
end Go.Proofs.Ythphdcapkgengaa
