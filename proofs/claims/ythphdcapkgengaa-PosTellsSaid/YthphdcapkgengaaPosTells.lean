/-
  conchlaw2.PosTells returns true for every input.
-/
import Derived.Test.YthphdcapkgengaaPos
import Derived.Test.YthphdcapkgengaaBits
namespace Go.Proofs.Ythphdcapkgengaa
open Go.RowKit

theorem Place_at (s : ByteArray) (k : Nat) (w : World) (hs : s.size ≤ 1048576) (hk : k ≤ s.size) :
    Calls Try.prog 9 #[.string s, .int .i64 k] w fun e w' => e = .returned (.tuple #[.int .i64 (lnAt s.data.toList k : Nat), .int .i64 (cnAt s.data.toList k : Nat)]) ∧ w = w' := by
  have := Place_any s k w hs
  rwa [held_in _ _ hk] at this

/-- the search's state: found, or none below k -/
def Sought (l : List UInt8) (line col : Int) (k : Nat) : Option Nat → Prop
  | some m => AtIs l line col (some m)
  | none => ∀ m, m < k → (lnAt l m : Int) = line → (cnAt l m : Int) = col → False

set_option maxHeartbeats 4000000 in
set_option maxRecDepth 100000 in
theorem PosTells_walk (s : ByteArray) (a line col : Int) (w : World) (h1 : line ≤ 9223372036854775807) (h2 : col ≤ 9223372036854775807) :
    Calls Try.prog 4 #[.string s, .int .i64 a, .int .i64 line, .int .i64 col] w (Gives w (.bool true)) := by
  by_cases hl : 200 < s.size
  · go_enter Try.func4, Try.ntmps4
    go_wp2_with fail
    refine (awake_any _).mono ?_
    rintro e w' ⟨rfl, rfl⟩
    go_wp2
    go_ret
    exact ⟨rfl, Below.refl _ _⟩
  · have hsm : s.size ≤ 1048576 := by omega
    have hl3 : decide ((200 : Int) < (s.size : Int)) = false := decide_eq_false (by omega)
    go_enter Try.func4, Try.ntmps4
    go_wp2_with fail
    go_loop [1, 2, 3, 9] (fun x y z i => ∃ (a line col : Int) (k : Nat), k ≤ 2 ∧ line ≤ 9223372036854775807 ∧ col ≤ 9223372036854775807 ∧ x = .int .i64 a ∧ y = .int .i64 line ∧ z = .int .i64 col ∧ i = .int .i64 k) (fun _ _ _ i => 2 - (intOf i).toNat)
    case atStart => exact ⟨a, line, col, 0, by omega, h1, h2, rfl, rfl, rfl, rfl⟩
    case round =>
      clear h1 h2 a line col
      obtain ⟨a, line, col, i, hi, h1, h2, rfl, rfl, rfl, rfl⟩ := hrel
      by_cases hi2 : i < 2
      · obtain ⟨n, hn⟩ : ∃ n, lnAt s.data.toList (held s.size a) = n := ⟨_, rfl⟩
        obtain ⟨m, hm⟩ : ∃ m, cnAt s.data.toList (held s.size a) = m := ⟨_, rfl⟩
        have HN := Lib.hid hn; have HM := Lib.hid hm; clear hn hm
        obtain ⟨A, hA⟩ : ∃ A, bits BinOp.and IntKind.i64 a 65535 = A := ⟨_, rfl⟩
        obtain ⟨L, hL⟩ : ∃ L, bits BinOp.and IntKind.i64 line 7 = L := ⟨_, rfl⟩
        obtain ⟨C, hC⟩ : ∃ C, bits BinOp.and IntKind.i64 col 31 = C := ⟨_, rfl⟩
        have bA := and_mask_le a 16 (by decide) 65535 (by decide)
        have bL := and_mask_le line 3 (by decide) 7 (by decide)
        have bC := and_mask_le col 5 (by decide) 31 (by decide)
        rw [hA] at bA; rw [hL] at bL; rw [hC] at bC
        obtain ⟨bA0, bA1⟩ := bA; obtain ⟨bL0, bL1⟩ := bL; obtain ⟨bC0, bC1⟩ := bC
        go_wp2_with fail
        refine (Of_any s a _ hsm).mono ?_
        rintro e w' ⟨rfl, rfl⟩
        rw [HN.out, HM.out]
        go_wp2_with fail
        refine (Place_any s a _ hsm).mono ?_
        rintro e w' ⟨rfl, rfl⟩
        rw [HN.out, HM.out]
        clear HN HM
        go_wp2_with fail
        go_loop [12, 13, 14, 15, 16] (fun x y p q r => ∃ (o : Option Nat) (k : Nat) (u v : Int), k ≤ s.size + 1 ∧ x = .int .i64 u ∧ y = .int .i64 v ∧ p = .int .i64 (o.getD 0 : Nat) ∧ q = .bool o.isSome ∧ r = .int .i64 k ∧ Hid (Sought s.data.toList line col k o)) (fun _ _ _ _ r => s.size + 1 - (intOf r).toNat)
        case atStart => exact ⟨none, 0, n, m, by omega, rfl, rfl, rfl, rfl, rfl, Lib.hid (fun m h => by omega)⟩
        case round =>
          obtain ⟨o, k, u, v, hk, rfl, rfl, rfl, rfl, rfl, HR⟩ := hrel
          cases o with
          | none =>
            by_cases hks : k ≤ s.size
            · obtain ⟨n', hn⟩ : ∃ n, lnAt s.data.toList k = n := ⟨_, rfl⟩
              obtain ⟨m', hm⟩ : ∃ m, cnAt s.data.toList k = m := ⟨_, rfl⟩
              have HN := Lib.hid hn; have HM := Lib.hid hm; clear hn hm
              by_cases e1 : (n' : Int) = line
              · by_cases e2 : (m' : Int) = col
                · have HO : Hid (AtIs s.data.toList line col (some k)) := Lib.hid ⟨by rw [len_data]; exact hks, by rw [HN.out, e1], by rw [HM.out, e2]⟩
                  go_wp2_with fail
                  refine (Place_at s k _ hsm hks).mono ?_
                  rintro e w' ⟨rfl, rfl⟩
                  rw [HN.out, HM.out]
                  go_wp2_with fail
                  go_round
                  case rel => exact ⟨some k, k + 1, _, _, by omega, rfl, rfl, rfl, rfl, by go_num, HO⟩
                  case measure => simp [intOf]; omega
                · have HO : Hid (Sought s.data.toList line col (k + 1) none) := Lib.hid (fun x hx p q => by
                    by_cases hxk : x = k
                    · subst hxk; rw [HM.out] at q; exact e2 q
                    · exact HR.out x (by omega) p q)
                  go_wp2_with fail
                  refine (Place_at s k _ hsm hks).mono ?_
                  rintro e w' ⟨rfl, rfl⟩
                  rw [HN.out, HM.out]
                  go_wp2_with fail
                  go_round
                  case rel => exact ⟨none, k + 1, _, _, by omega, rfl, rfl, rfl, rfl, by go_num, HO⟩
                  case measure => simp [intOf]; omega
              · have HO : Hid (Sought s.data.toList line col (k + 1) none) := Lib.hid (fun x hx p q => by
                  by_cases hxk : x = k
                  · subst hxk; rw [HN.out] at p; exact e1 p
                  · exact HR.out x (by omega) p q)
                go_wp2_with fail
                refine (Place_at s k _ hsm hks).mono ?_
                rintro e w' ⟨rfl, rfl⟩
                rw [HN.out, HM.out]
                go_wp2_with fail
                go_round
                case rel => exact ⟨none, k + 1, _, _, by omega, rfl, rfl, rfl, rfl, by go_num, HO⟩
                case measure => simp [intOf]; omega
            · have HO : Hid (AtIs s.data.toList line col none) := Lib.hid (fun x hx p q => HR.out x (by rw [len_data] at hx; omega) p q)
              clear HR
              go_wp2_with fail
              refine (At_is s line col none _ hsm h1 h2 HO.out).mono ?_
              rintro e w' ⟨rfl, rfl⟩
              go_wp2_with fail
              go_round
              case rel => exact ⟨_, _, _, i + 1, by omega, by omega, by omega, rfl, rfl, rfl, by go_num⟩
              case measure => simp [intOf]; omega
          | some j =>
            have HO : Hid (AtIs s.data.toList line col (some j)) := Lib.hid HR.out
            clear HR
            by_cases hks : k ≤ s.size
            · go_wp2_with fail
              refine (At_is s line col (some j) _ hsm h1 h2 HO.out).mono ?_
              rintro e w' ⟨rfl, rfl⟩
              go_wp2_with fail
              go_round
              case rel => exact ⟨_, _, _, i + 1, by omega, by omega, by omega, rfl, rfl, rfl, by go_num⟩
              case measure => simp [intOf]; omega
            · go_wp2_with fail
              refine (At_is s line col (some j) _ hsm h1 h2 HO.out).mono ?_
              rintro e w' ⟨rfl, rfl⟩
              go_wp2_with fail
              go_round
              case rel => exact ⟨_, _, _, i + 1, by omega, by omega, by omega, rfl, rfl, rfl, by go_num⟩
              case measure => simp [intOf]; omega
      · go_wp2_with fail
        refine (awake_any _).mono ?_
        rintro e w' ⟨rfl, rfl⟩
        go_wp2
        go_ret
        exact ⟨rfl, Below.refl _ _⟩
end Go.Proofs.Ythphdcapkgengaa
