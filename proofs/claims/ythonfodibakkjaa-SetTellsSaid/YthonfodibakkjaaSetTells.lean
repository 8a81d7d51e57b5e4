/-
  The walk of conchlaw3.SetTells.
-/
import Derived.Test.YthonfodibakkjaaSetAwake
import Derived.Test.YthonfodibakkjaaRefSet
import Derived.Test.YthonfodibakkjaaRefSetOf
import Derived.Test.YthonfodibakkjaaRefRange
import Derived.Test.YthonfodibakkjaaBits
namespace Go.Proofs.Ythonfodibakkjaa
open Go.RowKit

theorem same_self (p : Nat → Bool) : sameS p p = true := sameS_of fun _ _ => rfl

set_option maxHeartbeats 4000000 in
set_option maxRecDepth 100000 in
theorem SetTells_walk (s : ByteArray) (p q : Nat → Bool) (lo hi : Int) (w : World) :
    Calls Try.prog 4 #[.string s, setV p, setV q, .int .i64 lo, .int .i64 hi] w (Gives w (.bool true)) := by
  by_cases hs : (400 : Int) < s.size
  · unfold setV
    go_enter Try.func4, Try.ntmps4
    go_wp2_with fail
    refine (awake_is _).mono ?_
    rintro e w1 ⟨rfl, hb1⟩
    go_wp2
    go_ret
    exact ⟨rfl, bel_step (bel_alloc (bel_alloc (Below.refl _ _) _) _) hb1⟩
  · have hs2 : s.size ≤ 1048576 := by omega
    have hd : decide ((400 : Int) < (s.size : Int)) = false := decide_eq_false hs
    have H1 := Lib.hid (Of_is s hs2)
    have H2 := Lib.hid (refOf_is s hs2)
    have E1 := run_eq_set (ofS s.data.toList) (ofS s.data.toList)
    rw [same_self] at E1
    have H3 := Lib.hid (Or_is p q)
    have H4 := Lib.hid (refOr_is p q)
    have E2 := run_eq_set (orS p q) (orS p q)
    rw [same_self] at E2
    have H5 := Lib.hid (And_is p q)
    have H6 := Lib.hid (refAnd_is p q)
    have E3 := run_eq_set (andS p q) (andS p q)
    rw [same_self] at E3
    have H7 := Lib.hid (Less_is p q)
    have H8 := Lib.hid (refLess_is p q)
    have E4 := run_eq_set (lessS p q) (lessS p q)
    rw [same_self] at E4
    have H9 := Lib.hid (Within_is p q)
    have E5 := run_eq_set (lessS p q) noS
    rw [setV_no] at E5
    rw [show subS p q = sameS (lessS p q) noS from rfl] at H9
    generalize sameS (lessS p q) noS = z at *
    have H10 := Lib.hid (Bytes_is p)
    have H11 := Lib.hid (refBytes_is p)
    have H12 := Lib.hid (Count_is p)
    have hT : (⟨(bytesS p).toArray⟩ : ByteArray).size = cntS p := by rw [← bytesS_len p]; simp [ByteArray.size]
    generalize (⟨(bytesS p).toArray⟩ : ByteArray) = T at *
    have H13 := Lib.hid awake_is
    have HA := Lib.hid (Has_is p)
    have HB := Lib.hid (refHas_is p)
    have hpA := Lib.hid ((SetAt.new w p).alloc (.cells #[.int .u64 (wd q 0 : Nat), .int .u64 (wd q 1 : Nat), .int .u64 (wd q 2 : Nat), .int .u64 (wd q 3 : Nat)] 24))
    have hqA := Lib.hid (SetAt.new (w.alloc (.cells #[.int .u64 (wd p 0 : Nat), .int .u64 (wd p 1 : Nat), .int .u64 (wd p 2 : Nat), .int .u64 (wd p 3 : Nat)] 24)) q)
    rw [World.size_alloc] at hqA
    unfold setV at H1 H2 H3 H4 H5 H6 H7 H8 H9 H10 H11 H12 E1 E2 E3 E4 E5 HA HB ⊢
    go_enter Try.func4, Try.ntmps4
    go_wp2

    go_loopw [11] (fun i wr => ∃ k : Nat, k ≤ 256 ∧ i = .int .i64 k ∧ SetAt wr w.heap.size p ∧ SetAt wr (w.heap.size + 1) q ∧ Below w.heap.size w wr) (fun i _ => 256 - (intOf i).toNat)
    case atStart => exact ⟨0, by omega, rfl, hpA.out, hqA.out, bel_alloc (bel_alloc (Below.refl _ _) _) _⟩
    case round =>
      obtain ⟨k, hk, rfl, hp, hq, hb⟩ := hrel
      by_cases hk2 : k < 256
      · have hk3 : (k : Int) ≤ 255 := by omega
        have hcv : IntKind.u8.wrap (k : Int) = (k : Int) := by rw [IntKind.wrap_u8']; omega
        have HAk := Lib.hid (HA.out k hk2)
        have HBk := Lib.hid (HB.out k hk2)
        clear H1 H2 H3 H4 H5 H6 H7 H8 H9 H10 H11 H12 E1 E2 E3 E4 E5 HA HB
        generalize p k = v at *
        go_wp2
        have L00 : ∀ x : Later wr, x.at_.cell? ⟨w.heap.size, 0, none⟩ = some (.int .u64 (wd p 0 : Nat)) := fun x => (hp.after x.below).cells.1
        have L01 : ∀ x : Later wr, x.at_.cell? ⟨w.heap.size, 1, none⟩ = some (.int .u64 (wd p 1 : Nat)) := fun x => (hp.after x.below).cells.2.1
        have L02 : ∀ x : Later wr, x.at_.cell? ⟨w.heap.size, 2, none⟩ = some (.int .u64 (wd p 2 : Nat)) := fun x => (hp.after x.below).cells.2.2.1
        have L03 : ∀ x : Later wr, x.at_.cell? ⟨w.heap.size, 3, none⟩ = some (.int .u64 (wd p 3 : Nat)) := fun x => (hp.after x.below).cells.2.2.2
        refine region_later (by kernel_rfl) (by kernel_rfl) ?_
        repeat (go_big_quiet_step (fail))
        go_big_quiet_step (exact later (HAk.out _))
        repeat (go_big_quiet_step (fail))
        go_big_quiet_step (exact later (HBk.out _))
        repeat (go_big_quiet_step (fail))
        refine wpQuiet_nil ?_
        rintro _ ⟨x, rfl⟩
        go_wp2
        go_round
        case rel => exact ⟨k + 1, by omega, rfl, hp.after x.below, hq.after x.below, bel_step hb x.below⟩
        case measure => simp [intOf]; omega
      · clear HA HB
        go_wp2
        go_loopw [3, 4, 12] (fun l h i wr2 => ∃ (L H : Int) (k : Nat), k ≤ 2 ∧ l = .int .i64 L ∧ h = .int .i64 H ∧ i = .int .i64 k ∧ SetAt wr2 w.heap.size p ∧ SetAt wr2 (w.heap.size + 1) q ∧ Below w.heap.size w wr2) (fun _ _ i _ => 2 - (intOf i).toNat)
        case atStart => exact ⟨lo, hi, 0, by omega, rfl, rfl, rfl, hp, hq, hb⟩
        case round =>
          clear hp hq hb
          obtain ⟨L, H, j, hj, rfl, rfl, rfl, hp, hq, hb⟩ := hrel
          by_cases hj2 : j < 2
          · clear H1 H2 H3 H4 H5 H6 H7 H8 H9 H10 H11 H12 E1 E2 E3 E4 E5
            have R1 := Lib.hid (Range_is L H)
            have R2 := Lib.hid (refRange_is L H)
            have E := run_eq_set (rangeS L H) (rangeS L H)
            rw [same_self] at E
            unfold setV at R1 R2 E
            generalize rangeS L H = r at *
            have mh := and_mask_le H 9 (by decide) 511 rfl
            go_wp2_with fail
            refine (R1.out _).mono ?_
            rintro e w2 ⟨rfl, hb2⟩
            go_wp2_with fail
            refine (R2.out _).mono ?_
            rintro e w3 ⟨rfl, hb3⟩
            go_wp2
            go_round
            case rel => exact ⟨_, _, j + 1, by omega, rfl, rfl, rfl, (hp.after hb2).after hb3, (hq.after hb2).after hb3, bel_step (bel_step hb hb2) hb3⟩
            case measure => simp [intOf]; omega
          · go_wp2
            have L00 : ∀ x : Later wr, x.at_.cell? ⟨w.heap.size, 0, none⟩ = some (.int .u64 (wd p 0 : Nat)) := fun x => (hp.after x.below).cells.1
            have L01 : ∀ x : Later wr, x.at_.cell? ⟨w.heap.size, 1, none⟩ = some (.int .u64 (wd p 1 : Nat)) := fun x => (hp.after x.below).cells.2.1
            have L02 : ∀ x : Later wr, x.at_.cell? ⟨w.heap.size, 2, none⟩ = some (.int .u64 (wd p 2 : Nat)) := fun x => (hp.after x.below).cells.2.2.1
            have L03 : ∀ x : Later wr, x.at_.cell? ⟨w.heap.size, 3, none⟩ = some (.int .u64 (wd p 3 : Nat)) := fun x => (hp.after x.below).cells.2.2.2
            have L10 : ∀ x : Later wr, x.at_.cell? ⟨w.heap.size + 1, 0, none⟩ = some (.int .u64 (wd q 0 : Nat)) := fun x => (hq.after x.below).cells.1
            have L11 : ∀ x : Later wr, x.at_.cell? ⟨w.heap.size + 1, 1, none⟩ = some (.int .u64 (wd q 1 : Nat)) := fun x => (hq.after x.below).cells.2.1
            have L12 : ∀ x : Later wr, x.at_.cell? ⟨w.heap.size + 1, 2, none⟩ = some (.int .u64 (wd q 2 : Nat)) := fun x => (hq.after x.below).cells.2.2.1
            have L13 : ∀ x : Later wr, x.at_.cell? ⟨w.heap.size + 1, 3, none⟩ = some (.int .u64 (wd q 3 : Nat)) := fun x => (hq.after x.below).cells.2.2.2
            refine region_later (by kernel_rfl) (by kernel_rfl) ?_
            repeat (go_big_quiet_step (fail))
            go_big_quiet_step (exact later (H1.out _))
            repeat (go_big_quiet_step (fail))
            go_big_quiet_step (exact later (H2.out _))
            repeat (go_big_quiet_step (fail))
            go_big_quiet_step (exact later (H3.out _))
            repeat (go_big_quiet_step (fail))
            go_big_quiet_step (exact later (H4.out _))
            repeat (go_big_quiet_step (fail))
            go_big_quiet_step (exact later (H5.out _))
            repeat (go_big_quiet_step (fail))
            go_big_quiet_step (exact later (H6.out _))
            repeat (go_big_quiet_step (fail))
            go_big_quiet_step (exact later (H7.out _))
            repeat (go_big_quiet_step (fail))
            go_big_quiet_step (exact later (H8.out _))
            repeat (go_big_quiet_step (fail))
            go_big_quiet_step (exact later (H9.out _))
            repeat (go_big_quiet_step (fail))
            go_big_quiet_step (exact later (H8.out _))
            repeat (go_big_quiet_step (fail))
            go_big_quiet_step (exact later (H10.out _))
            repeat (go_big_quiet_step (fail))
            go_big_quiet_step (exact later (H11.out _))
            repeat (go_big_quiet_step (fail))
            go_big_quiet_step (exact later (H12.out _))
            repeat (go_big_quiet_step (fail))
            go_big_quiet_step (exact later (H11.out _))
            repeat (go_big_quiet_step (fail))
            go_big_quiet_step (exact later (H13.out _))
            repeat (go_big_quiet_step (fail))
            refine wpQuiet_nil ?_
            rintro _ ⟨x, rfl⟩
            go_wp2
            go_ret
            exact ⟨rfl, bel_step hb x.below⟩
end Go.Proofs.Ythonfodibakkjaa
