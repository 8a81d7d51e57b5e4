/-
  Contracts of the document's answer on sets (conchref1: SetOf, Bytes), over the translation: each returns what the plain functions of SetPlain say.
-/
import Derived.Test.YthonfodibakkjaaRefSet
namespace Go.Proofs.Ythonfodibakkjaa
open Go.RowKit

set_option maxHeartbeats 400000 in
set_option maxRecDepth 100000 in
theorem refOf_is (s : ByteArray) (hs : s.size ≤ 1048576) (w : World) :
    Calls Try.prog 15 #[.string s] w (Gives w (setV (ofS s.data.toList))) := by
  go_enter Try.func15, Try.ntmps15
  go_wp2
  go_loopw [4] (fun i wr => ∃ (k : Nat) (p : Nat → Bool), k ≤ s.size ∧ i = .int .i64 k ∧ SetAt wr (w.heap.size + 1) p ∧ SetAt wr w.heap.size noS ∧ Below w.heap.size w wr ∧ Hid (∀ c, p c = ofS (s.data.toList.take k) c)) (fun i _ => s.size - (intOf i).toNat)
  case atStart =>
    have h1 := SetAt.zero (w.alloc (.cells #[.int .u64 0, .int .u64 0, .int .u64 0, .int .u64 0] 24))
    simp at h1
    exact ⟨0, noS, Nat.zero_le _, rfl, h1, (SetAt.zero w).alloc _, bel_alloc (bel_alloc (Below.refl _ _) _) _, Lib.hid fun c => by simp [noS, ofS]⟩
  case round =>
    obtain ⟨k, p, hks, rfl, hp, hz, hb, HP⟩ := hrel
    obtain ⟨c0, c1, c2, c3⟩ := hp.cells
    have hbs := hb.size
    by_cases hk : k < s.size
    · have hW := refWith_is p s[k].toNat s[k].toNat_lt
      unfold setV at hW
      have HW := Lib.hid hW
      clear hW
      have hi0 : (0 : Int) ≤ (k : Int) := by omega
      have hi1 : (k : Int) < (s.size : Int) := by omega
      go_wp2
      have hcv : IntKind.i64.wrap (s[k].toNat : Int) = (s[k].toNat : Int) := IntWalk.i64_in _ (by have := s[k].toNat_lt; omega)
      go_still_tail 5, (by kernel_rfl)
      go_wp2_with fail
      refine (HW.out _).mono ?_
      rintro e w1 ⟨rfl, hb1⟩
      have hp1 := SetAt.after hp.drew hb1
      have hz1 := SetAt.after hz.drew hb1
      obtain ⟨d0, d1, d2, d3⟩ := hp1.cells
      have g0 := hp1.frozen 0
      have g1 := hp1.frozen 1
      have g2 := hp1.frozen 2
      have g3 := hp1.frozen 3
      go_wp2
      go_round
      case rel =>
        refine ⟨k + 1, putS p s[k].toNat, by omega, rfl, hp1.put _, (((hz1.far (by simp) _).far (by simp) _).far (by simp) _).far (by simp) _, bel_set (bel_set (bel_set (bel_set (bel_step (bel_drew hb) hb1) _ (by simp) _) _ (by simp) _) _ (by simp) _) _ (by simp) _, Lib.hid fun c => ?_⟩
        rw [byte_snoc s k hk, ofS_snoc]
        unfold putS
        rw [HP.out]
      case measure => simp [intOf]; omega
    · have hk2 : k = s.size := by omega
      obtain ⟨d0, d1, d2, d3⟩ := hz.cells
      have g0 := hz.frozen 0
      have g1 := hz.frozen 1
      have g2 := hz.frozen 2
      have g3 := hz.frozen 3
      go_wp2
      refine bodyPost_ret (v := setV p) ?_ rfl ⟨congrArg Ending.returned (setV_congr fun c _ => ?_), bel_set (bel_set (bel_set (bel_set hb _ (by simp) _) _ (by simp) _) _ (by simp) _) _ (by simp) _⟩
      · exact results_cell_row rfl _ _ _ _ _ _ _ rfl (hz.put p) Try.underlying24 rfl (by kernel_rfl)
      · rw [HP.out, hk2, List.take_of_length_le (by simp)]

/-- one byte as a text -/
theorem one_conv (k : Nat) : ∀ W : World, (convert 44 9 (.slice (some ⟨W.heap.size, 0, none⟩) 1 1)).run Try.prog (W.alloc (.cells #[.int .u8 (k : Int)] 5)) = .ok (.string ⟨#[UInt8.ofNat k]⟩) (W.alloc (.cells #[.int .u8 (k : Int)] 5)) := by
  intro W
  have h := run_convert_bytes_arg (P := Try.prog) (W.alloc (.cells #[.int .u8 (k : Int)] 5)) 44 5 Try.underlying44 Try.underlying5 W.heap.size 0 1 1 [(k : Int)] rfl (fun i hi => by
    obtain rfl : i = 0 := by omega
    simp) 9 Try.underlying9
  exact h

set_option maxHeartbeats 400000 in
set_option maxRecDepth 100000 in
theorem refBytes_is (p : Nat → Bool) (w : World) :
    Calls Try.prog 23 #[setV p] w (Gives w (.string ⟨(bytesS p).toArray⟩)) := by
  have HA := Lib.hid (SetAt.new w p)
  unfold setV
  obtain ⟨wA, hwA⟩ : ∃ wA, w.alloc (.cells #[.int .u64 (wd p 0 : Nat), .int .u64 (wd p 1 : Nat), .int .u64 (wd p 2 : Nat), .int .u64 (wd p 3 : Nat)] 24) = wA := ⟨_, rfl⟩
  have hbA : Hid (Below w.heap.size w wA) := Lib.hid (hwA ▸ bel_alloc (Below.refl _ _) _)
  rw [hwA] at HA
  go_enter Try.func23, Try.ntmps23
  go_wp2
  clear hwA
  go_loopw [3, 4] (fun v i wr => ∃ (k : Nat) (s : ByteArray), k ≤ 256 ∧ i = .int .i64 k ∧ v = .string s ∧ Below wA.heap.size wA wr ∧ s.size ≤ k ∧ Hid (s.data.toList = bytesUpto p k)) (fun _ i _ => 256 - (intOf i).toNat)
  case atStart => exact ⟨0, ⟨#[]⟩, by omega, rfl, rfl, Below.refl _ _, Nat.le_refl _, Lib.hid rfl⟩
  case round =>
    obtain ⟨k, s, hk, rfl, rfl, hb, hss, HS⟩ := hrel
    have hbs := hb.size
    have hp := HA.out.after hb
    obtain ⟨c0, c1, c2, c3⟩ := hp.cells
    by_cases hk2 : k < 256
    · have hk3 : (k : Int) ≤ 255 := by omega
      have hH := refHas_is p k hk2
      have HL := Lib.hid (bytesUpto_succ p k)
      unfold setV at hH
      have HH := Lib.hid hH
      clear hH
      go_wp2_with fail
      refine (HH.out _).mono ?_
      rintro e w3 ⟨rfl, hb3⟩
      have hb4 := hb.trans (hb3.mono hbs)
      have hb4s := hb4.size
      cases hpk : p k with
      | true =>
        rw [hpk] at HL
        have hcv := one_conv k
        have ho : (⟨#[UInt8.ofNat k]⟩ : ByteArray).size = 1 := rfl
        have HO : Hid ((⟨#[UInt8.ofNat k]⟩ : ByteArray).data.toList = [UInt8.ofNat k]) := Lib.hid rfl
        generalize (⟨#[UInt8.ofNat k]⟩ : ByteArray) = O at *
        go_wp2
        go_roundw
        case rel =>
          refine ⟨k + 1, s ++ O, by omega, by go_num, rfl, hb4.alloc hb4s _, by rw [ByteArray.size_append]; omega, Lib.hid ?_⟩
          rw [HL.out, if_pos trivial, ByteArray.data_append, Array.toList_append, HS.out, HO.out]
        case measure => simp [intOf]; omega
      | false =>
        rw [hpk] at HL
        go_wp2
        go_roundw
        case rel => exact ⟨k + 1, s, by omega, by go_num, rfl, hb4, by omega, Lib.hid (by rw [HL.out, if_neg (by decide), List.append_nil]; exact HS.out)⟩
        case measure => simp [intOf]; omega
    · obtain rfl : k = 256 := by omega
      go_wp2
      go_ret
      refine ⟨?_, bel_step hbA.out hb⟩
      have e : s = ⟨(bytesS p).toArray⟩ := by
        cases s with
        | mk d => unfold bytesS; rw [← HS.out]
      rw [← e]
      rfl
end Go.Proofs.Ythonfodibakkjaa
