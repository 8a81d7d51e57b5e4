/-
  The contract of set.Of: the set of the text's bytes.
-/
import Derived.Test.YtjdhidiocchkeaaSetAt
import Derived.StillTailTactics
namespace Go.Proofs.Ytjdhidiocchkeaa
open Go.RowKit

theorem byte_snoc (s : ByteArray) (k : Nat) (h : k < s.size) : s.data.toList.take (k + 1) = s.data.toList.take k ++ [s[k]] := by
  rw [List.take_add_one, List.getElem?_eq_getElem (by simpa using h)]
  rfl

set_option maxHeartbeats 4000000 in
set_option maxRecDepth 100000 in
theorem Of_is (s : ByteArray) (hs : s.size ≤ 1048576) (w : World) :
    Calls Try.prog 37 #[.string s] w (Gives w (setV (ofS s.data.toList))) := by
  go_enter Try.func37, Try.ntmps37
  go_wp2
  go_loopw [4, 7] (fun _ i wr => ∃ (k : Nat) (p : Nat → Bool), k ≤ s.size ∧ i = .int .i64 k ∧ SetAt wr (w.heap.size + 1) p ∧ SetAt wr w.heap.size noS ∧ Below w.heap.size w wr ∧ Hid (∀ c, p c = ofS (s.data.toList.take k) c)) (fun _ i _ => s.size - (intOf i).toNat)
  case atStart =>
    have h1 := SetAt.zero (w.alloc (.cells #[.int .u64 0, .int .u64 0, .int .u64 0, .int .u64 0] 24))
    simp at h1
    exact ⟨0, noS, Nat.zero_le _, rfl, h1, (SetAt.zero w).alloc _, bel_alloc (bel_alloc (Below.refl _ _) _) _, Lib.hid fun c => by simp [noS, ofS]⟩
  case round =>
    obtain ⟨k, p, hks, rfl, hp, hz, hb, HP⟩ := hrel
    obtain ⟨c0, c1, c2, c3⟩ := hp.cells
    have hbs := hb.size
    by_cases hk : k < s.size
    · have hW := with_is p s[k].toNat s[k].toNat_lt
      unfold setV at hW
      have HW := Lib.hid hW
      clear hW
      have hi0 : (0 : Int) ≤ (k : Int) := by omega
      have hi1 : (k : Int) < (s.size : Int) := by omega
      go_wp2
      go_still_tail 4, (by kernel_rfl)
      go_wp2_with fail
      refine (HW.out _).mono ?_
      rintro e w1 ⟨rfl, hb1⟩
      have hp1 := SetAt.after hp.drew hb1
      have hz1 := SetAt.after hz.drew hb1
      obtain ⟨d0, d1, d2, d3⟩ := hp1.cells
      have g0 := hp1.frozen 0
      have g1 := hp1.frozen 1
      have g2 := hp1.frozen 2
      have g3 := hp1.frozen 3
      go_wp2
      go_round
      case rel =>
        refine ⟨k + 1, putS p s[k].toNat, by omega, rfl, hp1.put _, (((hz1.far (by simp) _).far (by simp) _).far (by simp) _).far (by simp) _, bel_set (bel_set (bel_set (bel_set (bel_step (bel_drew hb) hb1) _ (by simp) _) _ (by simp) _) _ (by simp) _) _ (by simp) _, Lib.hid fun c => ?_⟩
        rw [byte_snoc s k hk, ofS_snoc]
        unfold putS
        rw [HP.out]
      case measure => simp [intOf]; omega
    · have hk2 : k = s.size := by omega
      obtain ⟨d0, d1, d2, d3⟩ := hz.cells
      have g0 := hz.frozen 0
      have g1 := hz.frozen 1
      have g2 := hz.frozen 2
      have g3 := hz.frozen 3
      go_wp2
      refine bodyPost_ret (v := setV p) ?_ rfl ⟨congrArg Ending.returned (setV_congr fun c _ => ?_), bel_set (bel_set (bel_set (bel_set hb _ (by simp) _) _ (by simp) _) _ (by simp) _) _ (by simp) _⟩
      · exact results_cell_row rfl _ _ _ _ _ _ _ rfl (hz.put p) Try.underlying24 rfl (by kernel_rfl)
      · rw [HP.out, hk2, List.take_of_length_le (by simp)]
end Go.Proofs.Ytjdhidiocchkeaa
