/-
  The contract of package pat's Cut.
-/
import Derived.Test.YtmpneifjjnfckaaPmTurn
namespace Go.Proofs.Ytmpneifjjnfckaa
open Go.RowKit

theorem ext_drop (s : ByteArray) (n : Nat) : s.extract n s.size = ⟨(s.data.toList.drop n).toArray⟩ := by
  apply ByteArray.ext
  apply Array.ext'
  rw [ByteArray.data_extract, Array.toList_extract]
  show (s.data.toList.drop n).take (s.data.size - n) = _
  rw [List.take_of_length_le (by simp)]
theorem ext_take (s : ByteArray) (k : Nat) : s.extract 0 k = ⟨(s.data.toList.take k).toArray⟩ := by
  apply ByteArray.ext
  apply Array.ext'
  rw [ByteArray.data_extract, Array.toList_extract]
  simp

set_option maxHeartbeats 16000000 in
set_option maxRecDepth 100000 in
theorem patCut_is (t : ByteArray) (ht : t.size ≤ 1048576) (L : Value) (v : List Bool) (s : ByteArray) (hs : s.size ≤ 1048576) (front long : Bool) (w : World) (hL : LiveAt w L v) : Calls Try.prog 14 #[patV t L, .string s, .bool front, .bool long] w (Gives w (.string ⟨(cutB (patB t.data.toList v) s.data.toList front long).toArray⟩)) := by
  obtain ⟨wA, hwA, hb, hP⟩ := lay_pat w t L
  have hsA : w.heap.size + 1 ≤ wA.heap.size := by rw [← hwA]; simp
  obtain ⟨R, hR⟩ : ∃ R, (⟨(cutB (patB t.data.toList v) s.data.toList front long).toArray⟩ : ByteArray) = R := ⟨_, rfl⟩
  rw [hR]
  have HR := Lib.hid hR
  clear hR
  have HRd := Lib.hid (read_is t ht L v wA (hL.after hb))
  unfold patV at HRd ⊢
  have HW := Lib.hid hwA
  clear hwA
  have c0 := hP.cell 0 (v := .string t) rfl
  have c1 := hP.cell 1 (v := L) rfl
  go_enter Try.func14, Try.ntmps14
  go_upto_region 1 with fail
  rw [HW.out]
  go_wp2_with fail
  refine HRd.out.mono ?_
  rintro ending w2 ⟨T, G, gs, fs, rfl, hPl, hgl, hfl, hM, hb2⟩
  obtain ⟨aT, cT, gG, cG, rfl, rfl, hTb, hGb1, hGb2⟩ := plan_forms hPl hgl
  have HGL := Lib.hid hgl
  have HM := Lib.hid hM
  have hb3 := bel_alloc (bel_step hb hb2) (.cells #[.slice aT fs.length cT, .slice (some ⟨gG, 0, none⟩) gs.length cG] 42)
  have hPl3 : PlanAt (w2.alloc (.cells #[.slice aT fs.length cT, .slice (some ⟨gG, 0, none⟩) gs.length cG] 42)) wA.heap.size (.slice aT fs.length cT) (.slice (some ⟨gG, 0, none⟩) gs.length cG) gs fs := ⟨hPl.1.alloc _, hPl.2.alloc _⟩
  have hB3 := BlkAt.new w2 #[.slice aT fs.length cT, .slice (some ⟨gG, 0, none⟩) gs.length cG] 42
  have hz2 : wA.heap.size ≤ w2.heap.size := hb2.size
  obtain ⟨w3, hw3⟩ : ∃ w3, w2.alloc (.cells #[.slice aT fs.length cT, .slice (some ⟨gG, 0, none⟩) gs.length cG] 42) = w3 := ⟨_, rfl⟩
  have hz3 : w2.heap.size ≤ w3.heap.size := by rw [← hw3]; simp
  rw [hw3] at hb3 hPl3 hB3
  have HW3 := Lib.hid hw3
  clear hw3 hgl hM hb hP hb2 hPl c0 c1 HRd HW
  have hfm : fs.length ≤ 1048576 := by omega
  unfold planV
  go_upto_region 2 with fail
  rw [HW3.out]
  clear HW3
  cases front with
  | true =>
    have HLn := Lib.hid (length_is wA.heap.size _ _ gs fs HGL.out hfm s hs long w3 hPl3)
    obtain ⟨n, hn⟩ : ∃ n, lenR long (lensL gs fs s.data.toList) = n := ⟨_, rfl⟩
    have hnl := lenR_le gs fs s.data.toList long
    rw [hn, len_list] at hnl
    rw [hn] at HLn
    have hE : s.extract n s.size = R := by rw [← HR.out, cut_front HM.out, hn, ext_drop]
    have HE := Lib.hid hE
    clear hE hn HR HM
    unfold planV at HLn
    have m0 := hB3.cell 0 (v := .slice aT fs.length cT) rfl
    have m1 := hB3.cell 1 (v := .slice (some ⟨gG, 0, none⟩) gs.length cG) rfl
    go_wp2_with fail
    refine HLn.out.mono ?_
    rintro ending w4 ⟨rfl, hb4⟩
    have HB := Lib.hid (bel_step hb3 hb4)
    clear hb3 hb4 hB3 hPl3 m0 m1 HLn
    have hn0 : (0 : Int) ≤ (n : Int) := by omega
    have hn1 : (n : Int) ≤ (s.size : Int) := by omega
    go_wp2
    go_ret
    exact ⟨congrArg (fun x => Ending.returned (.string x)) HE.out, HB.out⟩
  | false =>
    have HTn := Lib.hid (turn_is wA.heap.size aT cT gG cG gs fs HGL.out hfm w3 (by omega) hPl3)
    unfold planV at HTn
    have m0 := hB3.cell 0 (v := .slice aT fs.length cT) rfl
    have m1 := hB3.cell 1 (v := .slice (some ⟨gG, 0, none⟩) gs.length cG) rfl
    go_wp2_with fail
    refine HTn.out.mono ?_
    rintro ending w4 ⟨⟨u, rfl⟩, hPl4, hb4, hK4⟩
    have hB4 := hK4 _ _ _ hB3 (fun e => by have := (hTb _ e.symm).2; omega) (by omega)
    have hb5 : Below w.heap.size w w4 := hb3.trans (hb4.mono (by omega))
    clear hb3 hb4 hK4 hB3 hPl3 m0 m1 HTn
    have hRs : (⟨s.data.toList.reverse.toArray⟩ : ByteArray).size = s.size := by
      show s.data.toList.reverse.toArray.size = _
      simp
    have HTd := Lib.hid (turned_is s hs)
    have HLn := fun W h => Lib.hid (length_is wA.heap.size (.slice aT fs.length cT) (.slice (some ⟨gG, 0, none⟩) gs.length cG) gs.reverse fs.reverse (by rw [List.length_reverse, List.length_reverse]; exact HGL.out) (by rw [List.length_reverse]; exact hfm) ⟨s.data.toList.reverse.toArray⟩ (by rw [hRs]; exact hs) long W h)
    obtain ⟨n, hn⟩ : ∃ n, lenR long (lensL gs.reverse fs.reverse s.data.toList.reverse) = n := ⟨_, rfl⟩
    have hnl := lenR_le gs.reverse fs.reverse s.data.toList.reverse long
    rw [hn, List.length_reverse, len_list] at hnl
    have hn2 : lenR long (lensL gs.reverse fs.reverse (⟨s.data.toList.reverse.toArray⟩ : ByteArray).data.toList) = n := hn
    rw [hn2] at HLn
    obtain ⟨k, hk⟩ : ∃ k, s.size - n = k := ⟨_, rfl⟩
    have EK : (s.size : Int) - (n : Int) = (k : Int) := by omega
    have hkl : k ≤ s.size := by omega
    have hE : s.extract 0 k = R := by rw [← HR.out, cut_back HGL.out HM.out, hn, len_list, hk, ext_take]
    have HE := Lib.hid hE
    clear hE hn hn2 hk HR HM hRs hnl
    unfold planV at HLn
    generalize (⟨s.data.toList.reverse.toArray⟩ : ByteArray) = sr at *
    have hk0 : (0 : Int) ≤ (k : Int) := by omega
    have hk1 : (k : Int) ≤ (s.size : Int) := by omega
    have L0 : ∀ x : Later w4, x.at_.cell? ⟨w2.heap.size, 0, none⟩ = some (.slice aT fs.length cT) := fun x => (hB4.after x.below).cell 0 rfl
    have L1 : ∀ x : Later w4, x.at_.cell? ⟨w2.heap.size, 1, none⟩ = some (.slice (some ⟨gG, 0, none⟩) gs.length cG) := fun x => (hB4.after x.below).cell 1 rfl
    have L2 : ∀ x : Later w4, PlanAt x.at_ wA.heap.size (.slice aT fs.length cT) (.slice (some ⟨gG, 0, none⟩) gs.length cG) gs.reverse fs.reverse := fun x => ⟨own_aft hPl4.1 x.below, own_aft hPl4.2 x.below⟩
    go_wp2
    refine region_later (by kernel_rfl) (by kernel_rfl) ?_
    repeat (go_big_quiet_step (fail))
    go_big_quiet_step (exact later (HTd.out _))
    repeat (go_big_quiet_step (fail))
    go_big_quiet_step (exact later ((HLn _ (L2 _)).out))
    repeat (go_big_quiet_step (fail))
    refine wpQuiet_nil ?_
    rintro _ ⟨q, rfl⟩
    have HB := Lib.hid (bel_step hb5 q.below)
    clear L0 L1 L2 hB4 hPl4 hb5 HLn HTd
    generalize q.at_ = x9 at *
    go_wp2
    go_ret
    exact ⟨congrArg (fun x => Ending.returned (.string x)) HE.out, HB.out⟩
end Go.Proofs.Ytmpneifjjnfckaa
