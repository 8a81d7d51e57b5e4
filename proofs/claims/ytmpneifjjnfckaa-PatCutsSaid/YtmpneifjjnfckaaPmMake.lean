/-
  Contracts of package pat's Plain and Active.
-/
import Derived.Test.YtmpneifjjnfckaaPmRead
namespace Go.Proofs.Ytmpneifjjnfckaa
open Go.RowKit

theorem row_live {w : World} {b n : Nat} {f : Nat → Bool} (h : BlkAt w b (rowV n f) 4) (hn : n ≤ maxLen) : LiveAt w (.slice (some ⟨b, 0, none⟩) n n) ((List.range n).map f) := by
  refine ⟨_, n, by rw [List.length_map, List.length_range], by rw [List.length_map, List.length_range]; exact hn, fun j x hj => ⟨b, 0, rfl, ?_⟩⟩
  rw [List.getElem?_map] at hj
  by_cases hjn : j < n
  · rw [List.getElem?_range hjn] at hj
    injection hj with hj
    rw [Nat.zero_add, ← hj]
    exact h.cell j (rowV_get hjn)
  · rw [List.getElem?_eq_none (by simp; omega)] at hj
    cases hj
theorem row_off {w : World} {b n : Nat} {f : Nat → Bool} (h : BlkAt w b (rowV n f) 4) (hn : n ≤ maxLen) : ∀ c, c ≠ b → LiveOff w (.slice (some ⟨b, 0, none⟩) n n) ((List.range n).map f) c := by
  intro c hc
  refine ⟨_, n, by rw [List.length_map, List.length_range], by rw [List.length_map, List.length_range]; exact hn, fun j x hj => ⟨b, 0, rfl, Ne.symm hc, ?_⟩⟩
  rw [List.getElem?_map] at hj
  by_cases hjn : j < n
  · rw [List.getElem?_range hjn] at hj
    injection hj with hj
    rw [Nat.zero_add, ← hj]
    exact h.cell j (rowV_get hjn)
  · rw [List.getElem?_eq_none (by simp; omega)] at hj
    cases hj

set_option maxHeartbeats 4000000 in
set_option maxRecDepth 100000 in
theorem patPlain_is (s : ByteArray) (hs : s.size ≤ 1048576) (w : World) : Calls Try.prog 19 #[.string s] w (GivesPat w s DeadV) := by
  have hmk := make_bools s.size (by omega)
  have hsz : (w.alloc (.cells #[.string s, (.slice (some ⟨w.heap.size + 1, 0, none⟩) s.size s.size)] 25)).heap.size = w.heap.size + 1 := by simp
  have hZ1 := (BlkAt.new w #[.string s, (.slice (some ⟨w.heap.size + 1, 0, none⟩) s.size s.size)] 25).alloc (.cells (rowV s.size fun _ => false) 4)
  have hb1 := bel_alloc (bel_alloc (Below.refl w.heap.size w) (.cells #[.string s, (.slice (some ⟨w.heap.size + 1, 0, none⟩) s.size s.size)] 25)) (.cells (rowV s.size fun _ => false) 4)
  have hA1 := BlkAt.new_at _ (rowV s.size fun _ => false) 4 _ hsz
  have hD : DeadV ((List.range s.size).map fun _ => false) := fun i => by
    unfold livB
    rw [List.getD_eq_getElem?_getD, List.getElem?_map]
    cases (List.range s.size)[i]? <;> rfl
  have hL := row_live hA1 (by unfold maxLen; omega)
  have hO := row_off hA1 (by unfold maxLen; omega)
  have HH := Lib.hid (And.intro hZ1 (And.intro hL (And.intro hb1 (And.intro hD hO))))
  clear hsz hZ1 hb1 hA1 hD hL hO
  go_enter Try.func19, Try.ntmps19
  go_wp2
  refine bodyPost_ret (v := patV s (.slice (some ⟨w.heap.size + 1, 0, none⟩) s.size s.size)) ?_ rfl ⟨_, _, rfl, HH.out.2.1, HH.out.2.2.2.1, HH.out.2.2.1, fun c hc => HH.out.2.2.2.2 c (by omega)⟩
  exact results_cell_row rfl _ _ _ _ _ _ _ rfl HH.out.1 Try.underlying25 rfl (by kernel_rfl)

set_option maxHeartbeats 8000000 in
set_option maxRecDepth 100000 in
theorem patActive_is (t : ByteArray) (ht : t.size ≤ 1048576) (L : Value) (v : List Bool) (w : World) (hL : LiveAt w L v) : Calls Try.prog 11 #[patV t L] w (Gives w (.bool (actB t.data.toList v))) := by
  obtain ⟨wA, hwA, hb, hP⟩ := lay_pat w t L
  have HLc := Lib.hid (lastClose_is t ht L v)
  have HBk := fun i hi => Lib.hid (bracketAt_is t ht L v i hi)
  obtain ⟨lst, hlst⟩ : ∃ lst, lastI t.data.toList v t.size = lst := ⟨_, rfl⟩
  rw [hlst] at HLc HBk
  clear hlst
  have HS := fun i => Lib.hid (means_is t L v i 42)
  have HQ := fun i => Lib.hid (means_is t L v i 63)
  unfold patV at HLc HBk HS HQ ⊢
  have HA := Lib.hid hwA
  clear hwA
  have c0 := hP.cell 0 (v := .string t) rfl
  have c1 := hP.cell 1 (v := L) rfl
  go_enter Try.func11, Try.ntmps11
  go_upto_region 1 with fail
  rw [HA.out]
  go_wp2_with fail
  refine (HLc.out _ (hL.after hb)).mono ?_
  rintro ending w1 ⟨rfl, hb1⟩
  have hP := hP.after hb1
  have hb := bel_step hb hb1
  clear c0 c1 hb1 HLc HA
  have c0 := hP.cell 0 (v := .string t) rfl
  go_wp2
  clear c0
  go_loopw [12] (fun i wr => ∃ k : Nat, k ≤ t.size ∧ i = .int .i64 (k : Int) ∧ BlkAt wr w.heap.size #[.string t, L] 25 ∧ Below w.heap.size w wr ∧ Hid ((List.range k).any (actAt t.data.toList v) = false)) (fun i _ => t.size - (intOf i).toNat)
  case atStart => exact ⟨0, Nat.zero_le _, rfl, hP, hb, Lib.hid rfl⟩
  case round =>
    clear hP hb
    obtain ⟨k, hk, rfl, hP, hb, HK⟩ := hrel
    by_cases hlt : k < t.size
    · have hki : (k : Int) < (t.size : Int) := by omega
      have HS1 := HS k
      have HQ1 := HQ k
      have HB1 := HBk k (by omega)
      have HAc : Hid (∀ b, actAt t.data.toList v k = b → b = true → actB t.data.toList v = true) := Lib.hid fun b hb ht => by
        unfold actB
        rw [List.any_eq_true]
        exact ⟨k, by rw [List.mem_range, len_list]; exact hlt, by rw [hb, ht]⟩
      have HAn : Hid (actAt t.data.toList v k = false → (List.range (k + 1)).any (actAt t.data.toList v) = false) := Lib.hid fun h => by
        rw [List.range_succ, List.any_append, HK.out]
        simp [h]
      have HAt : Hid (actAt t.data.toList v k = if isB t.data.toList v k 42 then true else if isB t.data.toList v k 63 then true else (brB t.data.toList v k).isSome) := Lib.hid rfl
      clear HK HS HQ HBk
      generalize isB t.data.toList v k 42 = z1 at *
      generalize isB t.data.toList v k 63 = z2 at *
      have c0 := hP.cell 0 (v := .string t) rfl
      have c1 := hP.cell 1 (v := L) rfl
      have hLr := hL.after hb
      go_wp2_with fail
      refine (HS1.out _ hLr).mono ?_
      rintro ending w2 ⟨rfl, hb2⟩
      have hP := hP.after hb2
      have hb := bel_step hb hb2
      clear c0 c1 hb2 hLr HS1
      cases z1 with
      | true =>
        have HB := Lib.hid hb
        clear hb
        have hT : actB t.data.toList v = true := HAc.out _ HAt.out rfl
        have HT := Lib.hid hT
        clear hT HAc HAn HAt
        go_wp2
        go_ret
        exact ⟨by rw [HT.out]; rfl, HB.out⟩
      | false =>
        have c0 := hP.cell 0 (v := .string t) rfl
        have c1 := hP.cell 1 (v := L) rfl
        have hLr := hL.after hb
        go_wp2_with fail
        refine (HQ1.out _ hLr).mono ?_
        rintro ending w3 ⟨rfl, hb2⟩
        have hP := hP.after hb2
        have hb := bel_step hb hb2
        clear c0 c1 hb2 hLr HQ1
        cases z2 with
        | true =>
          have HB := Lib.hid hb
          clear hb
          have hT : actB t.data.toList v = true := HAc.out _ HAt.out rfl
          have HT := Lib.hid hT
          clear hT HAc HAn HAt
          go_wp2
          go_ret
          exact ⟨by rw [HT.out]; rfl, HB.out⟩
        | false =>
          have c0 := hP.cell 0 (v := .string t) rfl
          have c1 := hP.cell 1 (v := L) rfl
          have hLr := hL.after hb
          cases hbr : brB t.data.toList v k with
          | some e =>
            have hbk : bkV t.data.toList v k = .tuple #[.agg #[.int .i64 (bkF t.data.toList v k : Nat), .int .i64 (e : Nat), .bool (isB t.data.toList v (k + 1) 33)], .bool true] := by unfold bkV; rw [hbr]
            rw [hbk] at HB1
            rw [hbr] at HAt
            generalize bkF t.data.toList v k = fr at *
            generalize isB t.data.toList v (k + 1) 33 = nt at *
            have hT : actB t.data.toList v = true := HAc.out _ HAt.out rfl
            have HT := Lib.hid hT
            clear hT HAc HAn HAt hbk hbr
            go_wp2_with fail
            refine (HB1.out _ hLr).mono ?_
            rintro ending w4 ⟨rfl, hb2⟩
            have HB := Lib.hid (bel_alloc (bel_step hb hb2) (.cells #[.int .i64 (fr : Int), .int .i64 (e : Int), .bool nt] 48))
            clear hb hb2 hP hLr c0 c1 HB1
            go_wp2
            go_ret
            exact ⟨by rw [HT.out]; rfl, HB.out⟩
          | none =>
            have hbk : bkV t.data.toList v k = .tuple #[.agg #[.int .i64 0, .int .i64 0, .bool false], .bool false] := by unfold bkV; rw [hbr]
            rw [hbk] at HB1
            rw [hbr] at HAt
            have HK2 : Hid ((List.range (k + 1)).any (actAt t.data.toList v) = false) := Lib.hid (HAn.out HAt.out)
            clear HAc HAn HAt hbk hbr
            go_wp2_with fail
            refine (HB1.out _ hLr).mono ?_
            rintro ending w4 ⟨rfl, hb2⟩
            have hP := (hP.after hb2).alloc (.cells #[.int .i64 0, .int .i64 0, .bool false] 48)
            have hb := bel_alloc (bel_step hb hb2) (.cells #[.int .i64 0, .int .i64 0, .bool false] 48)
            clear hb2 hLr c0 c1 HB1
            go_wp2
            go_round
            case rel => exact ⟨k + 1, by omega, rfl, hP, hb, HK2⟩
            case measure => simp [intOf]; omega
    · have hki : ¬ (k : Int) < (t.size : Int) := by omega
      have HT : Hid (actB t.data.toList v = false) := Lib.hid (by unfold actB; rw [len_list, show t.size = k by omega]; exact HK.out)
      have HB := Lib.hid hb
      clear hb HK
      go_wp2
      go_ret
      exact ⟨by rw [HT.out]; rfl, HB.out⟩
end Go.Proofs.Ytmpneifjjnfckaa
