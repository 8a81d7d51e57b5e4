/-
  The contracts of package arith's reader.sum and Parse.
-/
import Derived.Test.YtekpopopibhjbaaArSums
namespace Go.Proofs.Ytekpopopibhjbaa
open Go.RowKit

set_option maxHeartbeats 4000000 in
set_option maxRecDepth 100000 in
theorem sum_step (s : ByteArray) (hs : s.size ≤ 1000000) (F : Nat) (hA : ∀ f, f ≤ F → SumIs s f) (hB : OperandIs s F) : SumIs s (F + 1) := by
  intro g least deep i ops v w hle1 hle2 hd hi hl hf h
  have hok := rd_ok s.data.toList F 1 0 deep i ops (.inr (.inl rfl)) (by simpa using hi)
  have HB := Lib.hid (hB g deep i ops v w hd hi hl (by omega) h)
  obtain ⟨⟨i1, o1, e⟩, hr⟩ : ∃ r, rdP s.data.toList F 1 0 deep i ops = r := ⟨_, rfl⟩
  rw [hr] at hok HB
  have HR := Lib.hid hr
  clear hr h
  simp only at hok
  have hi1 : i1 ≤ s.size := by simpa using hok.2.1
  have hl1 : o1.length ≤ i1 := by omega
  have hii : i ≤ i1 := hok.1
  clear hok
  obtain ⟨R, hR⟩ : ∃ R, rdP s.data.toList (F + 1) 0 least deep i ops = R := ⟨_, rfl⟩
  rw [hR]
  have HRR := Lib.hid hR
  clear hR hB
  cases e with
  | succ e =>
    have HX : Hid (R = (i1, o1, e + 1)) := Lib.hid (by rw [← HRR.out, rd_sum_err HR.out])
    have hne := nz_int e
    generalize e + 1 = e' at *
    clear HR HRR hA
    go_enter Try.func20, Try.ntmps20
    go_wp2_with fail
    refine HB.out.mono ?_
    rintro ending w1 ⟨v1, rfl, h1, hb1⟩
    simp only at h1
    clear HB
    go_wp2
    go_ret
    rw [HX.out]
    exact ⟨_, rfl, h1, hb1⟩
  | zero =>
    have HX : Hid (rdP s.data.toList F 3 least deep i1 o1 = R) := Lib.hid (by rw [← HRR.out, rd_sum_ok HR.out])
    clear HR HRR
    have HA := Lib.hid hA
    clear hA
    go_enter Try.func20, Try.ntmps20
    go_wp2_with fail
    refine HB.out.mono ?_
    rintro ending w1 ⟨v1, rfl, h1, hb1⟩
    simp only at h1
    clear HB
    go_wp2
    go_loopw [8] (fun _ wr => ∃ (f i2 : Nat) (o2 : List AOp) (v2 : Value), f ≤ F ∧ i2 ≤ s.size ∧ o2.length ≤ i2 ∧ 4 * (s.size - i2) + 1 ≤ f ∧ RdAt wr g s i2 o2 v2 ∧ Below g w wr ∧ Hid (rdP s.data.toList f 3 least deep i2 o2 = R)) (fun _ wr => s.size - atOf wr g)
    case atStart => exact ⟨F, i1, o1, v1, Nat.le_refl _, hi1, hl1, by omega, h1, hb1, HX⟩
    case round =>
      clear HX h1 hb1 hl1 hi1 hii
      obtain ⟨f0, i2, o2, v2, hfF, hi2, hl2, hf2, h2, hb2, HX⟩ := hrel
      obtain ⟨f, rfl⟩ : ∃ f, f0 = f + 1 := ⟨f0 - 1, by omega⟩
      have hat := h2.atOf
      have hsk := skip_le (l := s.data.toList) (i := i2) (by simpa using hi2)
      have HS := Lib.hid (sign_is g s i2 o2 v2 wr (by omega) hi2 h2)
      have hsg := sign_len (l := s.data.toList) (i := skipB s.data.toList i2) hsk.2
      have H1 : Hid (∀ k b, btwP (signAt s.data.toList (skipB s.data.toList i2)) = (k, b) → b < least → R = (skipB s.data.toList i2, o2, 0)) := Lib.hid fun k b h0 h1 => by rw [← HX.out, rd_loop_end h0 h1]
      have H2 : Hid (∀ k b n i3 o3, btwP (signAt s.data.toList (skipB s.data.toList i2)) = (k, b) → (signAt s.data.toList (skipB s.data.toList i2)).length = n → ¬ b < least → rdP s.data.toList f 0 (b + 1) deep (skipB s.data.toList i2 + n) o2 = (i3, o3, 0) → rdP s.data.toList f 3 least deep i3 (o3 ++ [opO k]) = R) := Lib.hid fun k b n i3 o3 h0 h1 h3 h4 => by rw [← HX.out, rd_loop_ok h0 h1 h3 h4]
      have H3 : Hid (∀ k b n i3 e o3, btwP (signAt s.data.toList (skipB s.data.toList i2)) = (k, b) → (signAt s.data.toList (skipB s.data.toList i2)).length = n → ¬ b < least → rdP s.data.toList f 0 (b + 1) deep (skipB s.data.toList i2 + n) o2 = (i3, o3, e + 1) → R = (i3, o3, e + 1)) := Lib.hid fun k b n i3 e o3 h0 h1 h3 h4 => by rw [← HX.out, rd_loop_err h0 h1 h3 h4]
      clear HX h2
      generalize skipB s.data.toList i2 = j at *
      generalize signAt s.data.toList j = sg at *
      have hj : j ≤ s.size := by have := hsk.2; simpa using this
      have hij : i2 ≤ j := hsk.1
      have hjs : j + sg.length ≤ s.size := by have := hsg.2; simpa using this
      have hsl := hsg.1
      clear hsk hsg
      obtain ⟨T, hT⟩ : ∃ T : ByteArray, (⟨sg.toArray⟩ : ByteArray) = T := ⟨_, rfl⟩
      have hTd : T.data.toList = sg := by rw [← hT]
      have hTs : T.size = sg.length := by rw [← hTd]; simp
      simp only [strV, hT] at HS
      have HW := Lib.hid (between_is T)
      rw [hTd] at HW
      have hkb := btw_le sg
      have hpos := btw_pos (l := sg)
      obtain ⟨⟨k, b⟩, hk⟩ : ∃ p, btwP sg = p := ⟨_, rfl⟩
      rw [hk] at HW hkb hpos
      have HK := Lib.hid hk
      clear hk hT hTd
      dsimp only at HW hkb hpos
      have hkb2 := hkb.2
      clear hkb
      by_cases hlt : b < least
      · have dl : decide ((b : Int) < (least : Int)) = true := decide_eq_true (by omega)
        have HXE := Lib.hid (H1.out k b HK.out hlt)
        clear H1 H2 H3 hTs hjs hsl hpos
        go_wp2_with fail
        refine HS.out.mono ?_
        rintro ending w3 ⟨rfl, h3, hb3⟩
        clear HS
        go_wp2_with fail
        refine (HW.out _).mono ?_
        rintro ending w4 ⟨rfl, rfl⟩
        go_wp2
        go_ret
        rw [HXE.out]
        exact ⟨_, rfl, h3, hb2.trans hb3⟩
      · have dl : decide ((b : Int) < (least : Int)) = false := decide_eq_false (by omega)
        have hp1 := hpos (by omega)
        have hok := rd_ok s.data.toList f 0 (b + 1) deep (j + sg.length) o2 (.inl (by omega)) (by simpa using hjs)
        have hA1 : ∀ (w : World), RdAt w g s (j + sg.length) o2 v2 → Calls Try.prog 20 #[.pointer (some ⟨g, 0, none⟩), .int .i64 ((b : Int) + 1), .int .i64 (deep : Int)] w (PlainLeft g s w (rdP s.data.toList f 0 (b + 1) deep (j + sg.length) o2)) := fun w h => HA.out f (by omega) g (b + 1) deep (j + sg.length) o2 v2 w (by omega) (by omega) hd hjs (by omega) (by omega) h
        have H2' := H2.out k b sg.length
        have H3' := H3.out k b sg.length
        obtain ⟨⟨i3, o3, e⟩, hr⟩ : ∃ r, rdP s.data.toList f 0 (b + 1) deep (j + sg.length) o2 = r := ⟨_, rfl⟩
        rw [hr] at hok hA1
        have H2 : Hid (e = 0 → rdP s.data.toList f 3 least deep i3 (o3 ++ [opO k]) = R) := Lib.hid fun h => H2' i3 o3 HK.out rfl hlt (by rw [hr, h])
        have H3 : Hid (∀ e', e = e' + 1 → R = (i3, o3, e' + 1)) := Lib.hid fun e' h => H3' i3 e' o3 HK.out rfl hlt (by rw [hr, h])
        simp only at hok
        have h7 : i3 ≤ s.size := by simpa using hok.2.1
        have h8 : i2 < i3 := by omega
        have h9 : (o3 ++ [opO k]).length ≤ i3 := by simp; omega
        have hl3 : o3.length ≤ 1000000 := by omega
        have hf3 : 4 * (s.size - i3) + 1 ≤ f := by omega
        have HAA := Lib.hid hA1
        have hjs2 : j + T.size ≤ s.size := by rw [hTs]; exact hjs
        rw [← hTs] at HAA
        clear H1 H2' H3' hr hA1 hok HK HA hTs hjs hsl hpos hp1
        have hTi : (j : Int) + (T.size : Int) ≤ (s.size : Int) := by omega
        cases e with
        | succ e =>
          have HXE := Lib.hid (H3.out e rfl)
          have hne := nz_int e
          generalize e + 1 = e' at *
          clear H2 H3 h9 hf3
          go_wp2_with fail
          refine HS.out.mono ?_
          rintro ending w3 ⟨rfl, h3, hb3⟩
          clear HS
          go_wp2_with fail
          refine (HW.out _).mono ?_
          rintro ending w4 ⟨rfl, rfl⟩
          have c1 := h3.blk.cell 1 (v := .int .i64 (j : Int)) rfl
          have f1 := h3.blk.frozen 1
          have h4 := h3.go (j + T.size)
          have hb4 := (hb2.trans hb3).setCell (p := ⟨g, 1, none⟩) (Nat.le_refl _) (.int .i64 ((j + T.size : Nat) : Int))
          clear h3 hb3 hb2 HW
          go_wp2_with fail
          refine (HAA.out _ h4).mono ?_
          rintro ending w5 ⟨v5, rfl, h5, hb5⟩
          simp only at h5
          clear HAA c1 f1
          have hb := hb4.trans hb5
          clear h4 hb4 hb5
          go_wp2
          go_ret
          rw [HXE.out]
          exact ⟨_, rfl, h5, hb⟩
        | zero =>
          have HXE := Lib.hid (H2.out rfl)
          clear H2 H3
          go_wp2_with fail
          refine HS.out.mono ?_
          rintro ending w3 ⟨rfl, h3, hb3⟩
          clear HS
          go_wp2_with fail
          refine (HW.out _).mono ?_
          rintro ending w4 ⟨rfl, rfl⟩
          have c1 := h3.blk.cell 1 (v := .int .i64 (j : Int)) rfl
          have f1 := h3.blk.frozen 1
          have h4 := h3.go (j + T.size)
          have hb4 := (hb2.trans hb3).setCell (p := ⟨g, 1, none⟩) (Nat.le_refl _) (.int .i64 ((j + T.size : Nat) : Int))
          clear h3 hb3 hb2 HW
          go_wp2_with fail
          refine (HAA.out _ h4).mono ?_
          rintro ending w5 ⟨v5, rfl, h5, hb5⟩
          simp only at h5
          clear HAA c1 f1
          have hb := hb4.trans hb5
          clear h4 hb4 hb5
          have c2 := h5.blk.cell 2 (v := v5) rfl
          obtain ⟨g1, cp, w6, HP⟩ := h5.push (opO k) hl3
          have p2 := HP.old.cell 2 (v := v5) rfl
          have p3 := HP.old.frozen 2
          have hrd := HP.rd
          have hbl := HP.bel
          have hrun := HP.run
          simp only [opCells, opO] at hrun
          have HRun := Lib.hid hrun
          clear hrun HP h5
          go_wp2_with (at_builtin; refine wpList_append_run rfl _ _ 23 rfl _ _ _ _ rfl rfl HRun.out ?_)
          go_wp2
          go_roundw
          case rel => exact ⟨f, i3, _, _, by omega, h7, h9, hf3, hrd, hb.trans hbl, HXE⟩
          case measure => exact Nat.lt_of_le_of_lt (Nat.le_of_eq (congrArg (s.size - ·) hrd.atOf)) (by rw [hat]; omega)

theorem reads (s : ByteArray) (hs : s.size ≤ 1000000) : ∀ f, SumIs s f ∧ OperandIs s f ∧ ClosedIs s f := by
  intro f
  induction f using Nat.strongRecOn with
  | ind f ih =>
    cases f with
    | zero => exact ⟨fun _ _ _ _ _ _ _ _ _ _ _ _ h => by omega, fun _ _ _ _ _ _ _ _ _ h => by omega, fun _ _ _ _ _ _ _ _ _ h => by omega⟩
    | succ f =>
      have h := ih f (Nat.lt_succ_self f)
      exact ⟨sum_step s hs f (fun f' hf' => (ih f' (Nat.lt_succ_of_le hf')).1) h.2.1, operand_step s hs f h.2.1 h.2.2, closed_step s hs f h.1⟩
end Go.Proofs.Ytekpopopibhjbaa
