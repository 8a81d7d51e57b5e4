/-
  The contracts of package arith's reader: what is in parentheses, an operand, a sum (each over the others' by the fuel of the plain reading).
-/
import Derived.Test.YtekpopopibhjbaaArPlainW
namespace Go.Proofs.Ytekpopopibhjbaa
open Go.RowKit

section
variable {l : List UInt8} {f least deep i i1 e : Nat} {ops o1 : List AOp}
theorem rd_sum_ok (h : rdP l f 1 0 deep i ops = (i1, o1, 0)) : rdP l (f + 1) 0 least deep i ops = rdP l f 3 least deep i1 o1 := by
  show (match rdP l f 1 0 deep i ops with | (i1, o1, 0) => rdP l f 3 least deep i1 o1 | r => r) = _
  rw [h]
  rfl
theorem rd_sum_err (h : rdP l f 1 0 deep i ops = (i1, o1, e + 1)) : rdP l (f + 1) 0 least deep i ops = (i1, o1, e + 1) := by
  show (match rdP l f 1 0 deep i ops with | (i1, o1, 0) => rdP l f 3 least deep i1 o1 | r => r) = _
  rw [h]
  rfl
theorem rd_closed_ok (h : rdP l f 0 1 deep i ops = (i1, o1, 0)) (hs : signAt l (skipB l i1) = [41]) : rdP l (f + 1) 2 least deep i ops = (skipB l i1 + 1, o1, 0) := by
  show (match rdP l f 0 1 deep i ops with | (i1, o1, 0) => if signAt l (skipB l i1) = [41] then (skipB l i1 + 1, o1, 0) else (skipB l i1, o1, 6) | r => r) = _
  rw [h]
  simp only [hs, if_true]
theorem rd_closed_bad (h : rdP l f 0 1 deep i ops = (i1, o1, 0)) (hs : ¬ signAt l (skipB l i1) = [41]) : rdP l (f + 1) 2 least deep i ops = (skipB l i1, o1, 6) := by
  show (match rdP l f 0 1 deep i ops with | (i1, o1, 0) => if signAt l (skipB l i1) = [41] then (skipB l i1 + 1, o1, 0) else (skipB l i1, o1, 6) | r => r) = _
  rw [h]
  simp only [hs, if_false]
theorem rd_closed_err (h : rdP l f 0 1 deep i ops = (i1, o1, e + 1)) : rdP l (f + 1) 2 least deep i ops = (i1, o1, e + 1) := by
  show (match rdP l f 0 1 deep i ops with | (i1, o1, 0) => if signAt l (skipB l i1) = [41] then (skipB l i1 + 1, o1, 0) else (skipB l i1, o1, 6) | r => r) = _
  rw [h]
  rfl
theorem rd_op_plain (h0 : ahdP (signAt l (skipB l i)) = 0) (h1 : signAt l (skipB l i) ≠ [40]) : rdP l (f + 1) 1 least deep i ops = plainP l (skipB l i) ops := by
  unfold rdP
  rw [if_pos ⟨h0, h1⟩]
theorem rd_op_deep (h : ¬ (ahdP (signAt l (skipB l i)) = 0 ∧ signAt l (skipB l i) ≠ [40])) (hd : deep = 20) : rdP l (f + 1) 1 least deep i ops = (skipB l i, ops, 5) := by
  unfold rdP
  rw [if_neg h, if_pos hd]
theorem rd_op_par (h1 : signAt l (skipB l i) = [40]) (hd : ¬ deep = 20) : rdP l (f + 1) 1 least deep i ops = rdP l f 2 0 (deep + 1) (skipB l i + 1) ops := by
  have h : ¬ (ahdP (signAt l (skipB l i)) = 0 ∧ signAt l (skipB l i) ≠ [40]) := fun h => h.2 h1
  rw [rdP, if_neg h, if_neg hd, if_pos h1, h1, show ([40] : List UInt8).length = 1 from rfl]
theorem rd_op_ok {k n : Nat} (hk : ahdP (signAt l (skipB l i)) = k) (h0 : k ≠ 0) (h1 : signAt l (skipB l i) ≠ [40]) (hn : (signAt l (skipB l i)).length = n) (hd : ¬ deep = 20) (h : rdP l f 1 0 (deep + 1) (skipB l i + n) ops = (i1, o1, 0)) :
    rdP l (f + 1) 1 least deep i ops = (i1, o1 ++ [opO k], 0) := by
  have hh : ¬ (ahdP (signAt l (skipB l i)) = 0 ∧ signAt l (skipB l i) ≠ [40]) := fun h => h0 (hk ▸ h.1)
  rw [rdP, if_neg hh, if_neg hd, if_neg h1, hn, hk, h]
  rfl
theorem rd_op_err {k n : Nat} (hk : ahdP (signAt l (skipB l i)) = k) (h0 : k ≠ 0) (h1 : signAt l (skipB l i) ≠ [40]) (hn : (signAt l (skipB l i)).length = n) (hd : ¬ deep = 20) (h : rdP l f 1 0 (deep + 1) (skipB l i + n) ops = (i1, o1, e + 1)) :
    rdP l (f + 1) 1 least deep i ops = (i1, o1, e + 1) := by
  have hh : ¬ (ahdP (signAt l (skipB l i)) = 0 ∧ signAt l (skipB l i) ≠ [40]) := fun h => h0 (hk ▸ h.1)
  rw [rdP, if_neg hh, if_neg hd, if_neg h1, hn, h]
  rfl
theorem rd_loop_end {k b : Nat} (hb : btwP (signAt l (skipB l i)) = (k, b)) (h : b < least) : rdP l (f + 1) 3 least deep i ops = (skipB l i, ops, 0) := by
  rw [rdP, hb, if_pos h]
theorem rd_loop_ok {k b n : Nat} (hb : btwP (signAt l (skipB l i)) = (k, b)) (hn : (signAt l (skipB l i)).length = n) (h0 : ¬ b < least) (h : rdP l f 0 (b + 1) deep (skipB l i + n) ops = (i1, o1, 0)) : rdP l (f + 1) 3 least deep i ops = rdP l f 3 least deep i1 (o1 ++ [opO k]) := by
  rw [rdP, hb, if_neg h0, hn, h]
  rfl
theorem rd_loop_err {k b n : Nat} (hb : btwP (signAt l (skipB l i)) = (k, b)) (hn : (signAt l (skipB l i)).length = n) (h0 : ¬ b < least) (h : rdP l f 0 (b + 1) deep (skipB l i + n) ops = (i1, o1, e + 1)) : rdP l (f + 1) 3 least deep i ops = (i1, o1, e + 1) := by
  rw [rdP, hb, if_neg h0, hn, h]
  rfl
theorem ite_le {c : Prop} [Decidable c] {x y : Nat × Nat} (hx : x.1 ≤ 18 ∧ x.2 ≤ 6) (hy : y.1 ≤ 18 ∧ y.2 ≤ 6) : (if c then x else y).1 ≤ 18 ∧ (if c then x else y).2 ≤ 6 := by
  split <;> assumption
theorem btw_le (l : List UInt8) : (btwP l).1 ≤ 18 ∧ (btwP l).2 ≤ 6 := by
  unfold btwP
  repeat (refine ite_le (by decide) ?_)
  decide
theorem ahd_le (l : List UInt8) : ahdP l ≤ 5 := by
  unfold ahdP
  repeat' split
  all_goals decide
end

def SumIs (s : ByteArray) (f : Nat) : Prop := ∀ (g least deep i : Nat) (ops : List AOp) (v : Value) (w : World), 1 ≤ least → least ≤ 7 → deep ≤ 20 → i ≤ s.size → ops.length ≤ i → 4 * (s.size - i) + 2 ≤ f → RdAt w g s i ops v →
  Calls Try.prog 20 #[.pointer (some ⟨g, 0, none⟩), .int .i64 (least : Int), .int .i64 (deep : Int)] w (PlainLeft g s w (rdP s.data.toList f 0 least deep i ops))
def OperandIs (s : ByteArray) (f : Nat) : Prop := ∀ (g deep i : Nat) (ops : List AOp) (v : Value) (w : World), deep ≤ 20 → i ≤ s.size → ops.length ≤ i → 4 * (s.size - i) + 1 ≤ f → RdAt w g s i ops v →
  Calls Try.prog 23 #[.pointer (some ⟨g, 0, none⟩), .int .i64 (deep : Int)] w (PlainLeft g s w (rdP s.data.toList f 1 0 deep i ops))
def ClosedIs (s : ByteArray) (f : Nat) : Prop := ∀ (g deep i : Nat) (ops : List AOp) (v : Value) (w : World), deep ≤ 20 → i ≤ s.size → ops.length ≤ i → 4 * (s.size - i) + 3 ≤ f → RdAt w g s i ops v →
  Calls Try.prog 31 #[.pointer (some ⟨g, 0, none⟩), .int .i64 (deep : Int)] w (PlainLeft g s w (rdP s.data.toList f 2 0 deep i ops))

theorem nz_int (e : Nat) : (((e + 1 : Nat) : Int) != 0) = true := by
  simp only [bne_iff_ne, ne_eq]; omega

set_option maxHeartbeats 4000000 in
set_option maxRecDepth 100000 in
theorem closed_step (s : ByteArray) (hs : s.size ≤ 1000000) (f : Nat) (hA : SumIs s f) : ClosedIs s (f + 1) := by
  intro g deep i ops v w hd hi hl hf h
  have hok := rd_ok s.data.toList f 0 1 deep i ops (.inl (Nat.le_refl _)) (by simpa using hi)
  have HA := Lib.hid (hA g 1 deep i ops v w (Nat.le_refl _) (by omega) hd hi hl (by omega) h)
  obtain ⟨⟨i1, o1, e⟩, hr⟩ : ∃ r, rdP s.data.toList f 0 1 deep i ops = r := ⟨_, rfl⟩
  rw [hr] at hok HA
  have HR := Lib.hid hr
  clear hr h
  simp only at hok
  have hi1 : i1 ≤ s.size := by simpa using hok.2.1
  have hl1 : o1.length ≤ 1000000 := by omega
  clear hok
  obtain ⟨R, hR⟩ : ∃ R, rdP s.data.toList (f + 1) 2 0 deep i ops = R := ⟨_, rfl⟩
  rw [hR]
  have HRR := Lib.hid hR
  clear hR
  cases e with
  | succ e =>
    have HX : Hid (R = (i1, o1, e + 1)) := Lib.hid (by rw [← HRR.out, rd_closed_err HR.out])
    have hne := nz_int e
    generalize e + 1 = e' at *
    clear HR HRR
    go_enter Try.func31, Try.ntmps31
    go_wp2_with fail
    refine HA.out.mono ?_
    rintro ending w1 ⟨v1, rfl, h1, hb1⟩
    simp only at h1
    clear HA
    go_wp2
    go_ret
    rw [HX.out]
    exact ⟨_, rfl, h1, hb1⟩
  | zero =>
    have hsk := skip_le (l := s.data.toList) (i := i1) (by simpa using hi1)
    have HS := fun w1 v1 h1 => Lib.hid (sign_is g s i1 o1 v1 w1 (by omega) hi1 h1)
    have HX1 : Hid (signAt s.data.toList (skipB s.data.toList i1) = [41] → R = (skipB s.data.toList i1 + 1, o1, 0)) := Lib.hid fun hq => by rw [← HRR.out, rd_closed_ok HR.out hq]
    have HX0 : Hid (¬ signAt s.data.toList (skipB s.data.toList i1) = [41] → R = (skipB s.data.toList i1, o1, 6)) := Lib.hid fun hq => by rw [← HRR.out, rd_closed_bad HR.out hq]
    have hsg := sign_len (l := s.data.toList) (i := skipB s.data.toList i1) hsk.2
    generalize skipB s.data.toList i1 = j at *
    generalize signAt s.data.toList j = sg at *
    have hj : j ≤ s.size := by have := hsk.2; simpa using this
    clear hsk HR HRR hsg
    go_enter Try.func31, Try.ntmps31
    go_wp2_with fail
    refine HA.out.mono ?_
    rintro ending w1 ⟨v1, rfl, h1, hb1⟩
    simp only at h1
    clear HA
    go_wp2_with fail
    refine (HS w1 v1 h1).out.mono ?_
    rintro ending w2 ⟨rfl, h2, hb2⟩
    clear HS h1
    have hb := hb1.trans hb2
    have c1 := h2.blk.cell 1 (v := .int .i64 (j : Int)) rfl
    have f1 := h2.blk.frozen 1
    clear hb1 hb2
    by_cases hq : sg = [41]
    · subst hq
      have HX := Lib.hid (HX1.out rfl)
      clear HX1 HX0
      simp only [strV]
      go_wp2
      go_ret
      rw [HX.out]
      exact ⟨_, rfl, h2.go (j + 1), hb.setCell (p := ⟨g, 1, none⟩) (Nat.le_refl _) _⟩
    · have HX := Lib.hid (HX0.out hq)
      clear HX1 HX0
      simp only [strV]
      have hn : ((⟨sg.toArray⟩ : ByteArray).toList == [41]) = false := by rw [toList_data]; simpa using hq
      generalize (⟨sg.toArray⟩ : ByteArray) = T at *
      go_wp2
      go_ret
      rw [HX.out]
      exact ⟨_, rfl, h2, hb⟩

set_option maxHeartbeats 4000000 in
set_option maxRecDepth 100000 in
theorem operand_step (s : ByteArray) (hs : s.size ≤ 1000000) (f : Nat) (hB : OperandIs s f) (hC : ClosedIs s f) : OperandIs s (f + 1) := by
  intro g deep i ops v w hd hi hl hf h
  have hsk := skip_le (l := s.data.toList) (i := i) (by simpa using hi)
  have HS := Lib.hid (sign_is g s i ops v w (by omega) hi h)
  have hsg := sign_len (l := s.data.toList) (i := skipB s.data.toList i) hsk.2
  obtain ⟨R, hR⟩ : ∃ R, rdP s.data.toList (f + 1) 1 0 deep i ops = R := ⟨_, rfl⟩
  rw [hR]
  have H1 : Hid (ahdP (signAt s.data.toList (skipB s.data.toList i)) = 0 → signAt s.data.toList (skipB s.data.toList i) ≠ [40] → plainP s.data.toList (skipB s.data.toList i) ops = R) := Lib.hid fun h0 h1 => by rw [← hR, rd_op_plain h0 h1]
  have H2 : Hid (¬ (ahdP (signAt s.data.toList (skipB s.data.toList i)) = 0 ∧ signAt s.data.toList (skipB s.data.toList i) ≠ [40]) → deep = 20 → R = (skipB s.data.toList i, ops, 5)) := Lib.hid fun h0 h1 => by rw [← hR, rd_op_deep h0 h1]
  have H3 : Hid (signAt s.data.toList (skipB s.data.toList i) = [40] → ¬ deep = 20 → rdP s.data.toList f 2 0 (deep + 1) (skipB s.data.toList i + 1) ops = R) := Lib.hid fun h0 h1 => by rw [← hR, rd_op_par h0 h1]
  have H4 : Hid (∀ (k n i1 : Nat) (o1 : List AOp), ahdP (signAt s.data.toList (skipB s.data.toList i)) = k → k ≠ 0 → signAt s.data.toList (skipB s.data.toList i) ≠ [40] → (signAt s.data.toList (skipB s.data.toList i)).length = n → ¬ deep = 20 → rdP s.data.toList f 1 0 (deep + 1) (skipB s.data.toList i + n) ops = (i1, o1, 0) → R = (i1, o1 ++ [opO k], 0)) := Lib.hid fun k n i1 o1 a b c d e x => by rw [← hR, rd_op_ok a b c d e x]
  have H5 : Hid (∀ (k n i1 e : Nat) (o1 : List AOp), ahdP (signAt s.data.toList (skipB s.data.toList i)) = k → k ≠ 0 → signAt s.data.toList (skipB s.data.toList i) ≠ [40] → (signAt s.data.toList (skipB s.data.toList i)).length = n → ¬ deep = 20 → rdP s.data.toList f 1 0 (deep + 1) (skipB s.data.toList i + n) ops = (i1, o1, e + 1) → R = (i1, o1, e + 1)) := Lib.hid fun k n i1 e o1 a b c d z x => by rw [← hR, rd_op_err a b c d z x]
  clear hR
  generalize skipB s.data.toList i = j at *
  generalize signAt s.data.toList j = sg at *
  have hj : j ≤ s.size := by have := hsk.2; simpa using this
  have hij : i ≤ j := hsk.1
  have hjs : j + sg.length ≤ s.size := by have := hsg.2; simpa using this
  have hsl := hsg.1
  have hd0 : (0 : Int) ≤ (deep : Int) := by omega
  clear hsk hsg h
  obtain ⟨T, hT⟩ : ∃ T : ByteArray, (⟨sg.toArray⟩ : ByteArray) = T := ⟨_, rfl⟩
  have hTd : T.data.toList = sg := by rw [← hT]
  have hTs : T.size = sg.length := by rw [← hTd]; simp
  simp only [strV, hT] at HS
  have HA := Lib.hid (ahead_is T)
  rw [hTd] at HA
  have hk5 := ahd_le sg
  have hkp := ahd_pos (l := sg)
  have hq : (T.toList == [40]) = (sg == [40]) := by rw [bytes_beq, hTd]
  obtain ⟨k, hk⟩ : ∃ k, ahdP sg = k := ⟨_, rfl⟩
  rw [hk] at HA hk5 hkp H1 H2
  have HK := Lib.hid hk
  clear hk hT
  by_cases hp : sg = [40]
  · have hkz : k = 0 := by rw [← HK.out, hp]; rfl
    subst hkz
    have hq1 : (T.toList == [40]) = true := by rw [hq, hp]; rfl
    have hT1 : T.size = 1 := by rw [hTs, hp]; rfl
    clear hq
    by_cases h20 : deep = 20
    · subst h20
      have HX := Lib.hid (H2.out (fun hh => hh.2 hp) rfl)
      clear H1 H2 H3 H4 H5 hp hT1
      go_enter Try.func23, Try.ntmps23
      go_wp2_with fail
      refine HS.out.mono ?_
      rintro ending w1 ⟨rfl, h1, hb1⟩
      clear HS
      go_wp2_with fail
      refine (HA.out _).mono ?_
      rintro ending w2 ⟨rfl, rfl⟩
      go_wp2
      go_ret
      rw [HX.out]
      exact ⟨_, rfl, h1, hb1⟩
    · have HX := Lib.hid (H3.out hp h20)
      have hjs1 : j + 1 ≤ s.size := by rw [hp] at hjs; exact hjs
      have n20 : ((deep : Int) == 20) = false := by rw [beq_eq_false_iff_ne]; omega
      have hC2 : ∀ (w : World), RdAt w g s (j + 1) ops v → Calls Try.prog 31 #[.pointer (some ⟨g, 0, none⟩), (.int .i64 ((deep : Int) + 1))] w (PlainLeft g s w R) := fun w h => HX.out ▸ hC g (deep + 1) (j + 1) ops v w (by omega) hjs1 (by omega) (by omega) h
      have HC := Lib.hid hC2
      clear H1 H2 H3 H4 H5 hp hC2 HX hTs hjs hsl
      go_enter Try.func23, Try.ntmps23
      go_wp2_with fail
      refine HS.out.mono ?_
      rintro ending w1 ⟨rfl, h1, hb1⟩
      clear HS
      go_wp2_with fail
      refine (HA.out _).mono ?_
      rintro ending w2 ⟨rfl, rfl⟩
      have c1 := h1.blk.cell 1 (v := .int .i64 (j : Int)) rfl
      have f1 := h1.blk.frozen 1
      have h2 := h1.go (j + 1)
      have hb2 := hb1.setCell (p := ⟨g, 1, none⟩) (Nat.le_refl _) (.int .i64 ((j + 1 : Nat) : Int))
      clear h1 hb1 HA
      go_wp2_with fail
      refine (HC.out _ h2).mono ?_
      rintro ending w3 ⟨v3, rfl, h3, hb3⟩
      go_wp2
      go_ret
      exact ⟨_, rfl, h3, hb2.trans hb3⟩
  · have hq0 : (T.toList == [40]) = false := by rw [hq]; simpa using hp
    clear hq
    by_cases hk0 : k = 0
    · subst hk0
      have HX := Lib.hid (H1.out rfl hp)
      clear H1 H2 H3 H4 H5 hp
      have HP : Hid (∀ (w : World), RdAt w g s j ops v → Calls Try.prog 30 #[.pointer (some ⟨g, 0, none⟩)] w (PlainLeft g s w R)) := Lib.hid fun w h => HX.out ▸ plain_is g s j ops v w (by omega) hj (by omega) h
      clear HX
      go_enter Try.func23, Try.ntmps23
      go_wp2_with fail
      refine HS.out.mono ?_
      rintro ending w1 ⟨rfl, h1, hb1⟩
      clear HS
      go_wp2_with fail
      refine (HA.out _).mono ?_
      rintro ending w2 ⟨rfl, rfl⟩
      go_wp2_with fail
      refine (HP.out _ h1).mono ?_
      rintro ending w3 ⟨v3, rfl, h3, hb3⟩
      go_wp2
      go_ret
      exact ⟨_, rfl, h3, hb1.trans hb3⟩
    · have hkn : ((k : Int) == 0) = false := by rw [beq_eq_false_iff_ne]; omega
      by_cases h20 : deep = 20
      · subst h20
        have HX := Lib.hid (H2.out (fun hh => hk0 hh.1) rfl)
        clear H1 H2 H3 H4 H5 hp
        go_enter Try.func23, Try.ntmps23
        go_wp2_with fail
        refine HS.out.mono ?_
        rintro ending w1 ⟨rfl, h1, hb1⟩
        clear HS
        go_wp2_with fail
        refine (HA.out _).mono ?_
        rintro ending w2 ⟨rfl, rfl⟩
        go_wp2
        go_ret
        rw [HX.out]
        exact ⟨_, rfl, h1, hb1⟩
      · have n20 : ((deep : Int) == 20) = false := by rw [beq_eq_false_iff_ne]; omega
        have hpos := hkp hk0
        have hok := rd_ok s.data.toList f 1 0 (deep + 1) (j + sg.length) ops (.inr (.inl rfl)) (by simpa using hjs)
        have hB1 : ∀ (w : World), RdAt w g s (j + sg.length) ops v → Calls Try.prog 23 #[.pointer (some ⟨g, 0, none⟩), .int .i64 ((deep : Int) + 1)] w (PlainLeft g s w (rdP s.data.toList f 1 0 (deep + 1) (j + sg.length) ops)) := fun w h => hB g (deep + 1) (j + sg.length) ops v w (by omega) hjs (by omega) (by omega) h
        have H4' := H4.out k sg.length
        have H5' := H5.out k sg.length
        obtain ⟨⟨i1, o1, e⟩, hr⟩ : ∃ r, rdP s.data.toList f 1 0 (deep + 1) (j + sg.length) ops = r := ⟨_, rfl⟩
        rw [hr] at hok hB1
        have H4 : Hid (e = 0 → R = (i1, o1 ++ [opO k], 0)) := Lib.hid fun h => H4' i1 o1 HK.out hk0 hp rfl h20 (by rw [hr, h])
        have H5 : Hid (∀ e', e = e' + 1 → R = (i1, o1, e' + 1)) := Lib.hid fun e' h => H5' i1 e' o1 HK.out hk0 hp rfl h20 (by rw [hr, h])
        simp only at hok
        have hl1 : o1.length ≤ 1000000 := by
          have h7 : i1 ≤ s.size := by simpa using hok.2.1
          omega
        have HB := Lib.hid hB1
        clear H1 H2 H3 H4' H5' hr hB1 hok hp HK
        have hjs2 : j + T.size ≤ s.size := by rw [hTs]; exact hjs
        rw [← hTs] at HB
        clear hTs hjs hsl hpos
        have hTi : (j : Int) + (T.size : Int) ≤ (s.size : Int) := by omega
        cases e with
        | succ e =>
          have HX := Lib.hid (H5.out e rfl)
          have hne := nz_int e
          generalize e + 1 = e' at *
          clear H4 H5
          go_enter Try.func23, Try.ntmps23
          go_wp2_with fail
          refine HS.out.mono ?_
          rintro ending w1 ⟨rfl, h1, hb1⟩
          clear HS
          go_wp2_with fail
          refine (HA.out _).mono ?_
          rintro ending w2 ⟨rfl, rfl⟩
          have c1 := h1.blk.cell 1 (v := .int .i64 (j : Int)) rfl
          have f1 := h1.blk.frozen 1
          have h2 := h1.go (j + T.size)
          have hb2 := hb1.setCell (p := ⟨g, 1, none⟩) (Nat.le_refl _) (.int .i64 ((j + T.size : Nat) : Int))
          clear h1 hb1 HA
          go_wp2_with fail
          refine (HB.out _ h2).mono ?_
          rintro ending w3 ⟨v3, rfl, h3, hb3⟩
          simp only at h3
          clear HB c1 f1
          have hb := hb2.trans hb3
          clear h2 hb2 hb3
          go_wp2
          go_ret
          rw [HX.out]
          exact ⟨_, rfl, h3, hb⟩
        | zero =>
          have HX := Lib.hid (H4.out rfl)
          clear H4 H5
          go_enter Try.func23, Try.ntmps23
          go_wp2_with fail
          refine HS.out.mono ?_
          rintro ending w1 ⟨rfl, h1, hb1⟩
          clear HS
          go_wp2_with fail
          refine (HA.out _).mono ?_
          rintro ending w2 ⟨rfl, rfl⟩
          have c1 := h1.blk.cell 1 (v := .int .i64 (j : Int)) rfl
          have f1 := h1.blk.frozen 1
          have h2 := h1.go (j + T.size)
          have hb2 := hb1.setCell (p := ⟨g, 1, none⟩) (Nat.le_refl _) (.int .i64 ((j + T.size : Nat) : Int))
          clear h1 hb1 HA
          go_wp2_with fail
          refine (HB.out _ h2).mono ?_
          rintro ending w3 ⟨v3, rfl, h3, hb3⟩
          simp only at h3
          clear HB c1 f1
          have hb := hb2.trans hb3
          clear h2 hb2 hb3
          have c2 := h3.blk.cell 2 (v := v3) rfl
          obtain ⟨g1, cp, w4, HP⟩ := h3.push (opO k) hl1
          have p2 := HP.old.cell 2 (v := v3) rfl
          have p3 := HP.old.frozen 2
          have hrd := HP.rd
          have hbl := HP.bel
          have hrun := HP.run
          simp only [opCells, opO] at hrun
          have HRun := Lib.hid hrun
          clear hrun HP h3
          go_wp2_with (at_builtin; refine wpList_append_run rfl _ _ 23 rfl _ _ _ _ rfl rfl HRun.out ?_)
          go_wp2
          go_ret
          rw [HX.out]
          exact ⟨_, rfl, hrd, hb.trans hbl⟩
end Go.Proofs.Ytekpopopibhjbaa
