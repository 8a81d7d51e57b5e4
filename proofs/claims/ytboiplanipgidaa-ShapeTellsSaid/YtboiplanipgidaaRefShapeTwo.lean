/-
  Contracts of the document's answer on shapes (conchref1: May, ShapeOk, Leq), over the translation. (By wip/tools/gen_refsh.py.)
-/
import Derived.Test.YtboiplanipgidaaRefShape
namespace Go.Proofs.Ytboiplanipgidaa
open Go.RowKit

set_option maxHeartbeats 1000000 in
set_option maxRecDepth 100000 in
theorem refMay_is (x : Sh) (is : Bool) (v : ByteArray) (hv : v.size ≤ 1048576) (w : World) : Calls Try.prog 26 #[shV x, .bool is, .string v] w (Gives w (.bool (mayB x is v))) := by
  have HO := Lib.hid (refOf_is v hv)
  have HL := Lib.hid (refLess_is (ofS v.data.toList) x.h)
  have HN : Hid (∀ w, Calls Try.prog 48 #[setV (lessS (ofS v.data.toList) x.h)] w (Gives w (.bool (subS (ofS v.data.toList) x.h)))) := Lib.hid (refNo_is (lessS (ofS v.data.toList) x.h))
  obtain ⟨wA, hwA, hbA, hA⟩ := lay_one w x
  obtain ⟨u, e, h, k, l⟩ := x
  unfold mayB
  dsimp only at HL HN ⊢
  generalize subS (ofS v.data.toList) h = z at *
  generalize ofS v.data.toList = p at *
  generalize lessS p h = p2 at *
  dsimp only [setV, shV] at HO HL HN hwA ⊢
  obtain ⟨a0, a1, a2, a3, a4, a5, a6, a7⟩ := hA.cells
  cases is with
  | false =>
    go_enter Try.func26, Try.ntmps26
    go_wp2
    go_ret
    exact ⟨rfl, hbA⟩
  | true =>
    cases k with
    | true =>
      go_enter Try.func26, Try.ntmps26
      go_wp2
      go_ret
      exact ⟨rfl, hbA⟩
    | false =>
      cases hq : empB v with
      | true =>
        unfold empB at hq
        go_enter Try.func26, Try.ntmps26
        go_wp2
        go_ret
        exact ⟨rfl, hbA⟩
      | false =>
        unfold empB at hq
        go_enter Try.func26, Try.ntmps26
        go_wp2
        clear hwA
        obtain ⟨L0, L1, L2, L3, L4, L5, L6, L7⟩ := hA.laters
        refine region_later (by kernel_rfl) (by kernel_rfl) ?_
        repeat (go_big_quiet_step (fail))
        go_big_quiet_step (exact later (HO.out _))
        repeat (go_big_quiet_step (fail))
        go_big_quiet_step (exact later (HL.out _))
        repeat (go_big_quiet_step (fail))
        go_big_quiet_step (exact later (HN.out _))
        repeat (go_big_quiet_step (fail))
        refine wpQuiet_nil ?_
        rintro _ ⟨x2, rfl⟩
        go_wp2
        go_ret
        exact ⟨rfl, bel_step hbA x2.below⟩

def refOkF (h0 k s64 z ss e em : Bool) : Bool := if h0 then false else if k then (if (s64 && !z) then (if ss then e == em else false) else false) else em

set_option maxHeartbeats 4000000 in
set_option maxRecDepth 100000 in
theorem refOk_is (x : Sh) (w : World) : Calls Try.prog 16 #[shV x] w (Gives w (.bool (okB x))) := by
  have HH := Lib.hid (refHas_is x.h 0 (by decide))
  have HI : x.l.size ≤ 64 → Hid (∀ w, Calls Try.prog 42 #[.string x.l, .int .u8 0] w fun e w' => e = .returned (.bool (ofS x.l.data.toList 0)) ∧ w = w') := fun h => Lib.hid (refIn_is x.l (by omega))
  have HO : x.l.size ≤ 64 → Hid (∀ w, Calls Try.prog 43 #[.string x.l] w (Gives w (setV (ofS x.l.data.toList)))) := fun h => Lib.hid (refOf_is x.l (by omega))
  have hE := run_eq_set x.h (ofS x.l.data.toList)
  rw [show okB x = refOkF (x.h 0) x.k (decide (x.l.size ≤ 64)) (ofS x.l.data.toList 0) (sameS x.h (ofS x.l.data.toList)) x.e x.l.toList.isEmpty from rfl]
  obtain ⟨wA, hwA, hbA, hA⟩ := lay_one w x
  generalize sameS x.h (ofS x.l.data.toList) = ss at *
  generalize ofS x.l.data.toList 0 = z at *
  generalize ofS x.l.data.toList = q at *
  generalize x.h 0 = h0 at *
  obtain ⟨u, e, h, k, l⟩ := x
  dsimp only [setV, shV] at hE HH HI HO hwA ⊢
  obtain ⟨a0, a1, a2, a3, a4, a5, a6, a7⟩ := hA.cells
  cases h0 with
  | true =>
    go_enter Try.func16, Try.ntmps16
    go_wp2_with fail
    refine (HH.out _).mono ?_
    rintro e w1 ⟨rfl, hb1⟩
    go_wp2
    go_ret
    exact ⟨rfl, bel_step hbA hb1⟩
  | false =>
    cases k with
    | true =>
      by_cases h64 : l.size ≤ 64
      · have HI2 := HI h64
        have HO2 := HO h64
        rw [decide_eq_true h64]
        have h65 : ((l.size : Nat) : Int) ≤ 64 := by omega
        clear HI HO
        cases z with
        | true =>
          go_enter Try.func16, Try.ntmps16
          go_wp2_with fail
          clear hwA
          refine (HH.out _).mono ?_
          rintro e w1 ⟨rfl, hb1⟩
          have hA1 := hA.after hb1
          clear a0 a1 a2 a3 a4 a5 a6 a7
          obtain ⟨a0, a1, a2, a3, a4, a5, a6, a7⟩ := hA1.cells
          go_wp2_with fail
          clear a0 a1 a2 a3 a4 a5 a6 a7
          obtain ⟨L0, L1, L2, L3, L4, L5, L6, L7⟩ := hA1.laters
          refine region_later (by kernel_rfl) (by kernel_rfl) ?_
          repeat (go_big_quiet_step (fail))
          go_big_quiet_step (exact later_same (HI2.out _))
          repeat (go_big_quiet_step (fail))
          refine wpQuiet_nil ?_
          rintro _ ⟨x2, rfl⟩
          go_wp2
          go_ret
          exact ⟨rfl, bel_step (bel_step hbA hb1) x2.below⟩
        | false =>
          cases ss with
          | true =>
            go_enter Try.func16, Try.ntmps16
            go_wp2_with fail
            clear hwA
            refine (HH.out _).mono ?_
            rintro e w1 ⟨rfl, hb1⟩
            have hA1 := hA.after hb1
            clear a0 a1 a2 a3 a4 a5 a6 a7
            obtain ⟨a0, a1, a2, a3, a4, a5, a6, a7⟩ := hA1.cells
            go_wp2_with fail
            clear a0 a1 a2 a3 a4 a5 a6 a7
            obtain ⟨L0, L1, L2, L3, L4, L5, L6, L7⟩ := hA1.laters
            refine region_later (by kernel_rfl) (by kernel_rfl) ?_
            repeat (go_big_quiet_step (fail))
            go_big_quiet_step (exact later_same (HI2.out _))
            repeat (go_big_quiet_step (fail))
            go_big_quiet_step (exact later (HO2.out _))
            repeat (go_big_quiet_step (fail))
            refine wpQuiet_nil ?_
            rintro _ ⟨x2, rfl⟩
            go_wp2
            go_ret
            exact ⟨rfl, bel_step (bel_step hbA hb1) x2.below⟩
          | false =>
            go_enter Try.func16, Try.ntmps16
            go_wp2_with fail
            clear hwA
            refine (HH.out _).mono ?_
            rintro e w1 ⟨rfl, hb1⟩
            have hA1 := hA.after hb1
            clear a0 a1 a2 a3 a4 a5 a6 a7
            obtain ⟨a0, a1, a2, a3, a4, a5, a6, a7⟩ := hA1.cells
            go_wp2_with fail
            clear a0 a1 a2 a3 a4 a5 a6 a7
            obtain ⟨L0, L1, L2, L3, L4, L5, L6, L7⟩ := hA1.laters
            refine region_later (by kernel_rfl) (by kernel_rfl) ?_
            repeat (go_big_quiet_step (fail))
            go_big_quiet_step (exact later_same (HI2.out _))
            repeat (go_big_quiet_step (fail))
            go_big_quiet_step (exact later (HO2.out _))
            repeat (go_big_quiet_step (fail))
            refine wpQuiet_nil ?_
            rintro _ ⟨x2, rfl⟩
            go_wp2
            go_ret
            exact ⟨rfl, bel_step (bel_step hbA hb1) x2.below⟩
      · rw [decide_eq_false h64]
        have h65 : decide (((l.size : Nat) : Int) ≤ 64) = false := decide_eq_false (by omega)
        clear HI HO
        go_enter Try.func16, Try.ntmps16
        go_wp2_with fail
        clear hwA
        refine (HH.out _).mono ?_
        rintro e w1 ⟨rfl, hb1⟩
        have hA1 := hA.after hb1
        clear a0 a1 a2 a3 a4 a5 a6 a7
        obtain ⟨a0, a1, a2, a3, a4, a5, a6, a7⟩ := hA1.cells
        go_wp2_with fail
        clear a0 a1 a2 a3 a4 a5 a6 a7
        obtain ⟨L0, L1, L2, L3, L4, L5, L6, L7⟩ := hA1.laters
        refine region_later (by kernel_rfl) (by kernel_rfl) ?_
        repeat (go_big_quiet_step (fail))
        refine wpQuiet_nil ?_
        rintro _ ⟨x2, rfl⟩
        go_wp2
        go_ret
        exact ⟨rfl, bel_step (bel_step hbA hb1) x2.below⟩
    | false =>
      clear HI HO
      go_enter Try.func16, Try.ntmps16
      go_wp2_with fail
      clear hwA
      refine (HH.out _).mono ?_
      rintro e w1 ⟨rfl, hb1⟩
      have hA1 := hA.after hb1
      clear a0 a1 a2 a3 a4 a5 a6 a7
      obtain ⟨a0, a1, a2, a3, a4, a5, a6, a7⟩ := hA1.cells
      go_wp2
      go_ret
      exact ⟨rfl, bel_step hbA hb1⟩

def refLeqF (au bu cb bk ak q ae na eb s be : Bool) : Bool := if (if au then !bu else false) then false else if cb then (if bk then (if (if ak then q else false) then true else if ak then false else if ae then (if na then eb else false) else false) else (if s then (if ae then be else true) else false)) else true

set_option maxHeartbeats 8000000 in
set_option maxRecDepth 100000 in
theorem refLeq_is (a b : Sh) (w : World) : Calls Try.prog 25 #[shV a, shV b] w (Gives w (.bool (leqR a b))) := by
  have HC := Lib.hid (refCould_is a)
  have HN := Lib.hid (refNo_is a.h)
  have HL := Lib.hid (refLess_is a.h b.h)
  have HM : Hid (∀ w, Calls Try.prog 48 #[setV (lessS a.h b.h)] w (Gives w (.bool (subS a.h b.h)))) := Lib.hid (refNo_is (lessS a.h b.h))
  rw [show leqR a b = refLeqF a.u b.u (couldB a) b.k a.k (eqB a.l b.l) a.e (sameS a.h noS) (b.l.toList.isEmpty) (subS a.h b.h) b.e from rfl]
  obtain ⟨q, hq⟩ : ∃ q, (a.l.toList == b.l.toList) = q := ⟨_, rfl⟩
  rw [show eqB a.l b.l = q from hq]
  obtain ⟨wA, hwA, hbA, hA, hB⟩ := lay_two w a b
  generalize couldB a = cb at *
  generalize sameS a.h noS = na at *
  generalize subS a.h b.h = s at *
  generalize lessS a.h b.h = p2 at *
  obtain ⟨au, ae, ah, ak, al⟩ := a
  obtain ⟨bu, be, bh, bk, bl⟩ := b
  dsimp only [setV, shV] at HC HN HL HM hq hwA ⊢
  obtain ⟨a0, a1, a2, a3, a4, a5, a6, a7⟩ := hA.cells
  obtain ⟨b0, b1, b2, b3, b4, b5, b6, b7⟩ := hB.cells
  cases au with
  | true =>
    cases bu with
    | true =>
      cases cb with
      | true =>
        cases bk with
        | true =>
          cases ak with
          | true =>
            cases q with
            | true =>
              go_enter Try.func25, Try.ntmps25
              go_wp2_with fail
              clear hwA
              clear a0 a1 a2 a3 a4 a5 a6 a7 b0 b1 b2 b3 b4 b5 b6 b7
              refine (HC.out _).mono ?_
              rintro e w1 ⟨rfl, hb1⟩
              have hA1 := hA.after hb1
              have hB1 := hB.after hb1
              obtain ⟨a0, a1, a2, a3, a4, a5, a6, a7⟩ := hA1.cells
              obtain ⟨b0, b1, b2, b3, b4, b5, b6, b7⟩ := hB1.cells
              go_wp2
              go_ret
              exact ⟨rfl, bel_step (hbA) hb1⟩
            | false =>
              go_enter Try.func25, Try.ntmps25
              go_wp2_with fail
              clear hwA
              clear a0 a1 a2 a3 a4 a5 a6 a7 b0 b1 b2 b3 b4 b5 b6 b7
              refine (HC.out _).mono ?_
              rintro e w1 ⟨rfl, hb1⟩
              have hA1 := hA.after hb1
              have hB1 := hB.after hb1
              obtain ⟨a0, a1, a2, a3, a4, a5, a6, a7⟩ := hA1.cells
              obtain ⟨b0, b1, b2, b3, b4, b5, b6, b7⟩ := hB1.cells
              go_wp2
              go_ret
              exact ⟨rfl, bel_step (hbA) hb1⟩
          | false =>
            cases ae with
            | true =>
              cases na with
              | true =>
                go_enter Try.func25, Try.ntmps25
                go_wp2_with fail
                clear hwA
                clear a0 a1 a2 a3 a4 a5 a6 a7 b0 b1 b2 b3 b4 b5 b6 b7
                refine (HC.out _).mono ?_
                rintro e w1 ⟨rfl, hb1⟩
                have hA1 := hA.after hb1
                have hB1 := hB.after hb1
                obtain ⟨a0, a1, a2, a3, a4, a5, a6, a7⟩ := hA1.cells
                obtain ⟨b0, b1, b2, b3, b4, b5, b6, b7⟩ := hB1.cells
                go_wp2_with fail
                clear a0 a1 a2 a3 a4 a5 a6 a7 b0 b1 b2 b3 b4 b5 b6 b7
                refine (HN.out _).mono ?_
                rintro e w2 ⟨rfl, hb2⟩
                have hA2 := hA1.after hb2
                have hB2 := hB1.after hb2
                obtain ⟨a0, a1, a2, a3, a4, a5, a6, a7⟩ := hA2.cells
                obtain ⟨b0, b1, b2, b3, b4, b5, b6, b7⟩ := hB2.cells
                go_wp2
                go_ret
                exact ⟨rfl, bel_step (bel_step (hbA) hb1) hb2⟩
              | false =>
                go_enter Try.func25, Try.ntmps25
                go_wp2_with fail
                clear hwA
                clear a0 a1 a2 a3 a4 a5 a6 a7 b0 b1 b2 b3 b4 b5 b6 b7
                refine (HC.out _).mono ?_
                rintro e w1 ⟨rfl, hb1⟩
                have hA1 := hA.after hb1
                have hB1 := hB.after hb1
                obtain ⟨a0, a1, a2, a3, a4, a5, a6, a7⟩ := hA1.cells
                obtain ⟨b0, b1, b2, b3, b4, b5, b6, b7⟩ := hB1.cells
                go_wp2_with fail
                clear a0 a1 a2 a3 a4 a5 a6 a7 b0 b1 b2 b3 b4 b5 b6 b7
                refine (HN.out _).mono ?_
                rintro e w2 ⟨rfl, hb2⟩
                have hA2 := hA1.after hb2
                have hB2 := hB1.after hb2
                obtain ⟨a0, a1, a2, a3, a4, a5, a6, a7⟩ := hA2.cells
                obtain ⟨b0, b1, b2, b3, b4, b5, b6, b7⟩ := hB2.cells
                go_wp2
                go_ret
                exact ⟨rfl, bel_step (bel_step (hbA) hb1) hb2⟩
            | false =>
              go_enter Try.func25, Try.ntmps25
              go_wp2_with fail
              clear hwA
              clear a0 a1 a2 a3 a4 a5 a6 a7 b0 b1 b2 b3 b4 b5 b6 b7
              refine (HC.out _).mono ?_
              rintro e w1 ⟨rfl, hb1⟩
              have hA1 := hA.after hb1
              have hB1 := hB.after hb1
              obtain ⟨a0, a1, a2, a3, a4, a5, a6, a7⟩ := hA1.cells
              obtain ⟨b0, b1, b2, b3, b4, b5, b6, b7⟩ := hB1.cells
              go_wp2
              go_ret
              exact ⟨rfl, bel_step (hbA) hb1⟩
        | false =>
          cases s with
          | true =>
            cases ae with
            | true =>
              go_enter Try.func25, Try.ntmps25
              go_wp2_with fail
              clear hwA
              clear a0 a1 a2 a3 a4 a5 a6 a7 b0 b1 b2 b3 b4 b5 b6 b7
              refine (HC.out _).mono ?_
              rintro e w1 ⟨rfl, hb1⟩
              have hA1 := hA.after hb1
              have hB1 := hB.after hb1
              obtain ⟨a0, a1, a2, a3, a4, a5, a6, a7⟩ := hA1.cells
              obtain ⟨b0, b1, b2, b3, b4, b5, b6, b7⟩ := hB1.cells
              go_wp2_with fail
              clear a0 a1 a2 a3 a4 a5 a6 a7 b0 b1 b2 b3 b4 b5 b6 b7
              refine (HL.out _).mono ?_
              rintro e w2 ⟨rfl, hb2⟩
              have hA2 := hA1.after hb2
              have hB2 := hB1.after hb2
              obtain ⟨a0, a1, a2, a3, a4, a5, a6, a7⟩ := hA2.cells
              obtain ⟨b0, b1, b2, b3, b4, b5, b6, b7⟩ := hB2.cells
              go_wp2_with fail
              clear a0 a1 a2 a3 a4 a5 a6 a7 b0 b1 b2 b3 b4 b5 b6 b7
              refine (HM.out _).mono ?_
              rintro e w3 ⟨rfl, hb3⟩
              have hA3 := hA2.after hb3
              have hB3 := hB2.after hb3
              obtain ⟨a0, a1, a2, a3, a4, a5, a6, a7⟩ := hA3.cells
              obtain ⟨b0, b1, b2, b3, b4, b5, b6, b7⟩ := hB3.cells
              go_wp2
              go_ret
              exact ⟨rfl, bel_step (bel_step (bel_step (hbA) hb1) hb2) hb3⟩
            | false =>
              go_enter Try.func25, Try.ntmps25
              go_wp2_with fail
              clear hwA
              clear a0 a1 a2 a3 a4 a5 a6 a7 b0 b1 b2 b3 b4 b5 b6 b7
              refine (HC.out _).mono ?_
              rintro e w1 ⟨rfl, hb1⟩
              have hA1 := hA.after hb1
              have hB1 := hB.after hb1
              obtain ⟨a0, a1, a2, a3, a4, a5, a6, a7⟩ := hA1.cells
              obtain ⟨b0, b1, b2, b3, b4, b5, b6, b7⟩ := hB1.cells
              go_wp2_with fail
              clear a0 a1 a2 a3 a4 a5 a6 a7 b0 b1 b2 b3 b4 b5 b6 b7
              refine (HL.out _).mono ?_
              rintro e w2 ⟨rfl, hb2⟩
              have hA2 := hA1.after hb2
              have hB2 := hB1.after hb2
              obtain ⟨a0, a1, a2, a3, a4, a5, a6, a7⟩ := hA2.cells
              obtain ⟨b0, b1, b2, b3, b4, b5, b6, b7⟩ := hB2.cells
              go_wp2_with fail
              clear a0 a1 a2 a3 a4 a5 a6 a7 b0 b1 b2 b3 b4 b5 b6 b7
              refine (HM.out _).mono ?_
              rintro e w3 ⟨rfl, hb3⟩
              have hA3 := hA2.after hb3
              have hB3 := hB2.after hb3
              obtain ⟨a0, a1, a2, a3, a4, a5, a6, a7⟩ := hA3.cells
              obtain ⟨b0, b1, b2, b3, b4, b5, b6, b7⟩ := hB3.cells
              go_wp2
              go_ret
              exact ⟨rfl, bel_step (bel_step (bel_step (hbA) hb1) hb2) hb3⟩
          | false =>
            go_enter Try.func25, Try.ntmps25
            go_wp2_with fail
            clear hwA
            clear a0 a1 a2 a3 a4 a5 a6 a7 b0 b1 b2 b3 b4 b5 b6 b7
            refine (HC.out _).mono ?_
            rintro e w1 ⟨rfl, hb1⟩
            have hA1 := hA.after hb1
            have hB1 := hB.after hb1
            obtain ⟨a0, a1, a2, a3, a4, a5, a6, a7⟩ := hA1.cells
            obtain ⟨b0, b1, b2, b3, b4, b5, b6, b7⟩ := hB1.cells
            go_wp2_with fail
            clear a0 a1 a2 a3 a4 a5 a6 a7 b0 b1 b2 b3 b4 b5 b6 b7
            refine (HL.out _).mono ?_
            rintro e w2 ⟨rfl, hb2⟩
            have hA2 := hA1.after hb2
            have hB2 := hB1.after hb2
            obtain ⟨a0, a1, a2, a3, a4, a5, a6, a7⟩ := hA2.cells
            obtain ⟨b0, b1, b2, b3, b4, b5, b6, b7⟩ := hB2.cells
            go_wp2_with fail
            clear a0 a1 a2 a3 a4 a5 a6 a7 b0 b1 b2 b3 b4 b5 b6 b7
            refine (HM.out _).mono ?_
            rintro e w3 ⟨rfl, hb3⟩
            have hA3 := hA2.after hb3
            have hB3 := hB2.after hb3
            obtain ⟨a0, a1, a2, a3, a4, a5, a6, a7⟩ := hA3.cells
            obtain ⟨b0, b1, b2, b3, b4, b5, b6, b7⟩ := hB3.cells
            go_wp2
            go_ret
            exact ⟨rfl, bel_step (bel_step (bel_step (hbA) hb1) hb2) hb3⟩
      | false =>
        go_enter Try.func25, Try.ntmps25
        go_wp2_with fail
        clear hwA
        clear a0 a1 a2 a3 a4 a5 a6 a7 b0 b1 b2 b3 b4 b5 b6 b7
        refine (HC.out _).mono ?_
        rintro e w1 ⟨rfl, hb1⟩
        have hA1 := hA.after hb1
        have hB1 := hB.after hb1
        obtain ⟨a0, a1, a2, a3, a4, a5, a6, a7⟩ := hA1.cells
        obtain ⟨b0, b1, b2, b3, b4, b5, b6, b7⟩ := hB1.cells
        go_wp2
        go_ret
        exact ⟨rfl, bel_step (hbA) hb1⟩
    | false =>
      go_enter Try.func25, Try.ntmps25
      go_wp2
      go_ret
      exact ⟨rfl, hbA⟩
  | false =>
    cases cb with
    | true =>
      cases bk with
      | true =>
        cases ak with
        | true =>
          cases q with
          | true =>
            go_enter Try.func25, Try.ntmps25
            go_wp2_with fail
            clear hwA
            clear a0 a1 a2 a3 a4 a5 a6 a7 b0 b1 b2 b3 b4 b5 b6 b7
            refine (HC.out _).mono ?_
            rintro e w1 ⟨rfl, hb1⟩
            have hA1 := hA.after hb1
            have hB1 := hB.after hb1
            obtain ⟨a0, a1, a2, a3, a4, a5, a6, a7⟩ := hA1.cells
            obtain ⟨b0, b1, b2, b3, b4, b5, b6, b7⟩ := hB1.cells
            go_wp2
            go_ret
            exact ⟨rfl, bel_step (hbA) hb1⟩
          | false =>
            go_enter Try.func25, Try.ntmps25
            go_wp2_with fail
            clear hwA
            clear a0 a1 a2 a3 a4 a5 a6 a7 b0 b1 b2 b3 b4 b5 b6 b7
            refine (HC.out _).mono ?_
            rintro e w1 ⟨rfl, hb1⟩
            have hA1 := hA.after hb1
            have hB1 := hB.after hb1
            obtain ⟨a0, a1, a2, a3, a4, a5, a6, a7⟩ := hA1.cells
            obtain ⟨b0, b1, b2, b3, b4, b5, b6, b7⟩ := hB1.cells
            go_wp2
            go_ret
            exact ⟨rfl, bel_step (hbA) hb1⟩
        | false =>
          cases ae with
          | true =>
            cases na with
            | true =>
              go_enter Try.func25, Try.ntmps25
              go_wp2_with fail
              clear hwA
              clear a0 a1 a2 a3 a4 a5 a6 a7 b0 b1 b2 b3 b4 b5 b6 b7
              refine (HC.out _).mono ?_
              rintro e w1 ⟨rfl, hb1⟩
              have hA1 := hA.after hb1
              have hB1 := hB.after hb1
              obtain ⟨a0, a1, a2, a3, a4, a5, a6, a7⟩ := hA1.cells
              obtain ⟨b0, b1, b2, b3, b4, b5, b6, b7⟩ := hB1.cells
              go_wp2_with fail
              clear a0 a1 a2 a3 a4 a5 a6 a7 b0 b1 b2 b3 b4 b5 b6 b7
              refine (HN.out _).mono ?_
              rintro e w2 ⟨rfl, hb2⟩
              have hA2 := hA1.after hb2
              have hB2 := hB1.after hb2
              obtain ⟨a0, a1, a2, a3, a4, a5, a6, a7⟩ := hA2.cells
              obtain ⟨b0, b1, b2, b3, b4, b5, b6, b7⟩ := hB2.cells
              go_wp2
              go_ret
              exact ⟨rfl, bel_step (bel_step (hbA) hb1) hb2⟩
            | false =>
              go_enter Try.func25, Try.ntmps25
              go_wp2_with fail
              clear hwA
              clear a0 a1 a2 a3 a4 a5 a6 a7 b0 b1 b2 b3 b4 b5 b6 b7
              refine (HC.out _).mono ?_
              rintro e w1 ⟨rfl, hb1⟩
              have hA1 := hA.after hb1
              have hB1 := hB.after hb1
              obtain ⟨a0, a1, a2, a3, a4, a5, a6, a7⟩ := hA1.cells
              obtain ⟨b0, b1, b2, b3, b4, b5, b6, b7⟩ := hB1.cells
              go_wp2_with fail
              clear a0 a1 a2 a3 a4 a5 a6 a7 b0 b1 b2 b3 b4 b5 b6 b7
              refine (HN.out _).mono ?_
              rintro e w2 ⟨rfl, hb2⟩
              have hA2 := hA1.after hb2
              have hB2 := hB1.after hb2
              obtain ⟨a0, a1, a2, a3, a4, a5, a6, a7⟩ := hA2.cells
              obtain ⟨b0, b1, b2, b3, b4, b5, b6, b7⟩ := hB2.cells
              go_wp2
              go_ret
              exact ⟨rfl, bel_step (bel_step (hbA) hb1) hb2⟩
          | false =>
            go_enter Try.func25, Try.ntmps25
            go_wp2_with fail
            clear hwA
            clear a0 a1 a2 a3 a4 a5 a6 a7 b0 b1 b2 b3 b4 b5 b6 b7
            refine (HC.out _).mono ?_
            rintro e w1 ⟨rfl, hb1⟩
            have hA1 := hA.after hb1
            have hB1 := hB.after hb1
            obtain ⟨a0, a1, a2, a3, a4, a5, a6, a7⟩ := hA1.cells
            obtain ⟨b0, b1, b2, b3, b4, b5, b6, b7⟩ := hB1.cells
            go_wp2
            go_ret
            exact ⟨rfl, bel_step (hbA) hb1⟩
      | false =>
        cases s with
        | true =>
          cases ae with
          | true =>
            go_enter Try.func25, Try.ntmps25
            go_wp2_with fail
            clear hwA
            clear a0 a1 a2 a3 a4 a5 a6 a7 b0 b1 b2 b3 b4 b5 b6 b7
            refine (HC.out _).mono ?_
            rintro e w1 ⟨rfl, hb1⟩
            have hA1 := hA.after hb1
            have hB1 := hB.after hb1
            obtain ⟨a0, a1, a2, a3, a4, a5, a6, a7⟩ := hA1.cells
            obtain ⟨b0, b1, b2, b3, b4, b5, b6, b7⟩ := hB1.cells
            go_wp2_with fail
            clear a0 a1 a2 a3 a4 a5 a6 a7 b0 b1 b2 b3 b4 b5 b6 b7
            refine (HL.out _).mono ?_
            rintro e w2 ⟨rfl, hb2⟩
            have hA2 := hA1.after hb2
            have hB2 := hB1.after hb2
            obtain ⟨a0, a1, a2, a3, a4, a5, a6, a7⟩ := hA2.cells
            obtain ⟨b0, b1, b2, b3, b4, b5, b6, b7⟩ := hB2.cells
            go_wp2_with fail
            clear a0 a1 a2 a3 a4 a5 a6 a7 b0 b1 b2 b3 b4 b5 b6 b7
            refine (HM.out _).mono ?_
            rintro e w3 ⟨rfl, hb3⟩
            have hA3 := hA2.after hb3
            have hB3 := hB2.after hb3
            obtain ⟨a0, a1, a2, a3, a4, a5, a6, a7⟩ := hA3.cells
            obtain ⟨b0, b1, b2, b3, b4, b5, b6, b7⟩ := hB3.cells
            go_wp2
            go_ret
            exact ⟨rfl, bel_step (bel_step (bel_step (hbA) hb1) hb2) hb3⟩
          | false =>
            go_enter Try.func25, Try.ntmps25
            go_wp2_with fail
            clear hwA
            clear a0 a1 a2 a3 a4 a5 a6 a7 b0 b1 b2 b3 b4 b5 b6 b7
            refine (HC.out _).mono ?_
            rintro e w1 ⟨rfl, hb1⟩
            have hA1 := hA.after hb1
            have hB1 := hB.after hb1
            obtain ⟨a0, a1, a2, a3, a4, a5, a6, a7⟩ := hA1.cells
            obtain ⟨b0, b1, b2, b3, b4, b5, b6, b7⟩ := hB1.cells
            go_wp2_with fail
            clear a0 a1 a2 a3 a4 a5 a6 a7 b0 b1 b2 b3 b4 b5 b6 b7
            refine (HL.out _).mono ?_
            rintro e w2 ⟨rfl, hb2⟩
            have hA2 := hA1.after hb2
            have hB2 := hB1.after hb2
            obtain ⟨a0, a1, a2, a3, a4, a5, a6, a7⟩ := hA2.cells
            obtain ⟨b0, b1, b2, b3, b4, b5, b6, b7⟩ := hB2.cells
            go_wp2_with fail
            clear a0 a1 a2 a3 a4 a5 a6 a7 b0 b1 b2 b3 b4 b5 b6 b7
            refine (HM.out _).mono ?_
            rintro e w3 ⟨rfl, hb3⟩
            have hA3 := hA2.after hb3
            have hB3 := hB2.after hb3
            obtain ⟨a0, a1, a2, a3, a4, a5, a6, a7⟩ := hA3.cells
            obtain ⟨b0, b1, b2, b3, b4, b5, b6, b7⟩ := hB3.cells
            go_wp2
            go_ret
            exact ⟨rfl, bel_step (bel_step (bel_step (hbA) hb1) hb2) hb3⟩
        | false =>
          go_enter Try.func25, Try.ntmps25
          go_wp2_with fail
          clear hwA
          clear a0 a1 a2 a3 a4 a5 a6 a7 b0 b1 b2 b3 b4 b5 b6 b7
          refine (HC.out _).mono ?_
          rintro e w1 ⟨rfl, hb1⟩
          have hA1 := hA.after hb1
          have hB1 := hB.after hb1
          obtain ⟨a0, a1, a2, a3, a4, a5, a6, a7⟩ := hA1.cells
          obtain ⟨b0, b1, b2, b3, b4, b5, b6, b7⟩ := hB1.cells
          go_wp2_with fail
          clear a0 a1 a2 a3 a4 a5 a6 a7 b0 b1 b2 b3 b4 b5 b6 b7
          refine (HL.out _).mono ?_
          rintro e w2 ⟨rfl, hb2⟩
          have hA2 := hA1.after hb2
          have hB2 := hB1.after hb2
          obtain ⟨a0, a1, a2, a3, a4, a5, a6, a7⟩ := hA2.cells
          obtain ⟨b0, b1, b2, b3, b4, b5, b6, b7⟩ := hB2.cells
          go_wp2_with fail
          clear a0 a1 a2 a3 a4 a5 a6 a7 b0 b1 b2 b3 b4 b5 b6 b7
          refine (HM.out _).mono ?_
          rintro e w3 ⟨rfl, hb3⟩
          have hA3 := hA2.after hb3
          have hB3 := hB2.after hb3
          obtain ⟨a0, a1, a2, a3, a4, a5, a6, a7⟩ := hA3.cells
          obtain ⟨b0, b1, b2, b3, b4, b5, b6, b7⟩ := hB3.cells
          go_wp2
          go_ret
          exact ⟨rfl, bel_step (bel_step (bel_step (hbA) hb1) hb2) hb3⟩
    | false =>
      go_enter Try.func25, Try.ntmps25
      go_wp2_with fail
      clear hwA
      clear a0 a1 a2 a3 a4 a5 a6 a7 b0 b1 b2 b3 b4 b5 b6 b7
      refine (HC.out _).mono ?_
      rintro e w1 ⟨rfl, hb1⟩
      have hA1 := hA.after hb1
      have hB1 := hB.after hb1
      obtain ⟨a0, a1, a2, a3, a4, a5, a6, a7⟩ := hA1.cells
      obtain ⟨b0, b1, b2, b3, b4, b5, b6, b7⟩ := hB1.cells
      go_wp2
      go_ret
      exact ⟨rfl, bel_step (hbA) hb1⟩
end Go.Proofs.Ytboiplanipgidaa
