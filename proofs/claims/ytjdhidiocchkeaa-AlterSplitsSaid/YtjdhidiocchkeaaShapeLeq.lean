/-
  Contracts of package shape (Leq, Ok), over the translation. (By wip/tools/gen_shleq.py.)
-/
import Derived.Test.YtjdhidiocchkeaaShapeJoin
namespace Go.Proofs.Ytjdhidiocchkeaa
open Go.RowKit

/-- a shape among the arguments -/
theorem lay_one (w : World) (a : Sh) : ∃ wA, w.alloc (.cells #[.bool a.u, .bool a.e, .int .u64 (wd a.h 0 : Nat), .int .u64 (wd a.h 1 : Nat), .int .u64 (wd a.h 2 : Nat), .int .u64 (wd a.h 3 : Nat), .bool a.k, .string a.l] 26) = wA ∧ Below w.heap.size w wA ∧ ShAt wA w.heap.size a :=
  ⟨_, rfl, bel_alloc (Below.refl _ _) _, ShAt.new _ a⟩

def leqF (au bu ak m ae n z bk s : Bool) : Bool := if (if au then !bu else false) then false else if ak then m else if (if ae then !n else false) then false else if z then true else if bk then false else s

set_option maxHeartbeats 8000000 in
set_option maxRecDepth 100000 in
theorem Leq_is (a b : Sh) (ha : a.l.size ≤ 1048576) (w : World) : Calls Try.prog 35 #[shV a, shV b] w (Gives w (.bool (leqP a b))) := by
  have HM := Lib.hid (May_is b true a.l ha)
  have HN := Lib.hid (May_is b true ⟨#[]⟩ (by decide))
  have HW := Lib.hid (Within_is a.h b.h)
  have hE := run_eq_set a.h noS
  rw [setV_no] at hE
  rw [show leqP a b = leqF a.u b.u a.k (mayB b true a.l) a.e (mayB b true ⟨#[]⟩) (sameS a.h noS) b.k (subS a.h b.h) from rfl]
  obtain ⟨wA, hwA, hbA, hA, hB⟩ := lay_two w a b
  clear ha
  generalize mayB b true a.l = m at *
  generalize mayB b true ⟨#[]⟩ = n at *
  generalize sameS a.h noS = z at *
  generalize subS a.h b.h = s at *
  obtain ⟨au, ae, ah, ak, al⟩ := a
  obtain ⟨bu, be, bh, bk, bl⟩ := b
  dsimp only [setV, shV] at hE HW HM HN hwA ⊢
  obtain ⟨a0, a1, a2, a3, a4, a5, a6, a7⟩ := hA.cells
  obtain ⟨b0, b1, b2, b3, b4, b5, b6, b7⟩ := hB.cells
  cases au with
  | true =>
    cases bu with
    | true =>
      cases ak with
      | true =>
        go_enter Try.func35, Try.ntmps35
        go_wp2_with fail
        clear hwA
        refine (HM.out _).mono ?_
        rintro e w1 ⟨rfl, hb1⟩
        go_wp2
        go_ret
        exact ⟨rfl, bel_step (hbA) hb1⟩
      | false =>
        cases ae with
        | true =>
          cases n with
          | true =>
            cases z with
            | true =>
              go_enter Try.func35, Try.ntmps35
              go_wp2_with fail
              clear hwA
              refine (HN.out _).mono ?_
              rintro e w1 ⟨rfl, hb1⟩
              clear a0 a1 a2 a3 a4 a5 a6 a7 b0 b1 b2 b3 b4 b5 b6 b7
              have hA1 := hA.after hb1
              have hB1 := hB.after hb1
              obtain ⟨a0, a1, a2, a3, a4, a5, a6, a7⟩ := hA1.cells
              obtain ⟨b0, b1, b2, b3, b4, b5, b6, b7⟩ := hB1.cells
              go_wp2
              go_ret
              exact ⟨rfl, bel_step (hbA) hb1⟩
            | false =>
              cases bk with
              | true =>
                go_enter Try.func35, Try.ntmps35
                go_wp2_with fail
                clear hwA
                refine (HN.out _).mono ?_
                rintro e w1 ⟨rfl, hb1⟩
                clear a0 a1 a2 a3 a4 a5 a6 a7 b0 b1 b2 b3 b4 b5 b6 b7
                have hA1 := hA.after hb1
                have hB1 := hB.after hb1
                obtain ⟨a0, a1, a2, a3, a4, a5, a6, a7⟩ := hA1.cells
                obtain ⟨b0, b1, b2, b3, b4, b5, b6, b7⟩ := hB1.cells
                go_wp2
                go_ret
                exact ⟨rfl, bel_step (hbA) hb1⟩
              | false =>
                go_enter Try.func35, Try.ntmps35
                go_wp2_with fail
                clear hwA
                refine (HN.out _).mono ?_
                rintro e w1 ⟨rfl, hb1⟩
                clear a0 a1 a2 a3 a4 a5 a6 a7 b0 b1 b2 b3 b4 b5 b6 b7
                have hA1 := hA.after hb1
                have hB1 := hB.after hb1
                obtain ⟨a0, a1, a2, a3, a4, a5, a6, a7⟩ := hA1.cells
                obtain ⟨b0, b1, b2, b3, b4, b5, b6, b7⟩ := hB1.cells
                go_wp2_with fail
                refine (HW.out _).mono ?_
                rintro e w2 ⟨rfl, hb2⟩
                go_wp2
                go_ret
                exact ⟨rfl, bel_step (bel_step (hbA) hb1) hb2⟩
          | false =>
            go_enter Try.func35, Try.ntmps35
            go_wp2_with fail
            clear hwA
            refine (HN.out _).mono ?_
            rintro e w1 ⟨rfl, hb1⟩
            clear a0 a1 a2 a3 a4 a5 a6 a7 b0 b1 b2 b3 b4 b5 b6 b7
            have hA1 := hA.after hb1
            have hB1 := hB.after hb1
            obtain ⟨a0, a1, a2, a3, a4, a5, a6, a7⟩ := hA1.cells
            obtain ⟨b0, b1, b2, b3, b4, b5, b6, b7⟩ := hB1.cells
            go_wp2
            go_ret
            exact ⟨rfl, bel_step (hbA) hb1⟩
        | false =>
          cases z with
          | true =>
            go_enter Try.func35, Try.ntmps35
            go_wp2
            go_ret
            exact ⟨rfl, hbA⟩
          | false =>
            cases bk with
            | true =>
              go_enter Try.func35, Try.ntmps35
              go_wp2
              go_ret
              exact ⟨rfl, hbA⟩
            | false =>
              go_enter Try.func35, Try.ntmps35
              go_wp2_with fail
              clear hwA
              refine (HW.out _).mono ?_
              rintro e w1 ⟨rfl, hb1⟩
              go_wp2
              go_ret
              exact ⟨rfl, bel_step (hbA) hb1⟩
    | false =>
      go_enter Try.func35, Try.ntmps35
      go_wp2
      go_ret
      exact ⟨rfl, hbA⟩
  | false =>
    cases ak with
    | true =>
      go_enter Try.func35, Try.ntmps35
      go_wp2_with fail
      clear hwA
      refine (HM.out _).mono ?_
      rintro e w1 ⟨rfl, hb1⟩
      go_wp2
      go_ret
      exact ⟨rfl, bel_step (hbA) hb1⟩
    | false =>
      cases ae with
      | true =>
        cases n with
        | true =>
          cases z with
          | true =>
            go_enter Try.func35, Try.ntmps35
            go_wp2_with fail
            clear hwA
            refine (HN.out _).mono ?_
            rintro e w1 ⟨rfl, hb1⟩
            clear a0 a1 a2 a3 a4 a5 a6 a7 b0 b1 b2 b3 b4 b5 b6 b7
            have hA1 := hA.after hb1
            have hB1 := hB.after hb1
            obtain ⟨a0, a1, a2, a3, a4, a5, a6, a7⟩ := hA1.cells
            obtain ⟨b0, b1, b2, b3, b4, b5, b6, b7⟩ := hB1.cells
            go_wp2
            go_ret
            exact ⟨rfl, bel_step (hbA) hb1⟩
          | false =>
            cases bk with
            | true =>
              go_enter Try.func35, Try.ntmps35
              go_wp2_with fail
              clear hwA
              refine (HN.out _).mono ?_
              rintro e w1 ⟨rfl, hb1⟩
              clear a0 a1 a2 a3 a4 a5 a6 a7 b0 b1 b2 b3 b4 b5 b6 b7
              have hA1 := hA.after hb1
              have hB1 := hB.after hb1
              obtain ⟨a0, a1, a2, a3, a4, a5, a6, a7⟩ := hA1.cells
              obtain ⟨b0, b1, b2, b3, b4, b5, b6, b7⟩ := hB1.cells
              go_wp2
              go_ret
              exact ⟨rfl, bel_step (hbA) hb1⟩
            | false =>
              go_enter Try.func35, Try.ntmps35
              go_wp2_with fail
              clear hwA
              refine (HN.out _).mono ?_
              rintro e w1 ⟨rfl, hb1⟩
              clear a0 a1 a2 a3 a4 a5 a6 a7 b0 b1 b2 b3 b4 b5 b6 b7
              have hA1 := hA.after hb1
              have hB1 := hB.after hb1
              obtain ⟨a0, a1, a2, a3, a4, a5, a6, a7⟩ := hA1.cells
              obtain ⟨b0, b1, b2, b3, b4, b5, b6, b7⟩ := hB1.cells
              go_wp2_with fail
              refine (HW.out _).mono ?_
              rintro e w2 ⟨rfl, hb2⟩
              go_wp2
              go_ret
              exact ⟨rfl, bel_step (bel_step (hbA) hb1) hb2⟩
        | false =>
          go_enter Try.func35, Try.ntmps35
          go_wp2_with fail
          clear hwA
          refine (HN.out _).mono ?_
          rintro e w1 ⟨rfl, hb1⟩
          clear a0 a1 a2 a3 a4 a5 a6 a7 b0 b1 b2 b3 b4 b5 b6 b7
          have hA1 := hA.after hb1
          have hB1 := hB.after hb1
          obtain ⟨a0, a1, a2, a3, a4, a5, a6, a7⟩ := hA1.cells
          obtain ⟨b0, b1, b2, b3, b4, b5, b6, b7⟩ := hB1.cells
          go_wp2
          go_ret
          exact ⟨rfl, bel_step (hbA) hb1⟩
      | false =>
        cases z with
        | true =>
          go_enter Try.func35, Try.ntmps35
          go_wp2
          go_ret
          exact ⟨rfl, hbA⟩
        | false =>
          cases bk with
          | true =>
            go_enter Try.func35, Try.ntmps35
            go_wp2
            go_ret
            exact ⟨rfl, hbA⟩
          | false =>
            go_enter Try.func35, Try.ntmps35
            go_wp2_with fail
            clear hwA
            refine (HW.out _).mono ?_
            rintro e w1 ⟨rfl, hb1⟩
            go_wp2
            go_ret
            exact ⟨rfl, bel_step (hbA) hb1⟩

def okF (h0 k kk ss e em : Bool) : Bool := if h0 then false else if k then (if kk then (if ss then e == em else false) else false) else em

end Go.Proofs.Ytjdhidiocchkeaa
