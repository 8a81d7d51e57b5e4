/-
  The walk of conchlaw4.ShapeOrder. (By wip/tools/gen_shorder.py.)
-/
import Derived.Test.YtboiplanipgidaaShNone
import Derived.Test.YtboiplanipgidaaShRow
import Derived.Deep.CutRange
namespace Go.Proofs.Ytboiplanipgidaa
open Go.RowKit

/-- three shapes among the arguments -/
theorem lay_abc (w : World) (a b c : Sh) : ∃ wA, ((w.alloc (.cells #[.bool a.u, .bool a.e, .int .u64 (wd a.h 0 : Nat), .int .u64 (wd a.h 1 : Nat), .int .u64 (wd a.h 2 : Nat), .int .u64 (wd a.h 3 : Nat), .bool a.k, .string a.l] 26)).alloc (.cells #[.bool b.u, .bool b.e, .int .u64 (wd b.h 0 : Nat), .int .u64 (wd b.h 1 : Nat), .int .u64 (wd b.h 2 : Nat), .int .u64 (wd b.h 3 : Nat), .bool b.k, .string b.l] 26)).alloc (.cells #[.bool c.u, .bool c.e, .int .u64 (wd c.h 0 : Nat), .int .u64 (wd c.h 1 : Nat), .int .u64 (wd c.h 2 : Nat), .int .u64 (wd c.h 3 : Nat), .bool c.k, .string c.l] 26) = wA ∧ Below w.heap.size w wA ∧ ShAt wA w.heap.size a ∧ ShAt wA (w.heap.size + 1) b ∧ ShAt wA (w.heap.size + 1 + 1) c :=
  ⟨_, rfl, bel_alloc (bel_alloc (bel_alloc (Below.refl _ _) _) _) _, ((ShAt.new _ a).alloc _).alloc _, (ShAt.new_at _ b _ (by simp)).alloc _, ShAt.new_at _ c _ (by simp)⟩

theorem leq_trans_b {a b c : Sh} (ha : OkP a) (hb : OkP b) (hc : OkP c) (h1 : leqP a b = true) (h2 : leqP b c = true) : leqP a c = true :=
  (leqP_iff ha hc).2 (((leqP_iff ha hb).1 h1).trans ha ((leqP_iff hb hc).1 h2))
theorem leq_refl_b {a : Sh} (ha : OkP a) : leqP a a = true := (leqP_iff ha ha).2 Le.refl
theorem leq_may_b {a b : Sh} (ha : OkP a) (hb : OkP b) (h1 : leqP a b = true) (is : Bool) (v : ByteArray) (h2 : mayB a is v = true) : mayB b is v = true :=
  may_mono ha hb ((leqP_iff ha hb).1 h1) is v h2
theorem leq_join_b {a b c : Sh} (ha : OkP a) (hb : OkP b) (hc : OkP c) (h1 : leqP a c = true) (h2 : leqP b c = true) : leqP (joinP a b) c = true :=
  (leqP_iff (join_ok ha hb) hc).2 (join_least ha hb ((leqP_iff ha hc).1 h1) ((leqP_iff hb hc).1 h2))

/-- how many of the row x holds in pass q, ahead of element i -/
def held (N q i : Nat) : Nat := if q = 0 then i else N
structure Rises (f : Nat → Sh) (N q i sn : Nat) (x : Sh) : Prop where
  ok : OkP x
  few : sn ≤ held N q i
  lj : ∀ i', i' < held N q i → Lj (tameSh (f i')) x
theorem Rises.next {f : Nat → Sh} {N q i sn : Nat} {x y : Sh} (h : Rises f N q i sn x) (hi : i < N) (hy : joinP x (tameSh (f i)) = y) : OkP y ∧
    (sameSh y x = true → Rises f N q (i + 1) sn y) ∧ (sameSh y x = false → Rises f N q (i + 1) (sn + 1) y ∧ sn + 1 ≤ N) := by
  have ht := tame_ok (f i)
  have hyo : OkP y := hy ▸ join_ok h.ok ht
  have h1 : Lj x y := hy ▸ join_left h.ok ht
  have h2 : Lj (tameSh (f i)) y := hy ▸ join_right h.ok ht
  have hlj : ∀ i', i' < held N q (i + 1) → Lj (tameSh (f i')) y := fun i' hi' => by
    by_cases hq : q = 0
    · subst hq
      have hi2 : i' < i + 1 := hi'
      by_cases he : i' = i
      · subst he; exact h2
      · exact (h.lj i' (show i' < i by omega)).trans h1
    · have e1 : held N q (i + 1) = held N q i := by unfold held; rw [if_neg hq, if_neg hq]
      exact (h.lj i' (e1 ▸ hi')).trans h1
  have hle : held N q i ≤ held N q (i + 1) := by unfold held; split <;> omega
  refine ⟨hyo, fun _ => ⟨hyo, Nat.le_trans h.few hle, hlj⟩, fun hs => ?_⟩
  by_cases hq : q = 0
  · subst hq
    have h3 : sn ≤ i := h.few
    exact ⟨⟨hyo, show sn + 1 ≤ i + 1 by omega, hlj⟩, by omega⟩
  · have e0 : held N q i = N := by unfold held; rw [if_neg hq]
    exact no_both (hy ▸ join_absorb ht h.ok (h.lj i (by rw [e0]; exact hi))) hs
theorem Rises.pass {f : Nat → Sh} {N q sn : Nat} {x : Sh} (h : Rises f N q N sn x) : Rises f N (q + 1) 0 sn x := by
  have e1 : held N q N = N := by unfold held; split <;> rfl
  have e2 : held N (q + 1) 0 = N := by unfold held; rw [if_neg (by omega)]
  exact ⟨h.ok, by rw [e2]; exact e1 ▸ h.few, fun i' hi' => h.lj i' (by rw [e1]; exact e2 ▸ hi')⟩
theorem Rises.few30 {f : Nat → Sh} {N q i sn : Nat} {x : Sh} (h : Rises f N q i sn x) (hN : N ≤ 30) (hi : i ≤ N) : sn ≤ 30 := by
  have := h.few
  unfold held at this
  split at this <;> omega

set_option maxHeartbeats 16000000 in
set_option maxRecDepth 100000 in
theorem ShapeOrder_walk (a b c : Sh) (v : ByteArray) (is : Bool) (a0 : Option Addr) (len cap : Nat) (f : Nat → Sh) (w : World) (hrow : ShRow w a0 len f) :
    Calls Try.prog 6 #[shV a, shV b, shV c, .string v, .bool is, .slice a0 len cap] w (Gives w (.bool true)) := by
  have HW := Lib.hid awake_is
  have HR := Lib.hid hrow
  clear hrow
  obtain ⟨wA, hwA, hbA, hA, hB, hC⟩ := lay_abc w a b c
  by_cases hv : v.size ≤ 100
  · have HTa := Lib.hid (Tame_is a)
    have HTb := Lib.hid (Tame_is b)
    have HTc := Lib.hid (Tame_is c)
    have ha := Lib.hid (tame_ok a)
    have hb := Lib.hid (tame_ok b)
    have hc := Lib.hid (tame_ok c)
    generalize tameSh a = ta at *
    generalize tameSh b = tb at *
    generalize tameSh c = tc at *
    simp only [shV] at HTa HTb HTc ⊢
    go_enter Try.func6, Try.ntmps6
    go_wp2
    clear hwA
    obtain ⟨L0, L1, L2, L3, L4, L5, L6, L7⟩ := hA.laters
    obtain ⟨M0, M1, M2, M3, M4, M5, M6, M7⟩ := hB.laters
    obtain ⟨N0, N1, N2, N3, N4, N5, N6, N7⟩ := hC.laters
    refine region_tail 6 (by kernel_rfl) (by kernel_rfl) ?_
    simp only [List.take_succ_cons, List.take_zero, List.drop_succ_cons, List.drop_zero]
    repeat (go_big_quiet_step (fail))
    go_big_quiet_step (exact later (HTa.out _))
    repeat (go_big_quiet_step (fail))
    go_big_quiet_step (exact later (HTb.out _))
    repeat (go_big_quiet_step (fail))
    go_big_quiet_step (exact later (HTc.out _))
    repeat (go_big_quiet_step (fail))
    refine wpQuiet_nil ?_
    rintro _ ⟨z, rfl⟩
    have hA2 := hA.after z.below
    have hB2 := hB.after z.below
    have hC2 := hC.after z.below
    have hb2 := bel_step hbA z.below
    clear L0 L1 L2 L3 L4 L5 L6 L7 M0 M1 M2 M3 M4 M5 M6 M7 N0 N1 N2 N3 N4 N5 N6 N7
    clear hA hB hC hbA HTa HTb HTc
    generalize z.at_ = V at *
    obtain ⟨c0, c1, c2, c3, c4, c5, c6, c7⟩ := hA2.cells
    obtain ⟨d0, d1, d2, d3, d4, d5, d6, d7⟩ := hB2.cells
    obtain ⟨e0, e1, e2, e3, e4, e5, e6, e7⟩ := hC2.cells
    obtain ⟨g0, g1, g2, g3, g4, g5, g6, g7⟩ := hA2.frozens
    obtain ⟨k0, k1, k2, k3, k4, k5, k6, k7⟩ := hB2.frozens
    obtain ⟨l0, l1, l2, l3, l4, l5, l6, l7⟩ := hC2.frozens
    have hA3 := ((hA2.put ta).putFar (c := w.heap.size + 1) (by omega) tb).putFar (c := w.heap.size + 1 + 1) (by omega) tc
    have hB3 := ((hB2.putFar (c := w.heap.size) (by omega) ta).put tb).putFar (c := w.heap.size + 1 + 1) (by omega) tc
    have hC3 := ((hC2.putFar (c := w.heap.size) (by omega) ta).putFar (c := w.heap.size + 1) (by omega) tb).put tc
    have hb3 := bel_putSh (bel_putSh (bel_putSh hb2 (Nat.le_refl _) ta) (by omega : w.heap.size ≤ w.heap.size + 1) tb) (by omega : w.heap.size ≤ w.heap.size + 1 + 1) tc
    obtain ⟨U, hU⟩ : ∃ U, putSh (putSh (putSh V w.heap.size ta) (w.heap.size + 1) tb) (w.heap.size + 1 + 1) tc = U := ⟨_, rfl⟩
    rw [hU] at hA3 hB3 hC3 hb3
    unfold putSh at hU
    have HU := Lib.hid hU
    clear hU
    go_upto_region 4 with fail
    rw [HU.out]
    clear c0 c1 c2 c3 c4 c5 c6 c7 d0 d1 d2 d3 d4 d5 d6 d7 e0 e1 e2 e3 e4 e5 e6 e7 g0 g1 g2 g3 g4 g5 g6 g7 k0 k1 k2 k3 k4 k5 k6 k7 l0 l1 l2 l3 l4 l5 l6 l7
    clear HU hA2 hB2 hC2 hb2
    have hL1 := Leq_is ta tb (ok_len ha.out)
    have hL2 := Leq_is tb tc (ok_len hb.out)
    have hL3 := Leq_is ta tc (ok_len ha.out)
    have hLr := Leq_is ta ta (ok_len ha.out)
    have hMa := May_is ta is v (by omega)
    have hMb := May_is tb is v (by omega)
    have HJ := Lib.hid (Join_is ta tb)
    have hLj := Leq_is (joinP ta tb) tc (ok_len (join_ok ha.out hb.out))
    rw [leq_refl_b ha.out] at hLr
    have q1 := Lib.hid (leq_may_b ha.out hb.out · is v)
    have q2 := Lib.hid (leq_trans_b ha.out hb.out hc.out)
    have q3 := Lib.hid (leq_join_b ha.out hb.out hc.out)
    generalize leqP ta tb = l1 at *
    generalize leqP tb tc = l2 at *
    generalize leqP ta tc = l3 at *
    generalize mayB ta is v = m1 at *
    generalize mayB tb is v = m2 at *
    generalize leqP (joinP ta tb) tc = l4 at *
    generalize joinP ta tb = j at *
    simp only [shV] at hL1 hL2 hL3 hLr hMa hMb HJ hLj
    go_cut [65] from 28 (fun s wx => s = .bool false ∧ ShAt wx w.heap.size ta ∧ ShAt wx (w.heap.size + 1) tb ∧ ShAt wx (w.heap.size + 1 + 1) tc ∧ Below w.heap.size w wx)
    case first =>
      have HLr := Lib.hid hLr
      clear q3 HJ hLj hLr
      cases l1 with
      | false =>
        have HL1 := Lib.hid hL1
        clear hL1 hL2 hL3 hMa hMb q1 q2
        obtain ⟨c0, c1, c2, c3, c4, c5, c6, c7⟩ := hA3.cells
        obtain ⟨d0, d1, d2, d3, d4, d5, d6, d7⟩ := hB3.cells
        obtain ⟨e0, e1, e2, e3, e4, e5, e6, e7⟩ := hC3.cells
        go_wp2_with fail
        clear c0 c1 c2 c3 c4 c5 c6 c7 d0 d1 d2 d3 d4 d5 d6 d7 e0 e1 e2 e3 e4 e5 e6 e7
        refine (HL1.out _).mono ?_
        rintro e y4 ⟨rfl, kb4⟩
        have hA4 := hA3.after kb4
        have hB4 := hB3.after kb4
        have hC4 := hC3.after kb4
        have hb4 := bel_step hb3 kb4
        clear kb4
        obtain ⟨c0, c1, c2, c3, c4, c5, c6, c7⟩ := hA4.cells
        obtain ⟨d0, d1, d2, d3, d4, d5, d6, d7⟩ := hB4.cells
        obtain ⟨e0, e1, e2, e3, e4, e5, e6, e7⟩ := hC4.cells
        go_wp2_with fail
        clear c0 c1 c2 c3 c4 c5 c6 c7 d0 d1 d2 d3 d4 d5 d6 d7 e0 e1 e2 e3 e4 e5 e6 e7
        refine (HL1.out _).mono ?_
        rintro e y5 ⟨rfl, kb5⟩
        have hA5 := hA4.after kb5
        have hB5 := hB4.after kb5
        have hC5 := hC4.after kb5
        have hb5 := bel_step hb4 kb5
        clear kb5
        obtain ⟨c0, c1, c2, c3, c4, c5, c6, c7⟩ := hA5.cells
        obtain ⟨d0, d1, d2, d3, d4, d5, d6, d7⟩ := hB5.cells
        obtain ⟨e0, e1, e2, e3, e4, e5, e6, e7⟩ := hC5.cells
        go_wp2_with fail
        clear c0 c1 c2 c3 c4 c5 c6 c7 d0 d1 d2 d3 d4 d5 d6 d7 e0 e1 e2 e3 e4 e5 e6 e7
        refine (HLr.out _).mono ?_
        rintro e y6 ⟨rfl, kb6⟩
        have hA6 := hA5.after kb6
        have hB6 := hB5.after kb6
        have hC6 := hC5.after kb6
        have hb6 := bel_step hb5 kb6
        clear kb6
        go_wp2
        go_meet
        case rel => exact ⟨rfl, hA6, hB6, hC6, hb6⟩
      | true =>
        have HL1 := Lib.hid hL1
        have p1 := q1.out rfl
        have p2 := q2.out rfl
        clear q1 q2 hL1
        cases m1 with
        | true =>
          have p3 : m2 = true := p1 rfl
          subst p3
          have HMa := Lib.hid hMa
          have HMb := Lib.hid hMb
          clear hMa hMb p1
          cases l2 with
          | true =>
            have p4 : l3 = true := p2 rfl
            subst p4
            have HL2 := Lib.hid hL2
            have HL3 := Lib.hid hL3
            clear hL2 hL3 p2
            obtain ⟨c0, c1, c2, c3, c4, c5, c6, c7⟩ := hA3.cells
            obtain ⟨d0, d1, d2, d3, d4, d5, d6, d7⟩ := hB3.cells
            obtain ⟨e0, e1, e2, e3, e4, e5, e6, e7⟩ := hC3.cells
            go_wp2_with fail
            clear c0 c1 c2 c3 c4 c5 c6 c7 d0 d1 d2 d3 d4 d5 d6 d7 e0 e1 e2 e3 e4 e5 e6 e7
            refine (HL1.out _).mono ?_
            rintro e y4 ⟨rfl, kb4⟩
            have hA4 := hA3.after kb4
            have hB4 := hB3.after kb4
            have hC4 := hC3.after kb4
            have hb4 := bel_step hb3 kb4
            clear kb4
            obtain ⟨c0, c1, c2, c3, c4, c5, c6, c7⟩ := hA4.cells
            obtain ⟨d0, d1, d2, d3, d4, d5, d6, d7⟩ := hB4.cells
            obtain ⟨e0, e1, e2, e3, e4, e5, e6, e7⟩ := hC4.cells
            go_wp2_with fail
            clear c0 c1 c2 c3 c4 c5 c6 c7 d0 d1 d2 d3 d4 d5 d6 d7 e0 e1 e2 e3 e4 e5 e6 e7
            refine (HMa.out _).mono ?_
            rintro e y5 ⟨rfl, kb5⟩
            have hA5 := hA4.after kb5
            have hB5 := hB4.after kb5
            have hC5 := hC4.after kb5
            have hb5 := bel_step hb4 kb5
            clear kb5
            obtain ⟨c0, c1, c2, c3, c4, c5, c6, c7⟩ := hA5.cells
            obtain ⟨d0, d1, d2, d3, d4, d5, d6, d7⟩ := hB5.cells
            obtain ⟨e0, e1, e2, e3, e4, e5, e6, e7⟩ := hC5.cells
            go_wp2_with fail
            clear c0 c1 c2 c3 c4 c5 c6 c7 d0 d1 d2 d3 d4 d5 d6 d7 e0 e1 e2 e3 e4 e5 e6 e7
            refine (HMb.out _).mono ?_
            rintro e y6 ⟨rfl, kb6⟩
            have hA6 := hA5.after kb6
            have hB6 := hB5.after kb6
            have hC6 := hC5.after kb6
            have hb6 := bel_step hb5 kb6
            clear kb6
            obtain ⟨c0, c1, c2, c3, c4, c5, c6, c7⟩ := hA6.cells
            obtain ⟨d0, d1, d2, d3, d4, d5, d6, d7⟩ := hB6.cells
            obtain ⟨e0, e1, e2, e3, e4, e5, e6, e7⟩ := hC6.cells
            go_wp2_with fail
            clear c0 c1 c2 c3 c4 c5 c6 c7 d0 d1 d2 d3 d4 d5 d6 d7 e0 e1 e2 e3 e4 e5 e6 e7
            refine (HL1.out _).mono ?_
            rintro e y7 ⟨rfl, kb7⟩
            have hA7 := hA6.after kb7
            have hB7 := hB6.after kb7
            have hC7 := hC6.after kb7
            have hb7 := bel_step hb6 kb7
            clear kb7
            obtain ⟨c0, c1, c2, c3, c4, c5, c6, c7⟩ := hA7.cells
            obtain ⟨d0, d1, d2, d3, d4, d5, d6, d7⟩ := hB7.cells
            obtain ⟨e0, e1, e2, e3, e4, e5, e6, e7⟩ := hC7.cells
            go_wp2_with fail
            clear c0 c1 c2 c3 c4 c5 c6 c7 d0 d1 d2 d3 d4 d5 d6 d7 e0 e1 e2 e3 e4 e5 e6 e7
            refine (HL2.out _).mono ?_
            rintro e y8 ⟨rfl, kb8⟩
            have hA8 := hA7.after kb8
            have hB8 := hB7.after kb8
            have hC8 := hC7.after kb8
            have hb8 := bel_step hb7 kb8
            clear kb8
            obtain ⟨c0, c1, c2, c3, c4, c5, c6, c7⟩ := hA8.cells
            obtain ⟨d0, d1, d2, d3, d4, d5, d6, d7⟩ := hB8.cells
            obtain ⟨e0, e1, e2, e3, e4, e5, e6, e7⟩ := hC8.cells
            go_wp2_with fail
            clear c0 c1 c2 c3 c4 c5 c6 c7 d0 d1 d2 d3 d4 d5 d6 d7 e0 e1 e2 e3 e4 e5 e6 e7
            refine (HL3.out _).mono ?_
            rintro e y9 ⟨rfl, kb9⟩
            have hA9 := hA8.after kb9
            have hB9 := hB8.after kb9
            have hC9 := hC8.after kb9
            have hb9 := bel_step hb8 kb9
            clear kb9
            obtain ⟨c0, c1, c2, c3, c4, c5, c6, c7⟩ := hA9.cells
            obtain ⟨d0, d1, d2, d3, d4, d5, d6, d7⟩ := hB9.cells
            obtain ⟨e0, e1, e2, e3, e4, e5, e6, e7⟩ := hC9.cells
            go_wp2_with fail
            clear c0 c1 c2 c3 c4 c5 c6 c7 d0 d1 d2 d3 d4 d5 d6 d7 e0 e1 e2 e3 e4 e5 e6 e7
            refine (HLr.out _).mono ?_
            rintro e y10 ⟨rfl, kb10⟩
            have hA10 := hA9.after kb10
            have hB10 := hB9.after kb10
            have hC10 := hC9.after kb10
            have hb10 := bel_step hb9 kb10
            clear kb10
            go_wp2
            go_meet
            case rel => exact ⟨rfl, hA10, hB10, hC10, hb10⟩
          | false =>
            have HL2 := Lib.hid hL2
            clear hL2 hL3 p2
            obtain ⟨c0, c1, c2, c3, c4, c5, c6, c7⟩ := hA3.cells
            obtain ⟨d0, d1, d2, d3, d4, d5, d6, d7⟩ := hB3.cells
            obtain ⟨e0, e1, e2, e3, e4, e5, e6, e7⟩ := hC3.cells
            go_wp2_with fail
            clear c0 c1 c2 c3 c4 c5 c6 c7 d0 d1 d2 d3 d4 d5 d6 d7 e0 e1 e2 e3 e4 e5 e6 e7
            refine (HL1.out _).mono ?_
            rintro e y4 ⟨rfl, kb4⟩
            have hA4 := hA3.after kb4
            have hB4 := hB3.after kb4
            have hC4 := hC3.after kb4
            have hb4 := bel_step hb3 kb4
            clear kb4
            obtain ⟨c0, c1, c2, c3, c4, c5, c6, c7⟩ := hA4.cells
            obtain ⟨d0, d1, d2, d3, d4, d5, d6, d7⟩ := hB4.cells
            obtain ⟨e0, e1, e2, e3, e4, e5, e6, e7⟩ := hC4.cells
            go_wp2_with fail
            clear c0 c1 c2 c3 c4 c5 c6 c7 d0 d1 d2 d3 d4 d5 d6 d7 e0 e1 e2 e3 e4 e5 e6 e7
            refine (HMa.out _).mono ?_
            rintro e y5 ⟨rfl, kb5⟩
            have hA5 := hA4.after kb5
            have hB5 := hB4.after kb5
            have hC5 := hC4.after kb5
            have hb5 := bel_step hb4 kb5
            clear kb5
            obtain ⟨c0, c1, c2, c3, c4, c5, c6, c7⟩ := hA5.cells
            obtain ⟨d0, d1, d2, d3, d4, d5, d6, d7⟩ := hB5.cells
            obtain ⟨e0, e1, e2, e3, e4, e5, e6, e7⟩ := hC5.cells
            go_wp2_with fail
            clear c0 c1 c2 c3 c4 c5 c6 c7 d0 d1 d2 d3 d4 d5 d6 d7 e0 e1 e2 e3 e4 e5 e6 e7
            refine (HMb.out _).mono ?_
            rintro e y6 ⟨rfl, kb6⟩
            have hA6 := hA5.after kb6
            have hB6 := hB5.after kb6
            have hC6 := hC5.after kb6
            have hb6 := bel_step hb5 kb6
            clear kb6
            obtain ⟨c0, c1, c2, c3, c4, c5, c6, c7⟩ := hA6.cells
            obtain ⟨d0, d1, d2, d3, d4, d5, d6, d7⟩ := hB6.cells
            obtain ⟨e0, e1, e2, e3, e4, e5, e6, e7⟩ := hC6.cells
            go_wp2_with fail
            clear c0 c1 c2 c3 c4 c5 c6 c7 d0 d1 d2 d3 d4 d5 d6 d7 e0 e1 e2 e3 e4 e5 e6 e7
            refine (HL1.out _).mono ?_
            rintro e y7 ⟨rfl, kb7⟩
            have hA7 := hA6.after kb7
            have hB7 := hB6.after kb7
            have hC7 := hC6.after kb7
            have hb7 := bel_step hb6 kb7
            clear kb7
            obtain ⟨c0, c1, c2, c3, c4, c5, c6, c7⟩ := hA7.cells
            obtain ⟨d0, d1, d2, d3, d4, d5, d6, d7⟩ := hB7.cells
            obtain ⟨e0, e1, e2, e3, e4, e5, e6, e7⟩ := hC7.cells
            go_wp2_with fail
            clear c0 c1 c2 c3 c4 c5 c6 c7 d0 d1 d2 d3 d4 d5 d6 d7 e0 e1 e2 e3 e4 e5 e6 e7
            refine (HL2.out _).mono ?_
            rintro e y8 ⟨rfl, kb8⟩
            have hA8 := hA7.after kb8
            have hB8 := hB7.after kb8
            have hC8 := hC7.after kb8
            have hb8 := bel_step hb7 kb8
            clear kb8
            obtain ⟨c0, c1, c2, c3, c4, c5, c6, c7⟩ := hA8.cells
            obtain ⟨d0, d1, d2, d3, d4, d5, d6, d7⟩ := hB8.cells
            obtain ⟨e0, e1, e2, e3, e4, e5, e6, e7⟩ := hC8.cells
            go_wp2_with fail
            clear c0 c1 c2 c3 c4 c5 c6 c7 d0 d1 d2 d3 d4 d5 d6 d7 e0 e1 e2 e3 e4 e5 e6 e7
            refine (HLr.out _).mono ?_
            rintro e y9 ⟨rfl, kb9⟩
            have hA9 := hA8.after kb9
            have hB9 := hB8.after kb9
            have hC9 := hC8.after kb9
            have hb9 := bel_step hb8 kb9
            clear kb9
            go_wp2
            go_meet
            case rel => exact ⟨rfl, hA9, hB9, hC9, hb9⟩
        | false =>
          have HMa := Lib.hid hMa
          clear hMa hMb p1
          cases l2 with
          | true =>
            have p4 : l3 = true := p2 rfl
            subst p4
            have HL2 := Lib.hid hL2
            have HL3 := Lib.hid hL3
            clear hL2 hL3 p2
            obtain ⟨c0, c1, c2, c3, c4, c5, c6, c7⟩ := hA3.cells
            obtain ⟨d0, d1, d2, d3, d4, d5, d6, d7⟩ := hB3.cells
            obtain ⟨e0, e1, e2, e3, e4, e5, e6, e7⟩ := hC3.cells
            go_wp2_with fail
            clear c0 c1 c2 c3 c4 c5 c6 c7 d0 d1 d2 d3 d4 d5 d6 d7 e0 e1 e2 e3 e4 e5 e6 e7
            refine (HL1.out _).mono ?_
            rintro e y4 ⟨rfl, kb4⟩
            have hA4 := hA3.after kb4
            have hB4 := hB3.after kb4
            have hC4 := hC3.after kb4
            have hb4 := bel_step hb3 kb4
            clear kb4
            obtain ⟨c0, c1, c2, c3, c4, c5, c6, c7⟩ := hA4.cells
            obtain ⟨d0, d1, d2, d3, d4, d5, d6, d7⟩ := hB4.cells
            obtain ⟨e0, e1, e2, e3, e4, e5, e6, e7⟩ := hC4.cells
            go_wp2_with fail
            clear c0 c1 c2 c3 c4 c5 c6 c7 d0 d1 d2 d3 d4 d5 d6 d7 e0 e1 e2 e3 e4 e5 e6 e7
            refine (HMa.out _).mono ?_
            rintro e y5 ⟨rfl, kb5⟩
            have hA5 := hA4.after kb5
            have hB5 := hB4.after kb5
            have hC5 := hC4.after kb5
            have hb5 := bel_step hb4 kb5
            clear kb5
            obtain ⟨c0, c1, c2, c3, c4, c5, c6, c7⟩ := hA5.cells
            obtain ⟨d0, d1, d2, d3, d4, d5, d6, d7⟩ := hB5.cells
            obtain ⟨e0, e1, e2, e3, e4, e5, e6, e7⟩ := hC5.cells
            go_wp2_with fail
            clear c0 c1 c2 c3 c4 c5 c6 c7 d0 d1 d2 d3 d4 d5 d6 d7 e0 e1 e2 e3 e4 e5 e6 e7
            refine (HL1.out _).mono ?_
            rintro e y6 ⟨rfl, kb6⟩
            have hA6 := hA5.after kb6
            have hB6 := hB5.after kb6
            have hC6 := hC5.after kb6
            have hb6 := bel_step hb5 kb6
            clear kb6
            obtain ⟨c0, c1, c2, c3, c4, c5, c6, c7⟩ := hA6.cells
            obtain ⟨d0, d1, d2, d3, d4, d5, d6, d7⟩ := hB6.cells
            obtain ⟨e0, e1, e2, e3, e4, e5, e6, e7⟩ := hC6.cells
            go_wp2_with fail
            clear c0 c1 c2 c3 c4 c5 c6 c7 d0 d1 d2 d3 d4 d5 d6 d7 e0 e1 e2 e3 e4 e5 e6 e7
            refine (HL2.out _).mono ?_
            rintro e y7 ⟨rfl, kb7⟩
            have hA7 := hA6.after kb7
            have hB7 := hB6.after kb7
            have hC7 := hC6.after kb7
            have hb7 := bel_step hb6 kb7
            clear kb7
            obtain ⟨c0, c1, c2, c3, c4, c5, c6, c7⟩ := hA7.cells
            obtain ⟨d0, d1, d2, d3, d4, d5, d6, d7⟩ := hB7.cells
            obtain ⟨e0, e1, e2, e3, e4, e5, e6, e7⟩ := hC7.cells
            go_wp2_with fail
            clear c0 c1 c2 c3 c4 c5 c6 c7 d0 d1 d2 d3 d4 d5 d6 d7 e0 e1 e2 e3 e4 e5 e6 e7
            refine (HL3.out _).mono ?_
            rintro e y8 ⟨rfl, kb8⟩
            have hA8 := hA7.after kb8
            have hB8 := hB7.after kb8
            have hC8 := hC7.after kb8
            have hb8 := bel_step hb7 kb8
            clear kb8
            obtain ⟨c0, c1, c2, c3, c4, c5, c6, c7⟩ := hA8.cells
            obtain ⟨d0, d1, d2, d3, d4, d5, d6, d7⟩ := hB8.cells
            obtain ⟨e0, e1, e2, e3, e4, e5, e6, e7⟩ := hC8.cells
            go_wp2_with fail
            clear c0 c1 c2 c3 c4 c5 c6 c7 d0 d1 d2 d3 d4 d5 d6 d7 e0 e1 e2 e3 e4 e5 e6 e7
            refine (HLr.out _).mono ?_
            rintro e y9 ⟨rfl, kb9⟩
            have hA9 := hA8.after kb9
            have hB9 := hB8.after kb9
            have hC9 := hC8.after kb9
            have hb9 := bel_step hb8 kb9
            clear kb9
            go_wp2
            go_meet
            case rel => exact ⟨rfl, hA9, hB9, hC9, hb9⟩
          | false =>
            have HL2 := Lib.hid hL2
            clear hL2 hL3 p2
            obtain ⟨c0, c1, c2, c3, c4, c5, c6, c7⟩ := hA3.cells
            obtain ⟨d0, d1, d2, d3, d4, d5, d6, d7⟩ := hB3.cells
            obtain ⟨e0, e1, e2, e3, e4, e5, e6, e7⟩ := hC3.cells
            go_wp2_with fail
            clear c0 c1 c2 c3 c4 c5 c6 c7 d0 d1 d2 d3 d4 d5 d6 d7 e0 e1 e2 e3 e4 e5 e6 e7
            refine (HL1.out _).mono ?_
            rintro e y4 ⟨rfl, kb4⟩
            have hA4 := hA3.after kb4
            have hB4 := hB3.after kb4
            have hC4 := hC3.after kb4
            have hb4 := bel_step hb3 kb4
            clear kb4
            obtain ⟨c0, c1, c2, c3, c4, c5, c6, c7⟩ := hA4.cells
            obtain ⟨d0, d1, d2, d3, d4, d5, d6, d7⟩ := hB4.cells
            obtain ⟨e0, e1, e2, e3, e4, e5, e6, e7⟩ := hC4.cells
            go_wp2_with fail
            clear c0 c1 c2 c3 c4 c5 c6 c7 d0 d1 d2 d3 d4 d5 d6 d7 e0 e1 e2 e3 e4 e5 e6 e7
            refine (HMa.out _).mono ?_
            rintro e y5 ⟨rfl, kb5⟩
            have hA5 := hA4.after kb5
            have hB5 := hB4.after kb5
            have hC5 := hC4.after kb5
            have hb5 := bel_step hb4 kb5
            clear kb5
            obtain ⟨c0, c1, c2, c3, c4, c5, c6, c7⟩ := hA5.cells
            obtain ⟨d0, d1, d2, d3, d4, d5, d6, d7⟩ := hB5.cells
            obtain ⟨e0, e1, e2, e3, e4, e5, e6, e7⟩ := hC5.cells
            go_wp2_with fail
            clear c0 c1 c2 c3 c4 c5 c6 c7 d0 d1 d2 d3 d4 d5 d6 d7 e0 e1 e2 e3 e4 e5 e6 e7
            refine (HL1.out _).mono ?_
            rintro e y6 ⟨rfl, kb6⟩
            have hA6 := hA5.after kb6
            have hB6 := hB5.after kb6
            have hC6 := hC5.after kb6
            have hb6 := bel_step hb5 kb6
            clear kb6
            obtain ⟨c0, c1, c2, c3, c4, c5, c6, c7⟩ := hA6.cells
            obtain ⟨d0, d1, d2, d3, d4, d5, d6, d7⟩ := hB6.cells
            obtain ⟨e0, e1, e2, e3, e4, e5, e6, e7⟩ := hC6.cells
            go_wp2_with fail
            clear c0 c1 c2 c3 c4 c5 c6 c7 d0 d1 d2 d3 d4 d5 d6 d7 e0 e1 e2 e3 e4 e5 e6 e7
            refine (HL2.out _).mono ?_
            rintro e y7 ⟨rfl, kb7⟩
            have hA7 := hA6.after kb7
            have hB7 := hB6.after kb7
            have hC7 := hC6.after kb7
            have hb7 := bel_step hb6 kb7
            clear kb7
            obtain ⟨c0, c1, c2, c3, c4, c5, c6, c7⟩ := hA7.cells
            obtain ⟨d0, d1, d2, d3, d4, d5, d6, d7⟩ := hB7.cells
            obtain ⟨e0, e1, e2, e3, e4, e5, e6, e7⟩ := hC7.cells
            go_wp2_with fail
            clear c0 c1 c2 c3 c4 c5 c6 c7 d0 d1 d2 d3 d4 d5 d6 d7 e0 e1 e2 e3 e4 e5 e6 e7
            refine (HLr.out _).mono ?_
            rintro e y8 ⟨rfl, kb8⟩
            have hA8 := hA7.after kb8
            have hB8 := hB7.after kb8
            have hC8 := hC7.after kb8
            have hb8 := bel_step hb7 kb8
            clear kb8
            go_wp2
            go_meet
            case rel => exact ⟨rfl, hA8, hB8, hC8, hb8⟩
    case rest =>
      obtain ⟨rfl, hA4, hB4, hC4, hb4⟩ := hcut
      clear hA3 hB3 hC3 hb3 hL1 hLr hMa hMb q1 q2
      go_upto_region 6 with fail
      go_cut [81] from 28 (fun s wx => s = .bool false ∧ ShAt wx w.heap.size ta ∧ Below w.heap.size w wx)
      case first =>
        obtain ⟨L0, L1, L2, L3, L4, L5, L6, L7⟩ := hA4.laters
        obtain ⟨M0, M1, M2, M3, M4, M5, M6, M7⟩ := hB4.laters
        obtain ⟨N0, N1, N2, N3, N4, N5, N6, N7⟩ := hC4.laters
        cases l3 with
        | false =>
          have HL3 := Lib.hid hL3
          refine region_later (by kernel_rfl) (by kernel_rfl) ?_
          repeat (go_big_quiet_step (fail))
          go_big_quiet_step (exact later (HL3.out _))
          repeat (go_big_quiet_step (fail))
          refine wpQuiet_nil ?_
          rintro _ ⟨q, rfl⟩
          go_wp2
          go_meet
          case rel => exact ⟨rfl, hA4.after q.below, bel_step hb4 q.below⟩
        | true =>
          have HL3 := Lib.hid hL3
          cases l2 with
          | false =>
            have HL2 := Lib.hid hL2
            refine region_later (by kernel_rfl) (by kernel_rfl) ?_
            repeat (go_big_quiet_step (fail))
            go_big_quiet_step (exact later (HL3.out _))
            repeat (go_big_quiet_step (fail))
            go_big_quiet_step (exact later (HL2.out _))
            repeat (go_big_quiet_step (fail))
            refine wpQuiet_nil ?_
            rintro _ ⟨q, rfl⟩
            go_wp2
            go_meet
            case rel => exact ⟨rfl, hA4.after q.below, bel_step hb4 q.below⟩
          | true =>
            have HL2 := Lib.hid hL2
            have p5 : l4 = true := q3.out rfl rfl
            subst p5
            have HLj := Lib.hid hLj
            refine region_later (by kernel_rfl) (by kernel_rfl) ?_
            repeat (go_big_quiet_step (fail))
            go_big_quiet_step (exact later (HL3.out _))
            repeat (go_big_quiet_step (fail))
            go_big_quiet_step (exact later (HL2.out _))
            repeat (go_big_quiet_step (fail))
            go_big_quiet_step (exact later (HJ.out _))
            repeat (go_big_quiet_step (fail))
            go_big_quiet_step (exact later (HLj.out _))
            repeat (go_big_quiet_step (fail))
            refine wpQuiet_nil ?_
            rintro _ ⟨q, rfl⟩
            go_wp2
            go_meet
            case rel => exact ⟨rfl, hA4.after q.below, bel_step hb4 q.below⟩
      case rest =>
        obtain ⟨rfl, hA5, hb5⟩ := hcut
        clear hA4 hB4 hC4 hb4 hL2 hL3 HJ hLj q3
        generalize wc = W5 at *
        obtain ⟨c0, c1, c2, c3, c4, c5, c6, c7⟩ := hA5.cells
        have hX := ShAt.new W5 ta
        have hb6 := bel_alloc hb5 (.cells #[.bool ta.u, .bool ta.e, .int .u64 (wd ta.h 0 : Nat), .int .u64 (wd ta.h 1 : Nat), .int .u64 (wd ta.h 2 : Nat), .int .u64 (wd ta.h 3 : Nat), .bool ta.k, .string ta.l] 26)
        have hXw : w.heap.size ≤ W5.heap.size := hb5.size
        go_wp2
        clear c0 c1 c2 c3 c4 c5 c6 c7 hA5 hb5
        generalize W5.alloc (.cells #[.bool ta.u, .bool ta.e, .int .u64 (wd ta.h 0 : Nat), .int .u64 (wd ta.h 1 : Nat), .int .u64 (wd ta.h 2 : Nat), .int .u64 (wd ta.h 3 : Nat), .bool ta.k, .string ta.l] 26) = W6 at *
        generalize W5.heap.size = X at *
        obtain ⟨N, hN⟩ : ∃ N, min len 30 = N := ⟨_, rfl⟩
        have hN30 : N ≤ 30 := by omega
        have HN := Lib.hid hN
        clear hN
        go_loopw [14, 15, 16, 17] (fun st q _ _ wr => ∃ (qn sn : Nat) (x : Sh), qn ≤ 3 ∧ sn ≤ 30 ∧ st = .int .i64 sn ∧ q = .int .i64 qn ∧ ShAt wr X x ∧ Below w.heap.size w wr ∧ Hid (Rises f N qn 0 sn x)) (fun _ q _ _ _ => 3 - (intOf q).toNat)
        case atStart => exact ⟨0, 0, ta, by decide, by decide, rfl, rfl, hX, hb6, Lib.hid ⟨ha.out, Nat.le_refl _, fun i h => absurd h (Nat.not_lt_zero i)⟩⟩
        case round =>
          obtain ⟨qn, sn0, x0, hq3, hs30, rfl, rfl, hX7, hb7, HRi⟩ := hrel
          clear hX hb6
          by_cases hq : qn < 3
          · go_wp2
            have HQ := Lib.hid hq
            clear hq
            generalize decide (((qn : Nat) : Int) < 3) = dq
            go_loopw [14, 16, 17] (fun st i _ wr => ∃ (k sn : Nat) (x : Sh), k ≤ N ∧ sn ≤ 30 ∧ st = .int .i64 sn ∧ i = .int .i64 k ∧ ShAt wr X x ∧ Below w.heap.size w wr ∧ Hid (Rises f N qn k sn x)) (fun _ i _ _ => 30 - (intOf i).toNat)
            case atStart => exact ⟨0, sn0, x0, Nat.zero_le _, hs30, rfl, rfl, hX7, hb7, HRi⟩
            case round =>
              clear hX7 hb7 HRi hs30
              obtain ⟨k, sn, x, hkN, hs30, rfl, rfl, hX8, hb8, HRi⟩ := hrel
              by_cases hk : k < N
              · have hkl : k < len := by have := HN.out; omega
                have hk30 : k < 30 := by omega
                obtain ⟨A, Ab, Ao, As, hA0, hadd, hAb, e0, e1, e2, e3, e4, e5, e6, e7⟩ := HR.out.get hkl
                have HN2 := Lib.hid (HRi.out.next hk rfl)
                have HT := Lib.hid (Tame_is (f k))
                have HJ := Lib.hid (Join_is x (tameSh (f k)))
                have hE := run_eq_shape (joinP x (tameSh (f k))) x
                have HE8 := Lib.hid (show (w.cell? ⟨Ab, Ao, As⟩ = some (.bool (f k).u) ∧ w.cell? ⟨Ab, Ao + 1, none⟩ = some (.bool (f k).e) ∧ w.cell? ⟨Ab, Ao + 2, none⟩ = some (.int .u64 (wd (f k).h 0 : Nat)) ∧ w.cell? ⟨Ab, Ao + 3, none⟩ = some (.int .u64 (wd (f k).h 1 : Nat)) ∧ w.cell? ⟨Ab, Ao + 4, none⟩ = some (.int .u64 (wd (f k).h 2 : Nat)) ∧ w.cell? ⟨Ab, Ao + 5, none⟩ = some (.int .u64 (wd (f k).h 3 : Nat)) ∧ w.cell? ⟨Ab, Ao + 6, none⟩ = some (.bool (f k).k) ∧ w.cell? ⟨Ab, Ao + 7, none⟩ = some (.string (f k).l)) from ⟨e0, e1, e2, e3, e4, e5, e6, e7⟩)
                clear e0 e1 e2 e3 e4 e5 e6 e7
                obtain ⟨y, hy⟩ : ∃ y, joinP x (tameSh (f k)) = y := ⟨_, rfl⟩
                rw [hy] at HN2 HJ hE
                clear hy
                obtain ⟨t, ht⟩ : ∃ t, tameSh (f k) = t := ⟨_, rfl⟩
                rw [ht] at HT HJ
                clear ht
                obtain ⟨g, hg⟩ : ∃ g, f k = g := ⟨_, rfl⟩
                rw [hg] at HT HE8
                clear hg
                simp only [shV] at HT HJ hE
                have hi0 : (0 : Int) ≤ (k : Int) := by omega
                have hi1 : (k : Int) < (len : Int) := by omega
                subst hA0
                go_wp2
                go_cut [17] from 87 to 109 (fun p wx => ∃ Yb : Nat, p = .pointer (some ⟨Yb, 0, none⟩) ∧ ShAt wx Yb y ∧ wr.heap.size ≤ Yb ∧ Below wr.heap.size wr wx)
                case first =>
                  refine region_head 7 ?AA (by kernel_rfl) (by kernel_rfl) (by kernel_rfl) (by decide) (by kernel_rfl) ?hQ ?head ?tail
                  case hQ =>
                    intro c a d v w1 h
                    cases d <;> exact h
                  case head =>
                    intro x'
                    simp only [List.take_succ_cons, List.take_zero]
                    obtain ⟨L0, L1, L2, L3, L4, L5, L6, L7⟩ := (ShAt.after hX8.drew x'.below).laters
                    have hbl : ∀ y' : Later x'.at_, Below w.heap.size w y'.at_ := fun y' => bel_step (bel_step (bel_drew hb8) x'.below) y'.below
                    have M0 : ∀ y' : Later x'.at_, y'.at_.cell? ⟨Ab, Ao, As⟩ = some (.bool g.u) := fun y' => ((hbl y').cell (p := ⟨Ab, Ao, As⟩) hAb).trans HE8.out.1
                    have M1 : ∀ y' : Later x'.at_, y'.at_.cell? ⟨Ab, Ao + 1, none⟩ = some (.bool g.e) := fun y' => ((hbl y').cell (p := ⟨Ab, Ao + 1, none⟩) hAb).trans HE8.out.2.1
                    have M2 : ∀ y' : Later x'.at_, y'.at_.cell? ⟨Ab, Ao + 2, none⟩ = some (.int .u64 (wd g.h 0 : Nat)) := fun y' => ((hbl y').cell (p := ⟨Ab, Ao + 2, none⟩) hAb).trans HE8.out.2.2.1
                    have M3 : ∀ y' : Later x'.at_, y'.at_.cell? ⟨Ab, Ao + 3, none⟩ = some (.int .u64 (wd g.h 1 : Nat)) := fun y' => ((hbl y').cell (p := ⟨Ab, Ao + 3, none⟩) hAb).trans HE8.out.2.2.2.1
                    have M4 : ∀ y' : Later x'.at_, y'.at_.cell? ⟨Ab, Ao + 4, none⟩ = some (.int .u64 (wd g.h 2 : Nat)) := fun y' => ((hbl y').cell (p := ⟨Ab, Ao + 4, none⟩) hAb).trans HE8.out.2.2.2.2.1
                    have M5 : ∀ y' : Later x'.at_, y'.at_.cell? ⟨Ab, Ao + 5, none⟩ = some (.int .u64 (wd g.h 3 : Nat)) := fun y' => ((hbl y').cell (p := ⟨Ab, Ao + 5, none⟩) hAb).trans HE8.out.2.2.2.2.2.1
                    have M6 : ∀ y' : Later x'.at_, y'.at_.cell? ⟨Ab, Ao + 6, none⟩ = some (.bool g.k) := fun y' => ((hbl y').cell (p := ⟨Ab, Ao + 6, none⟩) hAb).trans HE8.out.2.2.2.2.2.2.1
                    have M7 : ∀ y' : Later x'.at_, y'.at_.cell? ⟨Ab, Ao + 7, none⟩ = some (.string g.l) := fun y' => ((hbl y').cell (p := ⟨Ab, Ao + 7, none⟩) hAb).trans HE8.out.2.2.2.2.2.2.2
                    clear hbl
                    repeat (go_big_quiet_step (fail))
                    go_big_quiet_step (exact later (HT.out _))
                    repeat (go_big_quiet_step (fail))
                    go_big_quiet_step (exact later (HJ.out _))
                    repeat (go_big_quiet_step (fail))
                    refine wpQuiet_nil ?_
                    rfl
                  case tail =>
                    change wpAnyU _ _ _ _ _ (1 + 1) _ _ _
                    refine wpAnyU_all (rs := [7]) (by kernel_rfl) (by decide) ?_
                    intro w3 h3 i hi
                    simp only [List.mem_cons, List.not_mem_nil, or_false] at hi
                    subst hi
                    refine wpOp_plain rfl rfl ?_
                    go_simp
                    refine ⟨bel_alloc h3 _, ?_⟩
                    refine wpAnyU_all (rs := [8]) (by kernel_rfl) (by decide) ?_
                    intro w4 h4 i hi
                    simp only [List.mem_cons, List.not_mem_nil, or_false] at hi
                    subst hi
                    have z4 : ShAt w4 w3.heap.size zeroSh := (ShAt.zero w3).after h4
                    have r4 : Gr wr.drew w4 := Gr.trans (bel_alloc h3 _) h4
                    have k3 : wr.heap.size ≤ w3.heap.size := h3.size
                    clear h4 h3
                    obtain ⟨d0, d1, d2, d3, d4, d5, d6, d7⟩ := z4.cells
                    obtain ⟨g0, g1, g2, g3, g4, g5, g6, g7⟩ := z4.frozens
                    refine wpOp_plain rfl rfl ?_
                    go_simp
                    have r5 := bel_putSh r4 k3 y
                    refine ⟨r5, ?_⟩
                    refine wpAnyU_done (by kernel_rfl) ?_
                    intro w6 h6
                    have x6 : ShAt w6 w3.heap.size y := (z4.put _).after h6
                    have r7 : Gr wr.drew w6 := Gr.trans r5 h6
                    clear h6 r5 r4 z4 d0 d1 d2 d3 d4 d5 d6 d7 g0 g1 g2 g3 g4 g5 g6 g7
                    go_wp2
                    go_meet
                    case rel => exact ⟨w3.heap.size, rfl, x6, k3, r7.undrew⟩
                case rest =>
                  obtain ⟨Yb, rfl, hY9, hYs, hb9⟩ := hcut
                  have hlt := hX8.lt
                  have hX9 := hX8.after hb9
                  have hb10 := bel_step hb8 hb9
                  have hne : X ≠ Yb := by omega
                  clear hX8 hb8 hb9 HT HJ HE8
                  obtain ⟨d0, d1, d2, d3, d4, d5, d6, d7⟩ := hX9.cells
                  obtain ⟨g0, g1, g2, g3, g4, g5, g6, g7⟩ := hX9.frozens
                  obtain ⟨c0, c1, c2, c3, c4, c5, c6, c7⟩ := hY9.cells
                  have hX10 := hX9.put y
                  have hb11 := bel_putSh hb10 hXw y
                  cases hsm : sameSh y x with
                  | true =>
                    rw [hsm] at hE
                    have HN3 := Lib.hid (HN2.out.2.1 hsm)
                    clear HN2 hsm HRi
                    go_wp2
                    go_round
                    case rel => exact ⟨k + 1, sn, y, by omega, hs30, rfl, rfl, hX10, hb11, HN3⟩
                    case measure => simp [intOf]; omega
                  | false =>
                    rw [hsm] at hE
                    have HN3 := Lib.hid (HN2.out.2.2 hsm).1
                    have hs31 : sn + 1 ≤ 30 := Nat.le_trans (HN2.out.2.2 hsm).2 hN30
                    clear HN2 hsm HRi
                    go_wp2
                    go_round
                    case rel => exact ⟨k + 1, sn + 1, y, by omega, hs31, by go_num, rfl, hX10, hb11, HN3⟩
                    case measure => simp [intOf]; omega
              · have hkN2 : k = N := by omega
                have HP := Lib.hid (show Rises f N (qn + 1) 0 sn x from (hkN2 ▸ HRi.out).pass)
                by_cases hkl : k < len
                · have hk30 : k = 30 := by have := HN.out; omega
                  have hq := HQ.out
                  go_wp2
                  go_round
                  case rel => exact ⟨qn + 1, sn, x, by omega, hs30, rfl, rfl, hX8, hb8, HP⟩
                  case measure => simp [intOf]; omega
                · have hq := HQ.out
                  go_wp2
                  go_round
                  case rel => exact ⟨qn + 1, sn, x, by omega, hs30, rfl, rfl, hX8, hb8, HP⟩
                  case measure => simp [intOf]; omega
          · have hs31 : (sn0 : Int) ≤ 30 := by omega
            go_wp2_with fail
            refine (HW.out _).mono ?_
            rintro e w9 ⟨rfl, hb9⟩
            go_wp2
            go_ret
            exact ⟨rfl, bel_step hb7 hb9⟩
  · simp only [shV]
    go_enter Try.func6, Try.ntmps6
    go_wp2_with fail
    refine (HW.out _).mono ?_
    rintro e w1 ⟨rfl, hb1⟩
    go_wp2
    go_ret
    exact ⟨rfl, bel_step hbA hb1⟩
end Go.Proofs.Ytboiplanipgidaa
