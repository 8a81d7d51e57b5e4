/-
  Sets in memory: a block that holds a set; how two sets are held against each other; the contracts of set.Within, set.Range, set.All.
-/
import Derived.Test.YtboiplanipgidaaSet
import Derived.ChangeKeysEq
namespace Go.Proofs.Ytboiplanipgidaa
open Go.RowKit

theorem cells_u64 : Try.prog.cellsOf 22 = 1 := by kernel_rfl

set_option maxHeartbeats 1000000 in
theorem run_eq_words (x0 x1 x2 x3 y0 y1 y2 y3 : Int) (w : World) :
    (Op.equalIn 10000 24 (.agg #[.int .u64 x0, .int .u64 x1, .int .u64 x2, .int .u64 x3]) (.agg #[.int .u64 y0, .int .u64 y1, .int .u64 y2, .int .u64 y3])).run Try.prog w = .ok ((x0 == y0) && ((x1 == y1) && ((x2 == y2) && (x3 == y3)))) w := by
  obtain ⟨i, hi⟩ := info_of_underlying Try.underlying22
  rw [run_equalIn_array w 9999 _ _ Try.underlying24 hi, cells_u64, show List.range 4 = [0, 1, 2, 3] from rfl]
  have hp : ∀ (a b c d : Int) (w : World), (part 22 #[.int .u64 a, .int .u64 b, .int .u64 c, .int .u64 d] 0).run Try.prog w = .ok (.int .u64 a) w ∧ (part 22 #[.int .u64 a, .int .u64 b, .int .u64 c, .int .u64 d] 1).run Try.prog w = .ok (.int .u64 b) w ∧ (part 22 #[.int .u64 a, .int .u64 b, .int .u64 c, .int .u64 d] 2).run Try.prog w = .ok (.int .u64 c) w ∧ (part 22 #[.int .u64 a, .int .u64 b, .int .u64 c, .int .u64 d] 3).run Try.prog w = .ok (.int .u64 d) w := by
    intro a b c d w
    exact ⟨by kernel_rfl, by kernel_rfl, by kernel_rfl, by kernel_rfl⟩
  have q0 := fun a b c d w => (hp a b c d w).1
  have q1 := fun a b c d w => (hp a b c d w).2.1
  have q2 := fun a b c d w => (hp a b c d w).2.2.1
  have q3 := fun a b c d w => (hp a b c d w).2.2.2
  cases h0 : x0 == y0 <;> cases h1 : x1 == y1 <;> cases h2 : x2 == y2 <;> cases h3 : x3 == y3 <;>
    simp only [Op.eqItems, Nat.mul_one, Sem.run_bind, q0, q1, q2, q3, Result.andThen_ok, run_equalIn_int _ 9998 _ _ _ _ _ Try.underlying22, h0, h1, h2, h3, Bool.not_true, Bool.not_false, Bool.false_eq_true, if_true, if_false, Sem.run_pure, Bool.and_true, Bool.and_false]

theorem run_eq_set (p q : Nat → Bool) (w : World) : (Op.equalIn 10000 24 (setV p) (setV q)).run Try.prog w = .ok (sameS p q) w := by
  unfold setV
  rw [run_eq_words]
  congr 1
  unfold sameS
  have e : ∀ a b : Nat, ((a : Int) == (b : Int)) = decide (a = b) := fun a b => by
    rw [Bool.eq_iff_iff, beq_iff_eq, decide_eq_true_eq]; exact Int.ofNat_inj
  rw [e, e, e, e]

theorem setV_no : setV noS = .agg #[.int .u64 0, .int .u64 0, .int .u64 0, .int .u64 0] := by unfold setV; rw [wd_no, wd_no, wd_no, wd_no]; rfl

/-- block b holds the set p -/
def SetAt (w : World) (b : Nat) (p : Nat → Bool) : Prop := w.heap[b]? = some (.cells #[.int .u64 (wd p 0 : Nat), .int .u64 (wd p 1 : Nat), .int .u64 (wd p 2 : Nat), .int .u64 (wd p 3 : Nat)] 24 (0, 0))

section
variable {w w' : World} {b : Nat} {p q : Nat → Bool}
theorem SetAt.lt (h : SetAt w b p) : b < w.heap.size := by
  rcases Nat.lt_or_ge b w.heap.size with hlt | hge
  · exact hlt
  · unfold SetAt at h; rw [Array.getElem?_eq_none hge] at h; cases h
theorem SetAt.cells (h : SetAt w b p) : w.cell? ⟨b, 0, none⟩ = some (.int .u64 (wd p 0 : Nat)) ∧ w.cell? ⟨b, 1, none⟩ = some (.int .u64 (wd p 1 : Nat)) ∧ w.cell? ⟨b, 2, none⟩ = some (.int .u64 (wd p 2 : Nat)) ∧ w.cell? ⟨b, 3, none⟩ = some (.int .u64 (wd p 3 : Nat)) :=
  ⟨cell_of_row w b 0 _ _ _ h, cell_of_row w b 1 _ _ _ h, cell_of_row w b 2 _ _ _ h, cell_of_row w b 3 _ _ _ h⟩
theorem SetAt.frozen (h : SetAt w b p) (i : Nat) : w.frozen? ⟨b, i, none⟩ = false := by
  unfold SetAt at h
  simp [World.frozen?, h]
theorem SetAt.alloc (h : SetAt w b p) (o : Obj) : SetAt (w.alloc o) b p := (Below.heap_alloc w o b h.lt).trans h
theorem SetAt.drew (h : SetAt w b p) : SetAt w.drew b p := h
theorem SetAt.below {B : Nat} (h : SetAt w b p) (hb : Below B w w') (hB : b < B) : SetAt w' b p := (hb.block b hB).trans h
theorem SetAt.after (h : SetAt w b p) (hb : Below w.heap.size w w') : SetAt w' b p := h.below hb h.lt
theorem SetAt.far (h : SetAt w b p) {a : Addr} (ha : b ≠ a.block) (u : Value) : SetAt (w.setCell a u) b p := (Below.heap_setCell w a u b ha).trans h
theorem SetAt.put (h : SetAt w b p) (q : Nat → Bool) : SetAt ((((w.setCell ⟨b, 0, none⟩ (.int .u64 (wd q 0 : Nat))).setCell ⟨b, 1, none⟩ (.int .u64 (wd q 1 : Nat))).setCell ⟨b, 2, none⟩ (.int .u64 (wd q 2 : Nat))).setCell ⟨b, 3, none⟩ (.int .u64 (wd q 3 : Nat))) b q := by
  unfold SetAt at *
  simp [World.setCell, Array.getElem?_modify, h]
theorem SetAt.new (w : World) (p : Nat → Bool) : SetAt (w.alloc (.cells #[.int .u64 (wd p 0 : Nat), .int .u64 (wd p 1 : Nat), .int .u64 (wd p 2 : Nat), .int .u64 (wd p 3 : Nat)] 24)) w.heap.size p := heap_alloc_new w _
theorem SetAt.zero (w : World) : SetAt (w.alloc (.cells #[.int .u64 0, .int .u64 0, .int .u64 0, .int .u64 0] 24)) w.heap.size noS := by
  have h := SetAt.new w noS
  rw [wd_no, wd_no, wd_no, wd_no] at h
  exact h
end

set_option maxHeartbeats 1000000 in
set_option maxRecDepth 100000 in
theorem Within_is (p q : Nat → Bool) (w : World) :
    Calls Try.prog 36 #[setV p, setV q] w (Gives w (.bool (subS p q))) := by
  have hL := Lib.hid (Less_is p q)
  have hE := run_eq_set (lessS p q) noS
  rw [setV_no] at hE
  have hS : Hid (subS p q = sameS (lessS p q) noS) := Lib.hid rfl
  unfold setV at hL hE ⊢
  generalize sameS (lessS p q) noS = z at *
  go_enter Try.func36, Try.ntmps36
  go_wp2_with fail
  refine (hL.out _).mono ?_
  rintro e w' ⟨rfl, hb⟩
  go_wp2
  go_ret
  exact ⟨by rw [hS.out]; rfl, bel_step (bel_alloc (bel_alloc (Below.refl _ _) _) _) hb⟩

set_option maxHeartbeats 2000000 in
set_option maxRecDepth 100000 in
theorem Range_is (lo hi : Int) (w : World) :
    Calls Try.prog 52 #[.int .i64 lo, .int .i64 hi] w (Gives w (setV (rangeS lo hi))) := by
  by_cases h : hi < lo
  · go_enter Try.func52, Try.ntmps52
    go_wp2
    refine bodyPost_ret (v := setV noS) ?_ rfl ⟨congrArg Ending.returned (setV_congr fun c _ => by unfold rangeS noS; rw [decide_eq_false (by omega)]; rfl), bel_alloc (bel_alloc (Below.refl _ _) _) _⟩
    rw [setV_no]
    simp [results, Try.results52, go_sem]
  · obtain ⟨l, hl⟩ : ∃ l, heldI lo = l := ⟨_, rfl⟩
    obtain ⟨r, hr⟩ : ∃ r, heldI hi = r := ⟨_, rfl⟩
    have l1 := heldI_le lo
    have r1 := heldI_le hi
    have lr : l ≤ r := by unfold heldI at hl hr; omega
    rw [hl] at l1
    rw [hr] at r1
    have HL := Lib.hid hl
    have HR := Lib.hid hr
    clear hl hr
    go_enter Try.func52, Try.ntmps52
    go_wp2_with fail
    refine (held_is _ _).mono ?_
    rintro e w' ⟨rfl, rfl⟩
    rw [HL.out]
    go_wp2
    go_loopw [6] (fun i wr => ∃ (k : Nat) (p : Nat → Bool), l ≤ k ∧ k ≤ r + 1 ∧ i = .int .i64 k ∧ SetAt wr (w.heap.size + 1) p ∧ SetAt wr w.heap.size noS ∧ Below w.heap.size w wr ∧ Hid (∀ c, p c = (decide (l ≤ c) && decide (c < k)))) (fun i _ => 256 - (intOf i).toNat)
    case atStart =>
      have h1 := SetAt.zero (w.alloc (.cells #[.int .u64 0, .int .u64 0, .int .u64 0, .int .u64 0] 24))
      simp at h1
      exact ⟨l, noS, Nat.le_refl _, by omega, rfl, h1, (SetAt.zero w).alloc _, bel_alloc (bel_alloc (Below.refl _ _) _) _, Lib.hid fun c => by
        unfold noS
        by_cases hc : l ≤ c
        · rw [decide_eq_false (show ¬ c < l by omega), Bool.and_false]
        · rw [decide_eq_false hc, Bool.false_and]⟩
    case round =>
      obtain ⟨k, p, hlk, hkr, rfl, hp, hz, hb, HP⟩ := hrel
      obtain ⟨c0, c1, c2, c3⟩ := hp.cells
      have hbs := hb.size
      go_wp2_with fail
      refine (held_is _ _).mono ?_
      rintro e w' ⟨rfl, rfl⟩
      rw [HR.out]
      by_cases hk : k ≤ r
      · have hW := with_is p k (by omega)
        unfold setV at hW
        go_wp2_with fail
        refine (hW _).mono ?_
        rintro e w1 ⟨rfl, hb1⟩
        clear hW
        have hp1 := hp.after hb1
        have hz1 := hz.after hb1
        obtain ⟨d0, d1, d2, d3⟩ := hp1.cells
        have g0 := hp1.frozen 0
        have g1 := hp1.frozen 1
        have g2 := hp1.frozen 2
        have g3 := hp1.frozen 3
        go_wp2
        go_round
        case rel =>
          refine ⟨k + 1, putS p k, by omega, by omega, rfl, hp1.put _, (((hz1.far (by simp) _).far (by simp) _).far (by simp) _).far (by simp) _, bel_set (bel_set (bel_set (bel_set (bel_step hb hb1) _ (by simp) _) _ (by simp) _) _ (by simp) _) _ (by simp) _, Lib.hid fun c => ?_⟩
          unfold putS
          rw [HP.out]
          by_cases h1 : c = k
          · subst h1; simp [hlk]
          · have h2 : (c < k + 1) = (c < k) := by apply propext; omega
            simp [h1, h2]
        case measure => simp [intOf]; omega
      · have hk2 : k = r + 1 := by omega
        have g0 := hz.frozen 0
        have g1 := hz.frozen 1
        have g2 := hz.frozen 2
        have g3 := hz.frozen 3
        obtain ⟨d0, d1, d2, d3⟩ := hz.cells
        go_wp2
        refine bodyPost_ret (v := setV p) ?_ rfl ⟨congrArg Ending.returned (setV_congr fun c _ => ?_), bel_set (bel_set (bel_set (bel_set hb _ (by simp) _) _ (by simp) _) _ (by simp) _) _ (by simp) _⟩
        · exact results_cell_row rfl _ _ _ _ _ _ _ rfl (hz.put p) Try.underlying24 rfl (by kernel_rfl)
        · rw [HP.out]
          unfold rangeS
          rw [HL.out, HR.out, decide_eq_true h, Bool.true_and, hk2]
          have h2 : (c < r + 1) = (c ≤ r) := by apply propext; omega
          simp only [h2]

set_option maxHeartbeats 1000000 in
theorem All_is (w : World) : Calls Try.prog 38 #[] w (Gives w (setV (rangeS 1 255))) := by
  have hR := Lib.hid (Range_is 1 255)
  unfold setV at hR ⊢
  go_enter Try.func38, Try.ntmps38
  go_wp2_with fail
  refine (hR.out _).mono ?_
  rintro e w1 ⟨rfl, hb1⟩
  have hz1 := (SetAt.zero w).after hb1
  obtain ⟨d0, d1, d2, d3⟩ := hz1.cells
  have g0 := hz1.frozen 0
  have g1 := hz1.frozen 1
  have g2 := hz1.frozen 2
  have g3 := hz1.frozen 3
  go_wp2
  refine bodyPost_ret (v := setV (rangeS 1 255)) ?_ rfl ⟨rfl, bel_set (bel_set (bel_set (bel_set (bel_step (bel_alloc (Below.refl _ _) _) hb1) _ (by simp) _) _ (by simp) _) _ (by simp) _) _ (by simp) _⟩
  exact results_cell_row rfl _ _ _ _ _ _ _ rfl (hz1.put _) Try.underlying24 rfl (by kernel_rfl)
end Go.Proofs.Ytboiplanipgidaa
