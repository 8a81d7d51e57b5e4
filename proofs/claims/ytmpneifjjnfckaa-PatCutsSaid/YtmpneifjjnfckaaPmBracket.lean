/-
  The contract of package pat's bracketAt.
-/
import Derived.Test.YtmpneifjjnfckaaPmMeans
import Derived.Laws.ResultCell
import Derived.Laws.Rows
namespace Go.Proofs.Ytmpneifjjnfckaa
open Go.RowKit

theorem results_row_tmp {P : Program} {fn : Func} {p u : Tmp} {ty : TypeId} (h : fn.results = #[.cell p ty, .tmp u]) (tmps : Array Value) (w : World) (g : Nat) (t : TypeId) (cs : Array Value) (fr : Nat × Nat) (d : TypeDesc) (x : Value)
    (hx : tmps.getD u undef = x) (hp : tmps.getD p undef = .pointer (some ⟨g, 0, none⟩)) (hg : w.heap[g]? = some (.cells cs t fr))
    (hu : P.underlying ty = some d) (hd : (match d with | .struct _ | .array _ _ => true | _ => false) = true) (hi : (P.info? ty).map (·.size) = some cs.size) :
    (results fn tmps).run P w = .ok (.tuple #[.agg cs, x]) w := by
  rw [results_cell_tmp h, hp, hx]
  simp [asAddr, Result.andThen, run_loadVar_row w g t ty cs fr d hg hu hd hi]
theorem LiveOff.move {w w' : World} {L : Value} {v : List Bool} {c : Nat} (h : LiveOff w L v c) (k : LiveAt w' L v) : LiveOff w' L v c := by
  obtain ⟨ao, cap, h1, h2, h3⟩ := h
  obtain ⟨ao', cap', k1, k2, k3⟩ := k
  rw [h1] at k1
  injection k1 with e1 e2 e3
  subst e1
  refine ⟨ao, cap, h1, h2, fun j x hj => ?_⟩
  obtain ⟨b, o, g1, g2, _⟩ := h3 j x hj
  obtain ⟨b', o', q1, q2⟩ := k3 j x hj
  rw [g1] at q1
  injection q1 with q1
  injection q1 with q3 q4
  subst q3; subst q4
  exact ⟨b, o, g1, g2, q2⟩

theorem lastI_hit {t : List UInt8} {v : List Bool} : ∀ {n : Nat}, 0 ≤ lastI t v n → isB t v (lastI t v n).toNat 93 = true ∧ lastI t v n < (n : Int)
  | 0, h => by simp [lastI] at h
  | n + 1, h => by
    unfold lastI at h ⊢
    cases hz : isB t v n 93 with
    | true => simp only [if_true, Int.toNat_natCast]; exact ⟨hz, by omega⟩
    | false =>
      rw [hz] at h
      simp only [Bool.false_eq_true, if_false] at h ⊢
      have := lastI_hit h
      exact ⟨this.1, by omega⟩
theorem lastI_max {t : List UInt8} {v : List Bool} : ∀ {n e : Nat}, e < n → isB t v e 93 = true → (e : Int) ≤ lastI t v n
  | 0, _, h, _ => by omega
  | n + 1, e, h, hz => by
    unfold lastI
    cases hn : isB t v n 93 with
    | true => simp only [if_true]; omega
    | false =>
      simp only [Bool.false_eq_true, if_false]
      have : e ≠ n := fun he => by rw [he, hn] at hz; cases hz
      exact lastI_max (by omega) hz
theorem seekB_none {t : List UInt8} {v : List Bool} : ∀ {n k : Nat}, (∀ e, k ≤ e → isB t v e 93 = false) → seekB t v n k = none
  | 0, _, _ => rfl
  | n + 1, k, h => by
    rw [seekB, h k (Nat.le_refl _)]
    simp only [Bool.false_eq_true, if_false]
    exact seekB_none fun e he => h e (by omega)
theorem brB_eq (t : List UInt8) (v : List Bool) (i : Nat) : brB t v i = if isB t v i 91 then (if isB t v (i + 1) 33 then seekB t v (t.length - (i + 3)) (i + 3) else seekB t v (t.length - (i + 2)) (i + 2)) else none := rfl

/-- where the bytes of a bracket begin -/
def bkF (t : List UInt8) (v : List Bool) (i : Nat) : Nat := if isB t v (i + 1) 33 then i + 2 else i + 1
def bkV (t : List UInt8) (v : List Bool) (i : Nat) : Value := match brB t v i with
  | some e => .tuple #[.agg #[.int .i64 (bkF t v i : Nat), .int .i64 (e : Nat), .bool (isB t v (i + 1) 33)], .bool true]
  | none => .tuple #[.agg #[.int .i64 0, .int .i64 0, .bool false], .bool false]

set_option maxHeartbeats 16000000 in
set_option maxRecDepth 100000 in
theorem bracketAt_is (t : ByteArray) (ht : t.size ≤ 1048576) (L : Value) (v : List Bool) (i : Nat) (hi : i ≤ 1048576) (w : World) (hL : LiveAt w L v) : Calls Try.prog 24 #[patV t L, .int .i64 (i : Int), .int .i64 (lastI t.data.toList v t.size)] w (Gives w (bkV t.data.toList v i)) := by
  obtain ⟨wA, hwA, hb, hP⟩ := lay_pat w t L
  have hLA := hL.after hb
  clear hL
  obtain ⟨lst, hlst⟩ : ∃ lst, lastI t.data.toList v t.size = lst := ⟨_, rfl⟩
  rw [hlst]
  have HLst := Lib.hid hlst
  clear hlst
  have hsA : wA.heap.size = w.heap.size + 1 := by rw [← hwA]; simp
  have hZ := BlkAt.new_at wA #[.int .i64 0, .int .i64 0, .bool false] 48 _ hsA
  have hP0 := hP.alloc (.cells #[.int .i64 0, .int .i64 0, .bool false] 48)
  have hb0 := bel_alloc hb (.cells #[.int .i64 0, .int .i64 0, .bool false] 48)
  have hL0 := hLA.after (bel_alloc (Below.refl _ wA) (.cells #[.int .i64 0, .int .i64 0, .bool false] 48))
  obtain ⟨w0, hw0⟩ : ∃ w0, wA.alloc (.cells #[.int .i64 0, .int .i64 0, .bool false] 48) = w0 := ⟨_, rfl⟩
  have hs0 : w0.heap.size = w.heap.size + 2 := by rw [← hw0]; simp [hsA]
  rw [hw0] at hZ hP0 hb0 hL0
  have HI1 := Lib.hid (means_is t L v i 91)
  obtain ⟨f1, hf1⟩ : ∃ f, i + 1 = f := ⟨_, rfl⟩
  obtain ⟨f2, hf2⟩ : ∃ f, i + 2 = f := ⟨_, rfl⟩
  obtain ⟨f3, hf3⟩ : ∃ f, i + 3 = f := ⟨_, rfl⟩
  have E1 : (i : Int) + 1 = (f1 : Int) := by omega
  have E2 : (f1 : Int) + 1 = (f2 : Int) := by omega
  have E3 : (f2 : Int) + 1 = (f3 : Int) := by omega
  have HI2 := Lib.hid (means_is t L v f1 33)
  obtain ⟨z1, hz1⟩ : ∃ z, isB t.data.toList v i 91 = z := ⟨_, rfl⟩
  obtain ⟨z2, hz2⟩ : ∃ z, isB t.data.toList v f1 33 = z := ⟨_, rfl⟩
  rw [hz1] at HI1
  rw [hz2] at HI2
  have Z1 := Lib.hid hz1
  have Z2 := Lib.hid hz2
  have HF := Lib.hid (And.intro hf1 (And.intro hf2 hf3))
  have hf9 : f3 ≤ 1048579 := by omega
  have hf8 : f2 ≤ 1048578 := by omega
  have hf7 : f1 ≤ 1048577 := by omega
  clear hz1 hz2 hb hP hLA hf1 hf2 hf3
  have c0 := hP0.cell 0 (v := .string t) rfl
  have c1 := hP0.cell 1 (v := L) rfl
  unfold patV at HI1 HI2 ⊢
  have HW := Lib.hid hw0
  have HA := Lib.hid hwA
  clear hw0 hwA
  go_enter Try.func24, Try.ntmps24
  go_upto_region 1 with fail
  rw [HA.out, HW.out]
  go_wp2_with fail
  refine (HI1.out _ hL0).mono ?_
  rintro e w1 ⟨rfl, hb1⟩
  have hs1 : w0.heap.size ≤ w1.heap.size := hb1.size
  have hb2 := bel_step hb0 hb1
  have hP1 := hP0.after hb1
  have hZ1 := hZ.after hb1
  have hL1 := hL0.after hb1
  clear hb0 hb1 hP0 hZ hL0 c0 c1 HI1 HA HW
  cases z1 with
  | false =>
    have HV : Hid (bkV t.data.toList v i = .tuple #[.agg #[.int .i64 0, .int .i64 0, .bool false], .bool false]) := Lib.hid (by
      unfold bkV
      rw [brB_eq, Z1.out]
      simp only [Bool.false_eq_true, if_false])
    have e0 := hZ1.cell 0 (v := .int .i64 0) rfl
    have e1 := hZ1.cell 1 (v := .int .i64 0) rfl
    have e2 := hZ1.cell 2 (v := .bool false) rfl
    have g0 := hZ1.frozen 0
    have g1 := hZ1.frozen 1
    have g2 := hZ1.frozen 2
    have hZ7 : BlkAt (((w1.setCell ⟨w.heap.size + 1, 0, none⟩ (.int .i64 0)).setCell ⟨w.heap.size + 1, 1, none⟩ (.int .i64 0)).setCell ⟨w.heap.size + 1, 2, none⟩ (.bool false)) (w.heap.size + 1) #[.int .i64 0, .int .i64 0, .bool false] 48 := ((hZ1.set 0 _).set 1 _).set 2 _
    have hb7 := bel_set (bel_set (bel_set hb2 ⟨w.heap.size + 1, 0, none⟩ (Nat.le_succ _) (.int .i64 0)) ⟨w.heap.size + 1, 1, none⟩ (Nat.le_succ _) (.int .i64 0)) ⟨w.heap.size + 1, 2, none⟩ (Nat.le_succ _) (.bool false)
    have HZ7 := Lib.hid hZ7
    have HB7 := Lib.hid hb7
    clear hZ7 hb7 hZ1 hb2 hP1 hL1
    go_wp2
    refine bodyPost_ret (v := .tuple #[.agg #[.int .i64 0, .int .i64 0, .bool false], .bool false]) ?_ rfl ⟨by rw [HV.out], HB7.out⟩
    exact results_row_tmp rfl _ _ _ _ _ _ _ _ rfl rfl HZ7.out Try.underlying48 rfl (by kernel_rfl)
  | true =>
    have hL6off : ∀ w' : World, LiveAt w' L v → LiveOff w' L v w1.heap.size := fun w' h => LiveOff.move (hL1.off w1.heap.size (Nat.le_refl _)) h
    have hB2 := BlkAt.new w1 #[.int .i64 (f1 : Int), .int .i64 0, .bool false] 48
    have hb3 := bel_alloc hb2 (.cells #[.int .i64 (f1 : Int), .int .i64 0, .bool false] 48)
    have hP2 := hP1.alloc (.cells #[.int .i64 (f1 : Int), .int .i64 0, .bool false] 48)
    have hZ2 := hZ1.alloc (.cells #[.int .i64 (f1 : Int), .int .i64 0, .bool false] 48)
    have hL2 := hL1.after (bel_alloc (Below.refl _ w1) (.cells #[.int .i64 (f1 : Int), .int .i64 0, .bool false] 48))
    clear hb2 hP1 hZ1 hL1
    have c0 := hP2.cell 0 (v := .string t) rfl
    have c1 := hP2.cell 1 (v := L) rfl
    go_wp2_with fail
    refine (HI2.out _ hL2).mono ?_
    rintro e w2 ⟨rfl, hb4⟩
    have HLl : Hid (lst < (t.size : Int)) := Lib.hid (by
      by_cases h : 0 ≤ lst
      · have h1 := (lastI_hit (t := t.data.toList) (v := v) (n := t.size) (by rw [HLst.out]; omega)).2
        rw [HLst.out] at h1
        exact h1
      · omega)
    have hb5 := bel_step hb3 hb4
    have hB5 := hB2.after hb4
    have hP5 := hP2.after hb4
    have hZ5 := hZ2.after hb4
    have hL5 := hL2.after hb4
    clear hb3 hb4 hB2 hP2 hZ2 hL2 c0 c1 HI2
    have d0 := hB5.cell 0 (v := .int .i64 (f1 : Int)) rfl
    have d1 := hB5.cell 1 (v := .int .i64 0) rfl
    have d2 := hB5.cell 2 (v := .bool false) rfl
    have q0 := hB5.frozen 0
    have q1 := hB5.frozen 1
    have q2 := hB5.frozen 2
    cases z2 with
    | false =>
      obtain ⟨w3, hw3⟩ : ∃ w3, w2.setCell ⟨w1.heap.size, 1, none⟩ (.int .i64 (f2 : Int)) = w3 := ⟨_, rfl⟩
      have hB3 : BlkAt w3 w1.heap.size #[.int .i64 (f1 : Int), .int .i64 (f2 : Int), .bool false] 48 := by rw [← hw3]; exact hB5.set 1 _
      have hP3 : BlkAt w3 w.heap.size #[.string t, L] 25 := by rw [← hw3]; exact hP5.far (by show w.heap.size ≠ w1.heap.size; omega) _
      have hZ3 : BlkAt w3 (w.heap.size + 1) #[.int .i64 0, .int .i64 0, .bool false] 48 := by rw [← hw3]; exact hZ5.far (by show w.heap.size + 1 ≠ w1.heap.size; omega) _
      have hL3 : LiveAt w3 L v := by rw [← hw3]; exact ((hL6off w2 hL5).set 1 _).at_
      have hb3 : Below w.heap.size w w3 := by rw [← hw3]; exact bel_set hb5 _ (by show w.heap.size ≤ w1.heap.size; omega) _
      have HW3 := Lib.hid hw3
      clear hw3
      go_upto_region 8 with fail
      rw [HW3.out]
      clear hB5 hP5 hZ5 hL5 hb5 d0 d1 d2 q0 q1 q2
      have d1 := hB3.cell 1 (v := .int .i64 (f2 : Int)) rfl
      by_cases hlast : (f2 : Int) ≤ lst
      · have hlt : ¬ lst < (f2 : Int) := by omega
        have hlt2 : decide (lst < (f2 : Int)) = false := decide_eq_false hlt
        go_wp2
        go_loopw [38] (fun _ wr => ∃ k : Nat, f2 ≤ k ∧ (k : Int) ≤ lst ∧ BlkAt wr w1.heap.size #[.int .i64 (f1 : Int), .int .i64 (k : Int), .bool false] 48 ∧ BlkAt wr w.heap.size #[.string t, L] 25 ∧ BlkAt wr (w.heap.size + 1) #[.int .i64 0, .int .i64 0, .bool false] 48 ∧ LiveAt wr L v ∧ Below w.heap.size w wr ∧ Hid (seekB t.data.toList v (t.size - k) k = seekB t.data.toList v (t.size - f2) f2)) (fun _ wr => (lst + 1 - intOf ((wr.cell? ⟨w1.heap.size, 1, none⟩).getD undef)).toNat)
        case atStart => exact ⟨f2, Nat.le_refl _, hlast, hB3, hP3, hZ3, hL3, hb3, Lib.hid rfl⟩
        case round =>
          clear hB3 hP3 hZ3 hL3 hb3 hlast hlt hlt2
          obtain ⟨k, hk0, hkl, hB4, hP4, hZ4, hL4, hb4, HS⟩ := hrel
          have c0 := hP4.cell 0 (v := .string t) rfl
          have c1 := hP4.cell 1 (v := L) rfl
          have d1 := hB4.cell 1 (v := .int .i64 (k : Int)) rfl
          have HC := Lib.hid (means_is t L v k 93)
          obtain ⟨z3, hz3⟩ : ∃ z3, isB t.data.toList v k 93 = z3 := ⟨_, rfl⟩
          rw [hz3] at HC
          have HZ3 := Lib.hid hz3
          clear hz3
          unfold patV at HC
          have HD1 := Lib.hid d1
          obtain ⟨k1, hk1⟩ : ∃ k1, k + 1 = k1 := ⟨_, rfl⟩
          have EK : (k : Int) + 1 = (k1 : Int) := by omega
          have HK1 := Lib.hid hk1
          clear hk1
          have hkm : k ≤ 1048576 := by have := HLl.out; omega
          go_wp2_with fail
          refine (HC.out _ hL4).mono ?_
          rintro e w5 ⟨rfl, hb5⟩
          have hb6 := bel_step hb4 hb5
          have hB6 := hB4.after hb5
          have hP6 := hP4.after hb5
          have hZ6 := hZ4.after hb5
          have hL6 := hL4.after hb5
          clear hb4 hb5 hB4 hP4 hZ4 hL4 c0 c1 d1 HC
          have d0 := hB6.cell 0 (v := .int .i64 (f1 : Int)) rfl
          have d1 := hB6.cell 1 (v := .int .i64 (k : Int)) rfl
          have d2 := hB6.cell 2 (v := .bool false) rfl
          have fz1 := hB6.frozen 1
          cases z3 with
          | true =>
            have hV : seekB t.data.toList v (t.size - f2) f2 = some k := by
              rw [← HS.out]
              have := isB_lt HZ3.out
              rw [len_list] at this
              obtain ⟨m, hm⟩ : ∃ m, t.size - k = m + 1 := ⟨t.size - k - 1, by omega⟩
              rw [hm, seekB, HZ3.out]; rfl
            have HV : Hid (bkV t.data.toList v i = .tuple #[.agg #[.int .i64 (f1 : Int), .int .i64 (k : Int), .bool false], .bool true]) := Lib.hid (by
              unfold bkV bkF
              rw [brB_eq, Z1.out, HF.out.1, Z2.out, HF.out.2.1, HF.out.2.2]
              simp only [if_true, Bool.false_eq_true, if_false, len_list, hV])
            clear hV
            have e0 := hZ6.cell 0 (v := .int .i64 0) rfl
            have e1 := hZ6.cell 1 (v := .int .i64 0) rfl
            have e2 := hZ6.cell 2 (v := .bool false) rfl
            have g0 := hZ6.frozen 0
            have g1 := hZ6.frozen 1
            have g2 := hZ6.frozen 2
            have hZ7 : BlkAt (((w5.setCell ⟨w.heap.size + 1, 0, none⟩ (.int .i64 (f1 : Int))).setCell ⟨w.heap.size + 1, 1, none⟩ (.int .i64 (k : Int))).setCell ⟨w.heap.size + 1, 2, none⟩ (.bool false)) (w.heap.size + 1) #[.int .i64 (f1 : Int), .int .i64 (k : Int), .bool false] 48 := ((hZ6.set 0 _).set 1 _).set 2 _
            have hb7 := bel_set (bel_set (bel_set hb6 ⟨w.heap.size + 1, 0, none⟩ (Nat.le_succ _) (.int .i64 (f1 : Int))) ⟨w.heap.size + 1, 1, none⟩ (Nat.le_succ _) (.int .i64 (k : Int))) ⟨w.heap.size + 1, 2, none⟩ (Nat.le_succ _) (.bool false)
            have HZ7 := Lib.hid hZ7
            have HB7 := Lib.hid hb7
            clear hZ7 hb7 hb6 hB6 hP6 hZ6 hL6
            go_wp2
            refine bodyPost_ret (v := .tuple #[.agg #[.int .i64 (f1 : Int), .int .i64 (k : Int), .bool false], .bool true]) ?_ rfl ⟨by rw [HV.out], HB7.out⟩
            exact results_row_tmp rfl _ _ _ _ _ _ _ _ rfl rfl HZ7.out Try.underlying48 rfl (by kernel_rfl)
          | false =>
            have hne : (k : Int) ≠ lst := fun he => by
              have h1 := (lastI_hit (t := t.data.toList) (v := v) (n := t.size) (by rw [HLst.out]; omega)).1
              rw [HLst.out, ← he, Int.toNat_natCast, HZ3.out] at h1
              cases h1
            have hll : lst < (t.size : Int) := by
              have h1 := (lastI_hit (t := t.data.toList) (v := v) (n := t.size) (by rw [HLst.out]; omega)).2
              rw [HLst.out] at h1
              exact h1
            have HS2 : Hid (seekB t.data.toList v (t.size - k1) k1 = seekB t.data.toList v (t.size - f2) f2) := Lib.hid (by
              rw [← HS.out]
              obtain ⟨m, hm⟩ : ∃ m, t.size - k = m + 1 := ⟨t.size - k - 1, by omega⟩
              rw [hm, seekB, HZ3.out, ← HK1.out, show t.size - (k + 1) = m by omega]; rfl)
            have hB7 : BlkAt (w5.setCell ⟨w1.heap.size, 1, none⟩ (.int .i64 (k1 : Int))) w1.heap.size #[.int .i64 (f1 : Int), .int .i64 (k1 : Int), .bool false] 48 := hB6.set 1 _
            have hP7 := hP6.far (a := ⟨w1.heap.size, 1, none⟩) (by show w.heap.size ≠ w1.heap.size; omega) (.int .i64 (k1 : Int))
            have hZ7 := hZ6.far (a := ⟨w1.heap.size, 1, none⟩) (by show w.heap.size + 1 ≠ w1.heap.size; omega) (.int .i64 (k1 : Int))
            have hL7 := (hL6off w5 hL6).set 1 (.int .i64 (k1 : Int))
            have hb7 := bel_set hb6 ⟨w1.heap.size, 1, none⟩ (by show w.heap.size ≤ w1.heap.size; omega) (.int .i64 (k1 : Int))
            have hm7 : ((w5.setCell ⟨w1.heap.size, 1, none⟩ (.int .i64 (k1 : Int))).cell? ⟨w1.heap.size, 1, none⟩).getD undef = .int .i64 (k1 : Int) := by rw [hB7.cell 1 (v := .int .i64 (k1 : Int)) rfl]; rfl
            have HH := Lib.hid (And.intro hB7 (And.intro hP7 (And.intro hZ7 (And.intro hL7.at_ (And.intro hb7 hm7)))))
            clear hB7 hP7 hZ7 hL7 hb7 hm7 hB6 hP6 hZ6 hL6 hb6
            go_wp2
            go_roundw
            case rel => exact ⟨k1, by omega, by have := HK1.out; omega, HH.out.1, HH.out.2.1, HH.out.2.2.1, HH.out.2.2.2.1, HH.out.2.2.2.2.1, HS2⟩
            case measure =>
              rw [HD1.out, HH.out.2.2.2.2.2]
              simp [intOf]
              omega
      · have hlt : lst < (f2 : Int) := by omega
        have hlt2 : decide (lst < (f2 : Int)) = true := decide_eq_true hlt
        have HV : Hid (bkV t.data.toList v i = .tuple #[.agg #[.int .i64 0, .int .i64 0, .bool false], .bool false]) := Lib.hid (by
          have hN : seekB t.data.toList v (t.size - f2) f2 = none := seekB_none fun e he => by
            rw [Bool.eq_false_iff]
            intro hz
            have h1 := isB_lt hz
            rw [len_list] at h1
            have h2 := lastI_max (n := t.size) h1 hz
            rw [HLst.out] at h2
            omega
          unfold bkV
          rw [brB_eq, Z1.out, HF.out.1, Z2.out, HF.out.2.1, HF.out.2.2]
          simp only [if_true, Bool.false_eq_true, if_false, len_list, hN])
        have e0 := hZ3.cell 0 (v := .int .i64 0) rfl
        have e1 := hZ3.cell 1 (v := .int .i64 0) rfl
        have e2 := hZ3.cell 2 (v := .bool false) rfl
        have g0 := hZ3.frozen 0
        have g1 := hZ3.frozen 1
        have g2 := hZ3.frozen 2
        have hZ7 : BlkAt (((w3.setCell ⟨w.heap.size + 1, 0, none⟩ (.int .i64 0)).setCell ⟨w.heap.size + 1, 1, none⟩ (.int .i64 0)).setCell ⟨w.heap.size + 1, 2, none⟩ (.bool false)) (w.heap.size + 1) #[.int .i64 0, .int .i64 0, .bool false] 48 := ((hZ3.set 0 _).set 1 _).set 2 _
        have hb7 := bel_set (bel_set (bel_set hb3 ⟨w.heap.size + 1, 0, none⟩ (Nat.le_succ _) (.int .i64 0)) ⟨w.heap.size + 1, 1, none⟩ (Nat.le_succ _) (.int .i64 0)) ⟨w.heap.size + 1, 2, none⟩ (Nat.le_succ _) (.bool false)
        have HZ7 := Lib.hid hZ7
        have HB7 := Lib.hid hb7
        clear hZ7 hb7 hZ3 hb3 hP3 hL3 hB3
        go_wp2
        refine bodyPost_ret (v := .tuple #[.agg #[.int .i64 0, .int .i64 0, .bool false], .bool false]) ?_ rfl ⟨by rw [HV.out], HB7.out⟩
        exact results_row_tmp rfl _ _ _ _ _ _ _ _ rfl rfl HZ7.out Try.underlying48 rfl (by kernel_rfl)
    | true =>
      obtain ⟨w3, hw3⟩ : ∃ w3, ((w2.setCell ⟨w1.heap.size, 0, none⟩ (.int .i64 (f2 : Int))).setCell ⟨w1.heap.size, 2, none⟩ (.bool true)).setCell ⟨w1.heap.size, 1, none⟩ (.int .i64 (f3 : Int)) = w3 := ⟨_, rfl⟩
      have hB3 : BlkAt w3 w1.heap.size #[.int .i64 (f2 : Int), .int .i64 (f3 : Int), .bool true] 48 := by rw [← hw3]; exact ((hB5.set 0 _).set 2 _).set 1 _
      have hP3 : BlkAt w3 w.heap.size #[.string t, L] 25 := by rw [← hw3]; exact ((hP5.far (by show w.heap.size ≠ w1.heap.size; omega) _).far (by show w.heap.size ≠ w1.heap.size; omega) _).far (by show w.heap.size ≠ w1.heap.size; omega) _
      have hZ3 : BlkAt w3 (w.heap.size + 1) #[.int .i64 0, .int .i64 0, .bool false] 48 := by rw [← hw3]; exact ((hZ5.far (by show w.heap.size + 1 ≠ w1.heap.size; omega) _).far (by show w.heap.size + 1 ≠ w1.heap.size; omega) _).far (by show w.heap.size + 1 ≠ w1.heap.size; omega) _
      have hL3 : LiveAt w3 L v := by rw [← hw3]; exact ((((hL6off w2 hL5).set 0 _).set 2 _).set 1 _).at_
      have hb3 : Below w.heap.size w w3 := by rw [← hw3]; exact bel_set (bel_set (bel_set hb5 _ (by show w.heap.size ≤ w1.heap.size; omega) _) _ (by show w.heap.size ≤ w1.heap.size; omega) _) _ (by show w.heap.size ≤ w1.heap.size; omega) _
      have HW3 := Lib.hid hw3
      clear hw3
      go_upto_region 8 with fail
      rw [HW3.out]
      clear hB5 hP5 hZ5 hL5 hb5 d0 d1 d2 q0 q1 q2
      have d1 := hB3.cell 1 (v := .int .i64 (f3 : Int)) rfl
      by_cases hlast : (f3 : Int) ≤ lst
      · have hlt : ¬ lst < (f3 : Int) := by omega
        have hlt2 : decide (lst < (f3 : Int)) = false := decide_eq_false hlt
        go_wp2
        go_loopw [38] (fun _ wr => ∃ k : Nat, f3 ≤ k ∧ (k : Int) ≤ lst ∧ BlkAt wr w1.heap.size #[.int .i64 (f2 : Int), .int .i64 (k : Int), .bool true] 48 ∧ BlkAt wr w.heap.size #[.string t, L] 25 ∧ BlkAt wr (w.heap.size + 1) #[.int .i64 0, .int .i64 0, .bool false] 48 ∧ LiveAt wr L v ∧ Below w.heap.size w wr ∧ Hid (seekB t.data.toList v (t.size - k) k = seekB t.data.toList v (t.size - f3) f3)) (fun _ wr => (lst + 1 - intOf ((wr.cell? ⟨w1.heap.size, 1, none⟩).getD undef)).toNat)
        case atStart => exact ⟨f3, Nat.le_refl _, hlast, hB3, hP3, hZ3, hL3, hb3, Lib.hid rfl⟩
        case round =>
          clear hB3 hP3 hZ3 hL3 hb3 hlast hlt hlt2
          obtain ⟨k, hk0, hkl, hB4, hP4, hZ4, hL4, hb4, HS⟩ := hrel
          have c0 := hP4.cell 0 (v := .string t) rfl
          have c1 := hP4.cell 1 (v := L) rfl
          have d1 := hB4.cell 1 (v := .int .i64 (k : Int)) rfl
          have HC := Lib.hid (means_is t L v k 93)
          obtain ⟨z3, hz3⟩ : ∃ z3, isB t.data.toList v k 93 = z3 := ⟨_, rfl⟩
          rw [hz3] at HC
          have HZ3 := Lib.hid hz3
          clear hz3
          unfold patV at HC
          have HD1 := Lib.hid d1
          obtain ⟨k1, hk1⟩ : ∃ k1, k + 1 = k1 := ⟨_, rfl⟩
          have EK : (k : Int) + 1 = (k1 : Int) := by omega
          have HK1 := Lib.hid hk1
          clear hk1
          have hkm : k ≤ 1048576 := by have := HLl.out; omega
          go_wp2_with fail
          refine (HC.out _ hL4).mono ?_
          rintro e w5 ⟨rfl, hb5⟩
          have hb6 := bel_step hb4 hb5
          have hB6 := hB4.after hb5
          have hP6 := hP4.after hb5
          have hZ6 := hZ4.after hb5
          have hL6 := hL4.after hb5
          clear hb4 hb5 hB4 hP4 hZ4 hL4 c0 c1 d1 HC
          have d0 := hB6.cell 0 (v := .int .i64 (f2 : Int)) rfl
          have d1 := hB6.cell 1 (v := .int .i64 (k : Int)) rfl
          have d2 := hB6.cell 2 (v := .bool true) rfl
          have fz1 := hB6.frozen 1
          cases z3 with
          | true =>
            have hV : seekB t.data.toList v (t.size - f3) f3 = some k := by
              rw [← HS.out]
              have := isB_lt HZ3.out
              rw [len_list] at this
              obtain ⟨m, hm⟩ : ∃ m, t.size - k = m + 1 := ⟨t.size - k - 1, by omega⟩
              rw [hm, seekB, HZ3.out]; rfl
            have HV : Hid (bkV t.data.toList v i = .tuple #[.agg #[.int .i64 (f2 : Int), .int .i64 (k : Int), .bool true], .bool true]) := Lib.hid (by
              unfold bkV bkF
              rw [brB_eq, Z1.out, HF.out.1, Z2.out, HF.out.2.1, HF.out.2.2]
              simp only [if_true, len_list, hV])
            clear hV
            have e0 := hZ6.cell 0 (v := .int .i64 0) rfl
            have e1 := hZ6.cell 1 (v := .int .i64 0) rfl
            have e2 := hZ6.cell 2 (v := .bool false) rfl
            have g0 := hZ6.frozen 0
            have g1 := hZ6.frozen 1
            have g2 := hZ6.frozen 2
            have hZ7 : BlkAt (((w5.setCell ⟨w.heap.size + 1, 0, none⟩ (.int .i64 (f2 : Int))).setCell ⟨w.heap.size + 1, 1, none⟩ (.int .i64 (k : Int))).setCell ⟨w.heap.size + 1, 2, none⟩ (.bool true)) (w.heap.size + 1) #[.int .i64 (f2 : Int), .int .i64 (k : Int), .bool true] 48 := ((hZ6.set 0 _).set 1 _).set 2 _
            have hb7 := bel_set (bel_set (bel_set hb6 ⟨w.heap.size + 1, 0, none⟩ (Nat.le_succ _) (.int .i64 (f2 : Int))) ⟨w.heap.size + 1, 1, none⟩ (Nat.le_succ _) (.int .i64 (k : Int))) ⟨w.heap.size + 1, 2, none⟩ (Nat.le_succ _) (.bool true)
            have HZ7 := Lib.hid hZ7
            have HB7 := Lib.hid hb7
            clear hZ7 hb7 hb6 hB6 hP6 hZ6 hL6
            go_wp2
            refine bodyPost_ret (v := .tuple #[.agg #[.int .i64 (f2 : Int), .int .i64 (k : Int), .bool true], .bool true]) ?_ rfl ⟨by rw [HV.out], HB7.out⟩
            exact results_row_tmp rfl _ _ _ _ _ _ _ _ rfl rfl HZ7.out Try.underlying48 rfl (by kernel_rfl)
          | false =>
            have hne : (k : Int) ≠ lst := fun he => by
              have h1 := (lastI_hit (t := t.data.toList) (v := v) (n := t.size) (by rw [HLst.out]; omega)).1
              rw [HLst.out, ← he, Int.toNat_natCast, HZ3.out] at h1
              cases h1
            have hll : lst < (t.size : Int) := by
              have h1 := (lastI_hit (t := t.data.toList) (v := v) (n := t.size) (by rw [HLst.out]; omega)).2
              rw [HLst.out] at h1
              exact h1
            have HS2 : Hid (seekB t.data.toList v (t.size - k1) k1 = seekB t.data.toList v (t.size - f3) f3) := Lib.hid (by
              rw [← HS.out]
              obtain ⟨m, hm⟩ : ∃ m, t.size - k = m + 1 := ⟨t.size - k - 1, by omega⟩
              rw [hm, seekB, HZ3.out, ← HK1.out, show t.size - (k + 1) = m by omega]; rfl)
            have hB7 : BlkAt (w5.setCell ⟨w1.heap.size, 1, none⟩ (.int .i64 (k1 : Int))) w1.heap.size #[.int .i64 (f2 : Int), .int .i64 (k1 : Int), .bool true] 48 := hB6.set 1 _
            have hP7 := hP6.far (a := ⟨w1.heap.size, 1, none⟩) (by show w.heap.size ≠ w1.heap.size; omega) (.int .i64 (k1 : Int))
            have hZ7 := hZ6.far (a := ⟨w1.heap.size, 1, none⟩) (by show w.heap.size + 1 ≠ w1.heap.size; omega) (.int .i64 (k1 : Int))
            have hL7 := (hL6off w5 hL6).set 1 (.int .i64 (k1 : Int))
            have hb7 := bel_set hb6 ⟨w1.heap.size, 1, none⟩ (by show w.heap.size ≤ w1.heap.size; omega) (.int .i64 (k1 : Int))
            have hm7 : ((w5.setCell ⟨w1.heap.size, 1, none⟩ (.int .i64 (k1 : Int))).cell? ⟨w1.heap.size, 1, none⟩).getD undef = .int .i64 (k1 : Int) := by rw [hB7.cell 1 (v := .int .i64 (k1 : Int)) rfl]; rfl
            have HH := Lib.hid (And.intro hB7 (And.intro hP7 (And.intro hZ7 (And.intro hL7.at_ (And.intro hb7 hm7)))))
            clear hB7 hP7 hZ7 hL7 hb7 hm7 hB6 hP6 hZ6 hL6 hb6
            go_wp2
            go_roundw
            case rel => exact ⟨k1, by omega, by have := HK1.out; omega, HH.out.1, HH.out.2.1, HH.out.2.2.1, HH.out.2.2.2.1, HH.out.2.2.2.2.1, HS2⟩
            case measure =>
              rw [HD1.out, HH.out.2.2.2.2.2]
              simp [intOf]
              omega
      · have hlt : lst < (f3 : Int) := by omega
        have hlt2 : decide (lst < (f3 : Int)) = true := decide_eq_true hlt
        have HV : Hid (bkV t.data.toList v i = .tuple #[.agg #[.int .i64 0, .int .i64 0, .bool false], .bool false]) := Lib.hid (by
          have hN : seekB t.data.toList v (t.size - f3) f3 = none := seekB_none fun e he => by
            rw [Bool.eq_false_iff]
            intro hz
            have h1 := isB_lt hz
            rw [len_list] at h1
            have h2 := lastI_max (n := t.size) h1 hz
            rw [HLst.out] at h2
            omega
          unfold bkV
          rw [brB_eq, Z1.out, HF.out.1, Z2.out, HF.out.2.1, HF.out.2.2]
          simp only [if_true, len_list, hN])
        have e0 := hZ3.cell 0 (v := .int .i64 0) rfl
        have e1 := hZ3.cell 1 (v := .int .i64 0) rfl
        have e2 := hZ3.cell 2 (v := .bool false) rfl
        have g0 := hZ3.frozen 0
        have g1 := hZ3.frozen 1
        have g2 := hZ3.frozen 2
        have hZ7 : BlkAt (((w3.setCell ⟨w.heap.size + 1, 0, none⟩ (.int .i64 0)).setCell ⟨w.heap.size + 1, 1, none⟩ (.int .i64 0)).setCell ⟨w.heap.size + 1, 2, none⟩ (.bool false)) (w.heap.size + 1) #[.int .i64 0, .int .i64 0, .bool false] 48 := ((hZ3.set 0 _).set 1 _).set 2 _
        have hb7 := bel_set (bel_set (bel_set hb3 ⟨w.heap.size + 1, 0, none⟩ (Nat.le_succ _) (.int .i64 0)) ⟨w.heap.size + 1, 1, none⟩ (Nat.le_succ _) (.int .i64 0)) ⟨w.heap.size + 1, 2, none⟩ (Nat.le_succ _) (.bool false)
        have HZ7 := Lib.hid hZ7
        have HB7 := Lib.hid hb7
        clear hZ7 hb7 hZ3 hb3 hP3 hL3 hB3
        go_wp2
        refine bodyPost_ret (v := .tuple #[.agg #[.int .i64 0, .int .i64 0, .bool false], .bool false]) ?_ rfl ⟨by rw [HV.out], HB7.out⟩
        exact results_row_tmp rfl _ _ _ _ _ _ _ _ rfl rfl HZ7.out Try.underlying48 rfl (by kernel_rfl)
end Go.Proofs.Ytmpneifjjnfckaa
