/-
  Contracts of package pat's bracket.set and takeAt.
-/
import Derived.Test.YtmpneifjjnfckaaPmBracket
import Derived.Test.YtmpneifjjnfckaaPmSet
import Derived.Test.YtmpneifjjnfckaaTailBase
namespace Go.Proofs.Ytmpneifjjnfckaa
open Go.RowKit

/-- the world with the set q in block b -/
def put4 (w : World) (b : Nat) (q : Nat → Bool) : World := (((w.setCell ⟨b, 0, none⟩ (.int .u64 (wd q 0 : Nat))).setCell ⟨b, 1, none⟩ (.int .u64 (wd q 1 : Nat))).setCell ⟨b, 2, none⟩ (.int .u64 (wd q 2 : Nat))).setCell ⟨b, 3, none⟩ (.int .u64 (wd q 3 : Nat))
section
variable {w w' : World} {b c : Nat} {q p : Nat → Bool}
theorem SetAt.put4 (h : SetAt w b p) (q : Nat → Bool) : SetAt (put4 w b q) b q := h.put q
theorem SetAt.put4far (h : SetAt w c p) (hne : c ≠ b) (q : Nat → Bool) : SetAt (Go.Proofs.Ytmpneifjjnfckaa.put4 w b q) c p := ((((h.far (a := ⟨b, 0, none⟩) hne _).far (a := ⟨b, 1, none⟩) hne _).far (a := ⟨b, 2, none⟩) hne _).far (a := ⟨b, 3, none⟩) hne _)
theorem BlkAt.put4far {cs : Array Value} {t : TypeId} (h : BlkAt w c cs t) (hne : c ≠ b) (q : Nat → Bool) : BlkAt (Go.Proofs.Ytmpneifjjnfckaa.put4 w b q) c cs t := ((((h.far (a := ⟨b, 0, none⟩) hne _).far (a := ⟨b, 1, none⟩) hne _).far (a := ⟨b, 2, none⟩) hne _).far (a := ⟨b, 3, none⟩) hne _)
theorem bel_put4 (h : Below w.heap.size w w') (hb : w.heap.size ≤ b) (q : Nat → Bool) : Below w.heap.size w (Go.Proofs.Ytmpneifjjnfckaa.put4 w' b q) := bel_set (bel_set (bel_set (bel_set h _ hb _) _ hb _) _ hb _) _ hb _
theorem LiveOff.put4 {L : Value} {v : List Bool} (h : LiveOff w L v b) (q : Nat → Bool) : LiveOff (Go.Proofs.Ytmpneifjjnfckaa.put4 w b q) L v b := (((h.set 0 _).set 1 _).set 2 _).set 3 _
end

/-- the bytes of a bracket -/
def bkS (t : List UInt8) (v : List Bool) (fr e : Nat) (nt : Bool) (c : Nat) : Bool := if nt then !amgo t v e c e fr false else amgo t v e c e fr false
theorem span_one (p : Nat → Bool) (x c : Nat) : spanS p x x c = (p c || decide (c = x)) := by
  unfold spanS
  congr 1
  rw [← Bool.decide_and]
  exact decide_eq_decide.2 (by omega)

set_option maxHeartbeats 16000000 in
set_option maxRecDepth 100000 in
theorem bset_is (t : ByteArray) (ht : t.size ≤ 1048576) (L : Value) (v : List Bool) (fr e : Nat) (nt : Bool) (hfe : fr ≤ e) (het : e < t.size) (w : World) (hL : LiveAt w L v) : Calls Try.prog 41 #[.agg #[.int .i64 (fr : Int), .int .i64 (e : Int), .bool nt], patV t L] w (Gives w (setV (bkS t.data.toList v fr e nt))) := by
  obtain ⟨R, hR⟩ : ∃ R, setV (bkS t.data.toList v fr e nt) = R := ⟨_, rfl⟩
  rw [hR]
  have HR := Lib.hid hR
  clear hR
  have hB := BlkAt.new w #[.int .i64 (fr : Int), .int .i64 (e : Int), .bool nt] 48
  have hb := bel_alloc (Below.refl w.heap.size w) (.cells #[.int .i64 (fr : Int), .int .i64 (e : Int), .bool nt] 48)
  obtain ⟨x1, hx1⟩ : ∃ x, w.alloc (.cells #[.int .i64 (fr : Int), .int .i64 (e : Int), .bool nt] 48) = x := ⟨_, rfl⟩
  have hs1 : x1.heap.size = w.heap.size + 1 := by rw [← hx1]; simp
  rw [hx1] at hB hb
  have hP := BlkAt.new_at x1 #[.string t, L] 25 _ hs1
  have hB := hB.alloc (.cells #[.string t, L] 25)
  have hb := bel_alloc hb (.cells #[.string t, L] 25)
  obtain ⟨x2, hx2⟩ : ∃ x, x1.alloc (.cells #[.string t, L] 25) = x := ⟨_, rfl⟩
  have hs2 : x2.heap.size = w.heap.size + 2 := by rw [← hx2]; simp [hs1]
  rw [hx2] at hB hb hP
  have hZ := SetAt.zero x2
  have hB := hB.alloc (.cells #[.int .u64 0, .int .u64 0, .int .u64 0, .int .u64 0] 57)
  have hP := hP.alloc (.cells #[.int .u64 0, .int .u64 0, .int .u64 0, .int .u64 0] 57)
  have hb := bel_alloc hb (.cells #[.int .u64 0, .int .u64 0, .int .u64 0, .int .u64 0] 57)
  obtain ⟨x3, hx3⟩ : ∃ x, x2.alloc (.cells #[.int .u64 0, .int .u64 0, .int .u64 0, .int .u64 0] 57) = x := ⟨_, rfl⟩
  have hs3 : x3.heap.size = w.heap.size + 3 := by rw [← hx3]; simp [hs2]
  rw [hx3] at hB hb hP hZ
  rw [hs2] at hZ
  have hA := SetAt.zero x3
  have hB := hB.alloc (.cells #[.int .u64 0, .int .u64 0, .int .u64 0, .int .u64 0] 57)
  have hP := hP.alloc (.cells #[.int .u64 0, .int .u64 0, .int .u64 0, .int .u64 0] 57)
  have hZ := hZ.alloc (.cells #[.int .u64 0, .int .u64 0, .int .u64 0, .int .u64 0] 57)
  have hb := bel_alloc hb (.cells #[.int .u64 0, .int .u64 0, .int .u64 0, .int .u64 0] 57)
  obtain ⟨x4, hx4⟩ : ∃ x, x3.alloc (.cells #[.int .u64 0, .int .u64 0, .int .u64 0, .int .u64 0] 57) = x := ⟨_, rfl⟩
  rw [hx4] at hB hb hP hZ hA
  rw [hs3] at hA
  have hLv := hL.after hb
  have hoff : ∀ c, w.heap.size ≤ c → ∀ w' : World, LiveAt w' L v → LiveOff w' L v c := fun c hc w' h => LiveOff.move (hL.off c hc) h
  have HX := Lib.hid (And.intro hx1 (And.intro hx2 (And.intro hx3 hx4)))
  clear hx1 hx2 hx3 hx4 hL hs1 hs2 hs3
  unfold patV
  go_enter Try.func41, Try.ntmps41
  go_upto_region 2 with fail
  rw [HX.out.1, HX.out.2.1, HX.out.2.2.1, HX.out.2.2.2]
  clear HX
  have c0 := hB.cell 0 (v := .int .i64 (fr : Int)) rfl
  go_wp2
  clear c0
  go_loopw [6] (fun i wr => ∃ (k : Nat) (p : Nat → Bool), fr ≤ k ∧ k ≤ e ∧ i = .int .i64 (k : Int) ∧ SetAt wr (w.heap.size + 3) p ∧ SetAt wr (w.heap.size + 2) noS ∧ BlkAt wr w.heap.size #[.int .i64 (fr : Int), .int .i64 (e : Int), .bool nt] 48 ∧ BlkAt wr (w.heap.size + 1) #[.string t, L] 25 ∧ LiveAt wr L v ∧ Below w.heap.size w wr ∧ Hid (∀ c, ∃ n, e ≤ k + n ∧ amgo t.data.toList v e c n k (p c) = amgo t.data.toList v e c e fr false)) (fun i _ => e - (intOf i).toNat)
  case atStart => exact ⟨fr, noS, Nat.le_refl _, hfe, rfl, hA, hZ, hB, hP, hLv, hb, Lib.hid fun c => ⟨e, by omega, rfl⟩⟩
  case round =>
    clear hA hZ hB hP hLv hb
    obtain ⟨k, p, hk0, hke, rfl, hA, hZ, hB, hP, hLv, hb, HN⟩ := hrel
    have b1 := hB.cell 1 (v := .int .i64 (e : Int)) rfl
    have c0 := hP.cell 0 (v := .string t) rfl
    have c1 := hP.cell 1 (v := L) rfl
    by_cases hk : k < e
    · have hkt : k < t.size := by omega
      have hki : (k : Int) < (t.size : Int) := by omega
      have hk00 : (0 : Int) ≤ (k : Int) := by omega
      have HY := Lib.hid (byt_at t k hkt)
      have hlt : t[k].toNat < 256 := t[k].toNat_lt
      obtain ⟨lo, hlo⟩ : ∃ lo, t[k].toNat = lo := ⟨_, rfl⟩
      rw [hlo] at HY hlt
      obtain ⟨k1, hk1⟩ : ∃ k1, k + 1 = k1 := ⟨_, rfl⟩
      obtain ⟨k2, hk2⟩ : ∃ k2, k + 2 = k2 := ⟨_, rfl⟩
      obtain ⟨k3, hk3⟩ : ∃ k3, k + 3 = k3 := ⟨_, rfl⟩
      have E1 : (k : Int) + 1 = (k1 : Int) := by omega
      have E2 : (k : Int) + 2 = (k2 : Int) := by omega
      have E3 : (k2 : Int) + 1 = (k3 : Int) := by omega
      have HK := Lib.hid (And.intro hk1 (And.intro hk2 hk3))
      have hk1m : k1 ≤ 1048577 := by omega
      have hk2m : k2 ≤ 1048578 := by omega
      have HWo := Lib.hid (pwith_is p lo lo hlt hlt)
      simp only [setV] at HWo
      by_cases h2 : k2 < e
      · have h2i : (k2 : Int) < (e : Int) := by omega
        have HI := Lib.hid (means_is t L v k1 45)
        obtain ⟨z, hz⟩ : ∃ z, isB t.data.toList v k1 45 = z := ⟨_, rfl⟩
        rw [hz] at HI
        have HZz := Lib.hid hz
        clear hz hk1 hk2 hk3
        unfold patV at HI
        have HS : Hid (∀ c, ∃ n, e ≤ k + 1 + n ∧ amgo t.data.toList v e c n (if z then k + 3 else k + 1) (p c || if z then (decide (lo ≤ c) && decide (c ≤ byt t.data.toList k2)) else decide (c = lo)) = amgo t.data.toList v e c e fr false) := Lib.hid fun c => by
          obtain ⟨n, hn, he⟩ := HN.out c
          obtain ⟨m, hm, ha⟩ := amgo_step (t := t.data.toList) (v := v) (e := e) (c := c) (n := n) (k := k) (f := p c) hk hn
          refine ⟨m, by omega, ?_⟩
          have h2e : k + 2 < e := by have := HK.out; omega
          rw [← he, ha, if_pos h2e, HK.out.1, HZz.out, HK.out.2.1, HY.out]
          cases z <;> rfl
        clear HN
        go_wp2
        go_region
        have hA := hA.drew
        have hZ := hZ.drew
        have hB := hB.drew
        have hP := hP.drew
        have hLv : LiveAt wr.drew L v := hLv
        have hb := bel_drew hb
        go_wp2_with fail
        refine (HI.out _ hLv).mono ?_
        rintro ending w1 ⟨rfl, hb1⟩
        have hA1 := hA.after hb1
        have hZ1 := hZ.after hb1
        have hB1 := hB.after hb1
        have hP1 := hP.after hb1
        have hL1 := hLv.after hb1
        have hb2 := bel_step hb hb1
        clear hA hZ hB hP hLv hb hb1 b1 c0 c1 HI
        have c0 := hP1.cell 0 (v := .string t) rfl
        obtain ⟨a0, a1, a2, a3⟩ := hA1.cells
        cases z with
        | false =>
          clear hlo
          go_wp2_with fail
          refine (HWo.out _).mono ?_
          rintro ending w3 ⟨rfl, hb3⟩
          have hA4 := hA1.after hb3
          have hZ4 := hZ1.after hb3
          have hB4 := hB1.after hb3
          have hP4 := hP1.after hb3
          have hL4 := hL1.after hb3
          have hb4 := bel_step hb2 hb3
          clear hA1 hZ1 hB1 hP1 hL1 hb2 hb3 a0 a1 a2 a3 c0
          obtain ⟨a0, a1, a2, a3⟩ := hA4.cells
          have g0 := hA4.frozen 0
          have g1 := hA4.frozen 1
          have g2 := hA4.frozen 2
          have g3 := hA4.frozen 3
          have hA5 := hA4.put4 (spanS p lo lo)
          have hZ5 := hZ4.put4far (b := w.heap.size + 3) (by omega) (spanS p lo lo)
          have hB5 := hB4.put4far (b := w.heap.size + 3) (by omega) (spanS p lo lo)
          have hP5 := hP4.put4far (b := w.heap.size + 3) (by omega) (spanS p lo lo)
          have hL5 := ((hoff (w.heap.size + 3) (by omega) w3 hL4).put4 (spanS p lo lo)).at_
          have hb5 := bel_put4 hb4 (b := w.heap.size + 3) (by omega) (spanS p lo lo)
          have HH := Lib.hid (And.intro hA5 (And.intro hZ5 (And.intro hB5 (And.intro hP5 (And.intro hL5 hb5)))))
          clear hA5 hZ5 hB5 hP5 hL5 hb5 hA4 hZ4 hB4 hP4 hL4 hb4
          go_wp2
          go_round
          case rel => exact ⟨k1, spanS p lo lo, by have := HK.out; omega, by have := HK.out; omega, rfl, HH.out.1, HH.out.2.1, HH.out.2.2.1, HH.out.2.2.2.1, HH.out.2.2.2.2.1, HH.out.2.2.2.2.2, Lib.hid fun c => by
            obtain ⟨n, hn, he⟩ := HS.out c
            simp only [Bool.false_eq_true, if_false] at he
            rw [span_one, ← HK.out.1]
            exact ⟨n, hn, he⟩⟩
          case measure => have := HK.out; simp [intOf]; omega
        | true =>
          have hkt2 : k2 < t.size := by omega
          have hki2 : (k2 : Int) < (t.size : Int) := by omega
          have hk002 : (0 : Int) ≤ (k2 : Int) := by omega
          have HY2 := Lib.hid (byt_at t k2 hkt2)
          have hlt2 : t[k2].toNat < 256 := t[k2].toNat_lt
          obtain ⟨hi, hhi⟩ : ∃ hi, t[k2].toNat = hi := ⟨_, rfl⟩
          rw [hhi] at HY2 hlt2
          have HWt := Lib.hid (pwith_is p lo hi hlt hlt2)
          simp only [setV] at HWt
          clear HWo
          go_wp2_with fail
          refine (HWt.out _).mono ?_
          rintro ending w3 ⟨rfl, hb3⟩
          have hA4 := hA1.after hb3
          have hZ4 := hZ1.after hb3
          have hB4 := hB1.after hb3
          have hP4 := hP1.after hb3
          have hL4 := hL1.after hb3
          have hb4 := bel_step hb2 hb3
          clear hA1 hZ1 hB1 hP1 hL1 hb2 hb3 a0 a1 a2 a3 c0
          obtain ⟨a0, a1, a2, a3⟩ := hA4.cells
          have g0 := hA4.frozen 0
          have g1 := hA4.frozen 1
          have g2 := hA4.frozen 2
          have g3 := hA4.frozen 3
          have hA5 := hA4.put4 (spanS p lo hi)
          have hZ5 := hZ4.put4far (b := w.heap.size + 3) (by omega) (spanS p lo hi)
          have hB5 := hB4.put4far (b := w.heap.size + 3) (by omega) (spanS p lo hi)
          have hP5 := hP4.put4far (b := w.heap.size + 3) (by omega) (spanS p lo hi)
          have hL5 := ((hoff (w.heap.size + 3) (by omega) w3 hL4).put4 (spanS p lo hi)).at_
          have hb5 := bel_put4 hb4 (b := w.heap.size + 3) (by omega) (spanS p lo hi)
          have HH := Lib.hid (And.intro hA5 (And.intro hZ5 (And.intro hB5 (And.intro hP5 (And.intro hL5 hb5)))))
          clear hA5 hZ5 hB5 hP5 hL5 hb5 hA4 hZ4 hB4 hP4 hL4 hb4
          go_wp2
          go_round
          case rel => exact ⟨k3, spanS p lo hi, by have := HK.out; omega, by have := HK.out; omega, rfl, HH.out.1, HH.out.2.1, HH.out.2.2.1, HH.out.2.2.2.1, HH.out.2.2.2.2.1, HH.out.2.2.2.2.2, Lib.hid fun c => by
            obtain ⟨n, hn, he⟩ := HS.out c
            simp only [if_true] at he
            rw [HY2.out] at he
            rw [← HK.out.2.2]
            exact ⟨n, by omega, he⟩⟩
          case measure => have := HK.out; simp [intOf]; omega
      · have h2i : ¬ (k2 : Int) < (e : Int) := by omega
        have h2d : decide ((k2 : Int) < (e : Int)) = false := decide_eq_false h2i
        clear hk1 hk2 hk3
        have HS : Hid (∀ c, ∃ n, e ≤ k + 1 + n ∧ amgo t.data.toList v e c n (k + 1) (p c || decide (c = lo)) = amgo t.data.toList v e c e fr false) := Lib.hid fun c => by
          obtain ⟨n, hn, he⟩ := HN.out c
          obtain ⟨m, hm, ha⟩ := amgo_step (t := t.data.toList) (v := v) (e := e) (c := c) (n := n) (k := k) (f := p c) hk hn
          refine ⟨m, by omega, ?_⟩
          have h2e : ¬ k + 2 < e := by have := HK.out; omega
          rw [← he, ha, if_neg h2e, HY.out]
          rfl
        clear HN
        obtain ⟨a0, a1, a2, a3⟩ := hA.cells
        have hA1 := hA
        have hZ1 := hZ
        have hB1 := hB
        have hP1 := hP
        have hL1 := hLv
        have hb2 := hb
        clear hA hZ hB hP hLv hb
        go_wp2
        go_region
        have hA1 := hA1.drew
        have hZ1 := hZ1.drew
        have hB1 := hB1.drew
        have hP1 := hP1.drew
        have hL1 : LiveAt wr.drew L v := hL1
        have hb2 := bel_drew hb2
        go_wp2_with fail
        refine (HWo.out _).mono ?_
        rintro ending w3 ⟨rfl, hb3⟩
        have hA4 := hA1.after hb3
        have hZ4 := hZ1.after hb3
        have hB4 := hB1.after hb3
        have hP4 := hP1.after hb3
        have hL4 := hL1.after hb3
        have hb4 := bel_step hb2 hb3
        clear hA1 hZ1 hB1 hP1 hL1 hb2 hb3 a0 a1 a2 a3 b1 c0 c1
        obtain ⟨a0, a1, a2, a3⟩ := hA4.cells
        have g0 := hA4.frozen 0
        have g1 := hA4.frozen 1
        have g2 := hA4.frozen 2
        have g3 := hA4.frozen 3
        have hA5 := hA4.put4 (spanS p lo lo)
        have hZ5 := hZ4.put4far (b := w.heap.size + 3) (by omega) (spanS p lo lo)
        have hB5 := hB4.put4far (b := w.heap.size + 3) (by omega) (spanS p lo lo)
        have hP5 := hP4.put4far (b := w.heap.size + 3) (by omega) (spanS p lo lo)
        have hL5 := ((hoff (w.heap.size + 3) (by omega) w3 hL4).put4 (spanS p lo lo)).at_
        have hb5 := bel_put4 hb4 (b := w.heap.size + 3) (by omega) (spanS p lo lo)
        have HH := Lib.hid (And.intro hA5 (And.intro hZ5 (And.intro hB5 (And.intro hP5 (And.intro hL5 hb5)))))
        clear hA5 hZ5 hB5 hP5 hL5 hb5 hA4 hZ4 hB4 hP4 hL4 hb4
        go_wp2
        go_round
        case rel => exact ⟨k1, spanS p lo lo, by have := HK.out; omega, by have := HK.out; omega, rfl, HH.out.1, HH.out.2.1, HH.out.2.2.1, HH.out.2.2.2.1, HH.out.2.2.2.2.1, HH.out.2.2.2.2.2, Lib.hid fun c => by
          obtain ⟨n, hn, he⟩ := HS.out c
          rw [span_one, ← HK.out.1]
          exact ⟨n, hn, he⟩⟩
        case measure => have := HK.out; simp [intOf]; omega
    · have hek : k = e := by omega
      subst hek
      have HE : Hid (∀ c, p c = amgo t.data.toList v k c k fr false) := Lib.hid fun c => by
        obtain ⟨n, _, he⟩ := HN.out c
        rw [amgo_end (Nat.le_refl _)] at he
        exact he
      clear HN
      have b2 := hB.cell 2 (v := .bool nt) rfl
      obtain ⟨a0, a1, a2, a3⟩ := hA.cells
      cases nt with
      | true =>
        have HT := Lib.hid (pwithout_is p)
        simp only [setV] at HT
        have hE : setV (notS p) = R := by
          rw [← HR.out]
          exact setV_congr fun c _ => by unfold notS bkS; rw [HE.out c]; rfl
        have HQ := Lib.hid hE
        clear hE HR HE
        go_wp2_with fail
        refine (HT.out _).mono ?_
        rintro ending w1 ⟨rfl, hb1⟩
        have hZ1 := hZ.after hb1
        have hb2 := bel_step hb hb1
        clear hA hZ hB hP hLv hb hb1 b1 b2 c0 c1 HT a0 a1 a2 a3
        obtain ⟨a0, a1, a2, a3⟩ := hZ1.cells
        have g0 := hZ1.frozen 0
        have g1 := hZ1.frozen 1
        have g2 := hZ1.frozen 2
        have g3 := hZ1.frozen 3
        go_wp2
        refine bodyPost_ret (v := setV (notS p)) ?_ rfl ⟨congrArg Ending.returned HQ.out, bel_put4 hb2 (b := w.heap.size + 2) (by omega) (notS p)⟩
        exact results_cell_row rfl _ _ _ _ _ _ _ rfl (hZ1.put (notS p)) Try.underlying57 rfl (by kernel_rfl)
      | false =>
        have hE : setV p = R := by
          rw [← HR.out]
          exact setV_congr fun c _ => by unfold bkS; rw [HE.out c]; rfl
        have HQ := Lib.hid hE
        clear hE HR HE
        obtain ⟨z0, z1, z2, z3⟩ := hZ.cells
        have g0 := hZ.frozen 0
        have g1 := hZ.frozen 1
        have g2 := hZ.frozen 2
        have g3 := hZ.frozen 3
        go_wp2
        refine bodyPost_ret (v := setV p) ?_ rfl ⟨congrArg Ending.returned HQ.out, bel_put4 hb (b := w.heap.size + 2) (by omega) p⟩
        exact results_cell_row rfl _ _ _ _ _ _ _ rfl (hZ.put p) Try.underlying57 rfl (by kernel_rfl)
end Go.Proofs.Ytmpneifjjnfckaa
