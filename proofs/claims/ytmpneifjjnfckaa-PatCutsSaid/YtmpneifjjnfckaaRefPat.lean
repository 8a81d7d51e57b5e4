/-
  Contracts of the document's answers to layer pat (conchref1: live, is, bracket, among, Active): each returns what the plain functions of PatPlain say; of the memory that was there nothing has turned.
-/
import Derived.Test.YtmpneifjjnfckaaBase
import Derived.Test.YtmpneifjjnfckaaPatPlain
namespace Go.Proofs.Ytmpneifjjnfckaa
open Go.RowKit

/-- a slice that reads as these bools -/
def LiveAt (w : World) (L : Value) (v : List Bool) : Prop :=
  ∃ (ao : Option Addr) (cap : Nat), L = .slice ao v.length cap ∧ v.length ≤ maxLen ∧ ∀ (j : Nat) (x : Bool), v[j]? = some x → ∃ b o, ao = some ⟨b, o, none⟩ ∧ w.cell? ⟨b, o + j, none⟩ = some (.bool x)

theorem cell_after {w w' : World} {a : Addr} {u : Value} (h : w.cell? a = some u) (hb : Below w.heap.size w w') : w'.cell? a = some u := by
  have hlt : a.block < w.heap.size := by
    rcases Nat.lt_or_ge a.block w.heap.size with hlt | hge
    · exact hlt
    · have : w.heap[a.block]? = none := Array.getElem?_eq_none hge
      simp [World.cell?, this] at h
  unfold World.cell? at *
  rw [hb.block a.block hlt]
  exact h
theorem LiveAt.after {w w' : World} {L : Value} {v : List Bool} (h : LiveAt w L v) (hb : Below w.heap.size w w') : LiveAt w' L v := by
  obtain ⟨ao, cap, rfl, hl, hc⟩ := h
  refine ⟨ao, cap, rfl, hl, fun j x hj => ?_⟩
  obtain ⟨b, o, ha, h1⟩ := hc j x hj
  exact ⟨b, o, ha, cell_after h1 hb⟩

def patV (t : ByteArray) (L : Value) : Value := .agg #[.string t, L]

set_option maxHeartbeats 1000000 in
set_option maxRecDepth 100000 in
theorem refLive_is (t : ByteArray) (L : Value) (v : List Bool) (i : Nat) (w : World) (hL : LiveAt w L v) : Calls Try.prog 35 #[patV t L, .int .i64 (i : Int)] w (Gives w (.bool (livB v i))) := by
  have hb := bel_alloc (Below.refl w.heap.size w) (.cells #[.string t, L] 25)
  have hLA := hL.after hb
  have hP := BlkAt.new w #[.string t, L] 25
  obtain ⟨wA, hwA⟩ : ∃ wA, w.alloc (.cells #[.string t, L] 25) = wA := ⟨_, rfl⟩
  rw [hwA] at hb hLA hP
  clear hL
  obtain ⟨ao, cap, rfl, hl, hc⟩ := hLA
  have c1 := hP.cell 1 (v := .slice ao v.length cap) rfl
  unfold patV
  unfold maxLen at hl
  by_cases hi : i < v.length
  · obtain ⟨x, hx⟩ : ∃ x, v[i]? = some x := ⟨_, List.getElem?_eq_getElem hi⟩
    obtain ⟨b, o, rfl, hcell⟩ := hc i x hx
    have HV : Hid (livB v i = x) := Lib.hid (by unfold livB; rw [List.getD_eq_getElem?_getD, hx]; rfl)
    generalize v.length = n at *
    clear hc hx
    have HB := Lib.hid hb
    clear hb
    go_enter Try.func35, Try.ntmps35
    go_wp2
    go_ret
    exact ⟨by rw [HV.out]; rfl, HB.out⟩
  · have HV : Hid (livB v i = false) := Lib.hid (by unfold livB; rw [List.getD_eq_getElem?_getD, List.getElem?_eq_none (by omega)]; rfl)
    have h2 : decide ((i : Int) < (v.length : Int)) = false := decide_eq_false (by omega)
    generalize v.length = n at *
    clear hc
    have HB := Lib.hid hb
    clear hb
    go_enter Try.func35, Try.ntmps35
    go_wp2
    go_ret
    exact ⟨by rw [HV.out]; rfl, HB.out⟩
-- by gen_refpat.py from here on
theorem byt_at (t : ByteArray) (i : Nat) (h : i < t.size) : byt t.data.toList i = t[i].toNat := by
  unfold byt
  have h2 : i < t.data.toList.length := by simpa using h
  rw [List.getD_eq_getElem?_getD, List.getElem?_eq_getElem h2]
  simp [ByteArray.getElem_eq_getElem_data]
theorem len_list (t : ByteArray) : t.data.toList.length = t.size := by simp
/-- a pattern among the arguments -/
theorem lay_pat (w : World) (t : ByteArray) (L : Value) : ∃ wA, w.alloc (.cells #[.string t, L] 25) = wA ∧ Below w.heap.size w wA ∧ BlkAt wA w.heap.size #[.string t, L] 25 :=
  ⟨_, rfl, bel_alloc (Below.refl _ _) _, BlkAt.new _ _ _⟩

set_option maxHeartbeats 4000000 in
set_option maxRecDepth 100000 in
theorem refIs_is (t : ByteArray) (L : Value) (v : List Bool) (i c : Nat) (w : World) (hL : LiveAt w L v) : Calls Try.prog 26 #[patV t L, .int .i64 (i : Int), .int .u8 (c : Int)] w (Gives w (.bool (isB t.data.toList v i c))) := by
  obtain ⟨wA, hwA, hb, hP⟩ := lay_pat w t L
  have hLA := hL.after hb
  clear hL
  have c0 := hP.cell 0 (v := .string t) rfl
  have c1 := hP.cell 1 (v := L) rfl
  have HR : Hid (isB t.data.toList v i c = if i < t.size then (if livB v i then decide (byt t.data.toList i = c) else false) else false) := Lib.hid (by unfold isB; rw [len_list])
  generalize isB t.data.toList v i c = r at *
  by_cases hi : i < t.size
  · have h1 : (i : Int) < (t.size : Int) := by omega
    have h0 : (0 : Int) ≤ (i : Int) := by omega
    have hLv := refLive_is t L v i
    have HY := Lib.hid (byt_at t i hi)
    have HR2 : Hid (r = if livB v i then decide (byt t.data.toList i = c) else false) := Lib.hid (by rw [HR.out, if_pos hi])
    clear HR
    generalize livB v i = lv at *
    have HL := Lib.hid hLv
    clear hLv
    unfold patV at HL ⊢
    go_enter Try.func26, Try.ntmps26
    go_wp2_with fail
    clear hwA c0 c1
    refine (HL.out _ hLA).mono ?_
    rintro e w1 ⟨rfl, hb1⟩
    have c0 := (hP.after hb1).cell 0 (v := .string t) rfl
    have HB := Lib.hid (bel_step hb hb1)
    clear hb hb1 hP hLA
    cases lv with
    | false =>
      go_wp2
      go_ret
      exact ⟨by rw [HR2.out]; rfl, HB.out⟩
    | true =>
      by_cases hz : t[i].toNat = c
      · have hz2 : ((t[i].toNat : Int) == (c : Int)) = true := by rw [hz]; simp
        have HZ := Lib.hid hz
        clear hz
        go_wp2
        go_ret
        exact ⟨by rw [HR2.out, HY.out, HZ.out]; simp, HB.out⟩
      · have hz2 : ((t[i].toNat : Int) == (c : Int)) = false := by rw [beq_eq_false_iff_ne]; omega
        have HZ := Lib.hid hz
        clear hz
        go_wp2
        go_ret
        exact ⟨by rw [HR2.out, HY.out]; simp [HZ.out], HB.out⟩
  · have HR2 : Hid (r = false) := Lib.hid (by rw [HR.out, if_neg hi])
    have HB := Lib.hid hb
    clear HR hb
    unfold patV
    go_enter Try.func26, Try.ntmps26
    go_wp2
    go_ret
    exact ⟨by rw [HR2.out]; rfl, HB.out⟩

set_option maxHeartbeats 4000000 in
set_option maxRecDepth 100000 in
theorem refBracket_is (t : ByteArray) (ht : t.size ≤ 1048576) (L : Value) (v : List Bool) (i : Nat) (hi : i ≤ 1048576) (w : World) (hL0 : LiveAt w L v) : Calls Try.prog 25 #[patV t L, .int .i64 (i : Int)] w (Gives w (.int .i64 (brI (brB t.data.toList v i)))) := by
  obtain ⟨wA, hwA, hb1, hP1⟩ := lay_pat w t L
  have hL1 := hL0.after hb1
  clear hL0
  have hI1 := refIs_is t L v i 91
  have hI2 := refIs_is t L v (i + 1) 33
  have HB : Hid (brB t.data.toList v i = if isB t.data.toList v i 91 then (if isB t.data.toList v (i + 1) 33 then seekB t.data.toList v (t.data.toList.length - (i + 3)) (i + 3) else seekB t.data.toList v (t.data.toList.length - (i + 2)) (i + 2)) else none) := Lib.hid rfl
  generalize brB t.data.toList v i = r at *
  generalize isB t.data.toList v i 91 = b1 at *
  generalize isB t.data.toList v (i + 1) 33 = b2 at *
  have H1 := Lib.hid hI1
  have H2 := Lib.hid hI2
  clear hI1 hI2
  unfold patV at H1 H2 ⊢
  rw [show ((i + 1 : Nat) : Int) = (i : Int) + 1 by omega] at H2
  go_enter Try.func25, Try.ntmps25
  have c0 := hP1.cell 0 (v := .string t) rfl
  have c1 := hP1.cell 1 (v := L) rfl
  go_wp2_with fail
  clear c0 c1
  refine (H1.out _ hL1).mono ?_
  rintro e w1 ⟨rfl, j1⟩
  have hP2 := hP1.after j1
  have hL2 := hL1.after j1
  have hb2 := bel_step hb1 j1
  clear hP1 hL1 hb1 j1
  clear hwA
  cases b1 with
  | false =>
    have HE := Lib.hid hb2
    clear hb2
    go_wp2
    go_ret
    exact ⟨by rw [show r = none from HB.out]; rfl, HE.out⟩
  | true =>
    have c0 := hP2.cell 0 (v := .string t) rfl
    have c1 := hP2.cell 1 (v := L) rfl
    go_wp2_with fail
    clear c0 c1
    refine (H2.out _ hL2).mono ?_
    rintro e w2 ⟨rfl, j2⟩
    have hP3 := hP2.after j2
    have hL3 := hL2.after j2
    have hb3 := bel_step hb2 j2
    clear hP2 hL2 hb2 j2
    cases b2 with
    | true =>
      replace HB : Hid (r = seekB t.data.toList v (t.data.toList.length - (i + 3)) (i + 3)) := Lib.hid HB.out
      go_wp2
      go_loopw [5] (fun z wr => ∃ k : Nat, k ≤ (i + 3) + t.size ∧ z = .int .i64 (k : Int) ∧ BlkAt wr w.heap.size #[.string t, L] 25 ∧ LiveAt wr L v ∧ Below w.heap.size w wr ∧ Hid (r = seekB t.data.toList v (t.data.toList.length - k) k)) (fun z _ => t.size - (intOf z).toNat)
      case atStart => exact ⟨(i + 3), by omega, by go_num, hP3, hL3, hb3, Lib.hid HB.out⟩
      case round =>
        obtain ⟨k, hk9, rfl, hP4, hL4, hb4, HR⟩ := hrel
        clear hP3 hL3 hb3 HB
        have c0 := hP4.cell 0 (v := .string t) rfl
        have c1 := hP4.cell 1 (v := L) rfl
        by_cases hk : k < t.size
        · have hI := refIs_is t L v k 93
          have hK : t.data.toList.length - k = t.data.toList.length - (k + 1) + 1 := by rw [len_list]; omega
          have HS : Hid (r = if isB t.data.toList v k 93 then some k else seekB t.data.toList v (t.data.toList.length - (k + 1)) (k + 1)) := Lib.hid (by rw [HR.out, hK, seekB])
          clear HR hK
          generalize isB t.data.toList v k 93 = y at *
          have HI := Lib.hid hI
          clear hI
          unfold patV at HI
          go_wp2_with fail
          clear c0 c1
          refine (HI.out _ hL4).mono ?_
          rintro e w5 ⟨rfl, j5⟩
          cases y with
          | true =>
            have HE := Lib.hid (bel_step hb4 j5)
            clear hP4 hL4 hb4 j5
            go_wp2
            go_ret
            exact ⟨by rw [show r = some k from HS.out]; rfl, HE.out⟩
          | false =>
            have hP5 := hP4.after j5
            have hL5 := hL4.after j5
            have hb5 := bel_step hb4 j5
            clear hP4 hL4 hb4 j5
            go_wp2
            go_roundw
            case rel => exact ⟨k + 1, by omega, by go_num, hP5, hL5, hb5, Lib.hid HS.out⟩
            case measure => simp [intOf]; omega
        · have hN : r = none := by
            rw [HR.out, show t.data.toList.length - k = 0 by rw [len_list]; omega]; rfl
          have HN := Lib.hid hN
          have HE := Lib.hid hb4
          clear hN HR hb4
          go_wp2
          go_ret
          exact ⟨by rw [HN.out]; rfl, HE.out⟩
    | false =>
      replace HB : Hid (r = seekB t.data.toList v (t.data.toList.length - (i + 2)) (i + 2)) := Lib.hid HB.out
      go_wp2
      go_loopw [5] (fun z wr => ∃ k : Nat, k ≤ (i + 2) + t.size ∧ z = .int .i64 (k : Int) ∧ BlkAt wr w.heap.size #[.string t, L] 25 ∧ LiveAt wr L v ∧ Below w.heap.size w wr ∧ Hid (r = seekB t.data.toList v (t.data.toList.length - k) k)) (fun z _ => t.size - (intOf z).toNat)
      case atStart => exact ⟨(i + 2), by omega, by go_num, hP3, hL3, hb3, Lib.hid HB.out⟩
      case round =>
        obtain ⟨k, hk9, rfl, hP4, hL4, hb4, HR⟩ := hrel
        clear hP3 hL3 hb3 HB
        have c0 := hP4.cell 0 (v := .string t) rfl
        have c1 := hP4.cell 1 (v := L) rfl
        by_cases hk : k < t.size
        · have hI := refIs_is t L v k 93
          have hK : t.data.toList.length - k = t.data.toList.length - (k + 1) + 1 := by rw [len_list]; omega
          have HS : Hid (r = if isB t.data.toList v k 93 then some k else seekB t.data.toList v (t.data.toList.length - (k + 1)) (k + 1)) := Lib.hid (by rw [HR.out, hK, seekB])
          clear HR hK
          generalize isB t.data.toList v k 93 = y at *
          have HI := Lib.hid hI
          clear hI
          unfold patV at HI
          go_wp2_with fail
          clear c0 c1
          refine (HI.out _ hL4).mono ?_
          rintro e w5 ⟨rfl, j5⟩
          cases y with
          | true =>
            have HE := Lib.hid (bel_step hb4 j5)
            clear hP4 hL4 hb4 j5
            go_wp2
            go_ret
            exact ⟨by rw [show r = some k from HS.out]; rfl, HE.out⟩
          | false =>
            have hP5 := hP4.after j5
            have hL5 := hL4.after j5
            have hb5 := bel_step hb4 j5
            clear hP4 hL4 hb4 j5
            go_wp2
            go_roundw
            case rel => exact ⟨k + 1, by omega, by go_num, hP5, hL5, hb5, Lib.hid HS.out⟩
            case measure => simp [intOf]; omega
        · have hN : r = none := by
            rw [HR.out, show t.data.toList.length - k = 0 by rw [len_list]; omega]; rfl
          have HN := Lib.hid hN
          have HE := Lib.hid hb4
          clear hN HR hb4
          go_wp2
          go_ret
          exact ⟨by rw [HN.out]; rfl, HE.out⟩

end Go.Proofs.Ytmpneifjjnfckaa
