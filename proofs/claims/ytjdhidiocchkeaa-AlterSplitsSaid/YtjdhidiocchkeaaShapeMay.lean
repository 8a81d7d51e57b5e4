/-
  Contracts of package shape (Any, kept, Lit, madeOf, May) and of what of Go's strings it calls (Contains at the byte 0), over the translation.
-/
import Derived.Test.YtjdhidiocchkeaaShape
namespace Go.Proofs.Ytjdhidiocchkeaa
open Go.RowKit

theorem range_nz (c : Nat) (hc : c < 256) : nz (rangeS 1 255) c = decide (c ≠ 0) := by
  unfold nz rangeS heldI
  rw [Bool.eq_iff_iff]
  simp only [Bool.and_eq_true, decide_eq_true_eq]
  omega

set_option maxHeartbeats 1000000 in
set_option maxRecDepth 100000 in
theorem slIndexByte_is (s : ByteArray) (w : World) :
    Calls Try.prog 77 #[.string s, .int .u8 0] w fun e w' => e = .returned (.int .i64 (Lib.indexByte s.data.toList 0)) ∧ w = w' := by
  go_enter Try.func77, Try.ntmps77
  go_wp2
  rw [run_callFunc_extern Try.func81 (by kernel_rfl) (by kernel_rfl) (by kernel_rfl) (e := Extern.BytealgIndexByte.indexByte) (by kernel_rfl), Lib.run_indexByteString]
  simp only [Result.andThen]
  rw [Oper.upon_value]
  go_wp2
  go_ret
  exact ⟨rfl, rfl⟩

theorem bytes_eq (s : ByteArray) (l : List UInt8) (h : s.data.toList = l) : s = ⟨l.toArray⟩ := by
  obtain ⟨⟨a⟩⟩ := s
  simp at h
  rw [h]

set_option maxHeartbeats 1000000 in
set_option maxRecDepth 100000 in
theorem slIndex_is (s : ByteArray) (w : World) :
    Calls Try.prog 76 #[.string s, .string ⟨#[0]⟩] w fun e w' => e = .returned (.int .i64 (Lib.indexByte s.data.toList 0)) ∧ w = w' := by
  have hI := Lib.hid (slIndexByte_is s)
  have ht : (⟨#[0]⟩ : ByteArray).toList = [0] := by rw [ByteArray.toList_eq]
  by_cases hs : s.data.toList = [0]
  · have e := bytes_eq s _ hs
    subst e
    go_enter Try.func76, Try.ntmps76
    go_wp2
    go_ret
    exact ⟨rfl, rfl⟩
  · have h1 : ([0] == s.toList) = false := by rw [ByteArray.toList_eq, beq_eq_false_iff_ne]; exact fun h => hs h.symm
    go_enter Try.func76, Try.ntmps76
    go_wp2_with fail
    refine (hI.out _).mono ?_
    rintro e w1 ⟨rfl, rfl⟩
    go_wp2
    go_ret
    exact ⟨rfl, rfl⟩

set_option maxHeartbeats 1000000 in
theorem Index_is (s : ByteArray) (w : World) :
    Calls Try.prog 75 #[.string s, .string ⟨#[0]⟩] w fun e w' => e = .returned (.int .i64 (Lib.indexByte s.data.toList 0)) ∧ w = w' := by
  go_enter Try.func75, Try.ntmps75
  go_wp2_with fail
  refine (slIndex_is s _).mono ?_
  rintro e w1 ⟨rfl, rfl⟩
  go_wp2
  go_ret
  exact ⟨rfl, rfl⟩

theorem index_in (l : List UInt8) : decide (0 ≤ Lib.indexByte l 0) = ofS l 0 := by
  induction l with
  | nil => rfl
  | cons b l ih =>
    have h0 := Lib.indexByte_ge l 0
    unfold Lib.indexByte
    have e : ofS (b :: l) 0 = (decide (b.toNat = 0) || ofS l 0) := rfl
    rw [e, ← ih]
    by_cases hb : b = 0
    · subst hb; rfl
    · have hb2 : (b == 0) = false := beq_eq_false_iff_ne.2 hb
      have hb3 : b.toNat ≠ 0 := fun h => hb (UInt8.toNat_inj.1 h)
      rw [hb2, decide_eq_false hb3, Bool.false_or, if_neg (by decide)]
      by_cases hi : Lib.indexByte l 0 = -1
      · rw [hi]; rfl
      · rw [if_neg (by simpa using hi), decide_eq_decide]
        omega

set_option maxHeartbeats 1000000 in
theorem Contains_is (s : ByteArray) (w : World) :
    Calls Try.prog 74 #[.string s, .string ⟨#[0]⟩] w fun e w' => e = .returned (.bool (ofS s.data.toList 0)) ∧ w = w' := by
  have hI := Lib.hid (Index_is s)
  have hD := Lib.hid (index_in s.data.toList)
  generalize Lib.indexByte s.data.toList 0 = n at *
  go_enter Try.func74, Try.ntmps74
  go_wp2_with fail
  refine (hI.out _).mono ?_
  rintro e w1 ⟨rfl, rfl⟩
  go_wp2
  go_ret
  exact ⟨by rw [← hD.out]; rfl, rfl⟩

set_option maxHeartbeats 1000000 in
theorem kept_is (s : ByteArray) (w : World) : Calls Try.prog 72 #[.string s] w (Gives w (.bool (keptB s))) := by
  unfold keptB
  by_cases hs : s.size ≤ 64
  · have hC := Lib.hid (Contains_is s)
    rw [decide_eq_true hs, Bool.true_and]
    generalize ofS s.data.toList 0 = z at *
    go_enter Try.func72, Try.ntmps72
    go_wp2_with fail
    refine (hC.out _).mono ?_
    rintro e w1 ⟨rfl, rfl⟩
    go_wp2
    go_ret
    exact ⟨rfl, Below.refl _ _⟩
  · rw [decide_eq_false hs, Bool.false_and]
    go_enter Try.func72, Try.ntmps72
    go_wp2
    go_ret
    exact ⟨rfl, Below.refl _ _⟩

set_option maxHeartbeats 1000000 in
set_option maxRecDepth 100000 in
theorem Lit_is (s : ByteArray) (hs : s.size ≤ 1048576) (w : World) : Calls Try.prog 51 #[.string s] w (Gives w (shV (litSh s))) := by
  have hK := kept_is s
  have hO := Lib.hid (Of_is s hs)
  have hz := ShAt.zero w
  unfold litSh
  cases hk : keptB s with
  | true =>
    rw [hk] at hK
    have HK := Lib.hid hK
    clear hK
    have e1 : empB s = s.toList.isEmpty := rfl
    simp only [setV] at hO
    go_enter Try.func51, Try.ntmps51
    go_wp2_with fail
    refine (HK.out _).mono ?_
    rintro e w1 ⟨rfl, hb1⟩
    go_wp2_with fail
    refine (hO.out _).mono ?_
    rintro e w2 ⟨rfl, hb2⟩
    have h2 := (hz.after hb1).after hb2
    have hb := bel_step (bel_step (bel_alloc (Below.refl w.heap.size w) _) hb1) hb2
    clear hb1 hb2 hz
    obtain ⟨d0, d1, d2, d3, d4, d5, d6, d7⟩ := h2.cells
    obtain ⟨g0, g1, g2, g3, g4, g5, g6, g7⟩ := h2.frozens
    go_wp2
    refine bodyPost_ret (v := shV ⟨false, empB s, ofS s.data.toList, true, s⟩) ?_ rfl ⟨rfl, bel_putSh hb (by omega) ⟨false, empB s, ofS s.data.toList, true, s⟩⟩
    exact results_cell_row rfl _ _ _ _ _ _ _ rfl (h2.put ⟨false, empB s, ofS s.data.toList, true, s⟩) Try.underlying26 rfl (by kernel_rfl)
  | false =>
    rw [hk] at hK
    have HK := Lib.hid hK
    clear hK
    have hS := Lib.hid (OfSh_is (ofS s.data.toList) (empB s))
    simp only [setV, shV, ofSh] at hO hS
    have e1 : empB s = s.toList.isEmpty := rfl
    rw [e1] at hS
    go_enter Try.func51, Try.ntmps51
    go_wp2_with fail
    refine (HK.out _).mono ?_
    rintro e w1 ⟨rfl, hb1⟩
    go_wp2_with fail
    refine (hO.out _).mono ?_
    rintro e w2 ⟨rfl, hb2⟩
    go_wp2_with fail
    refine (hS.out _).mono ?_
    rintro e w3 ⟨rfl, hb3⟩
    have h2 := ((hz.after hb1).after hb2).after hb3
    have hb := bel_step (bel_step (bel_step (bel_alloc (Below.refl w.heap.size w) _) hb1) hb2) hb3
    clear hb1 hb2 hb3 hz
    obtain ⟨d0, d1, d2, d3, d4, d5, d6, d7⟩ := h2.cells
    obtain ⟨g0, g1, g2, g3, g4, g5, g6, g7⟩ := h2.frozens
    go_wp2
    refine bodyPost_ret (v := shV (ofSh (ofS s.data.toList) (empB s))) ?_ rfl ⟨rfl, bel_putSh hb (by omega) (ofSh (ofS s.data.toList) (empB s))⟩
    exact results_cell_row rfl _ _ _ _ _ _ _ rfl (h2.put (ofSh (ofS s.data.toList) (empB s))) Try.underlying26 rfl (by kernel_rfl)

set_option maxHeartbeats 1000000 in
set_option maxRecDepth 100000 in
theorem madeOf_is (v : ByteArray) (hv : v.size ≤ 1048576) (p : Nat → Bool) (w : World) : Calls Try.prog 38 #[.string v, setV p] w (Gives w (.bool (subS (ofS v.data.toList) p))) := by
  have hO := Lib.hid (Of_is v hv)
  have hW := Lib.hid (Within_is (ofS v.data.toList) p)
  simp only [setV] at hO hW ⊢
  generalize subS (ofS v.data.toList) p = z at *
  obtain ⟨wA, hwA⟩ : ∃ wA, w.alloc (.cells #[.int .u64 (wd p 0 : Nat), .int .u64 (wd p 1 : Nat), .int .u64 (wd p 2 : Nat), .int .u64 (wd p 3 : Nat)] 24) = wA := ⟨_, rfl⟩
  have hbA : Below w.heap.size w wA := hwA ▸ bel_alloc (Below.refl _ _) _
  have hp : SetAt wA w.heap.size p := hwA ▸ SetAt.new _ p
  go_enter Try.func38, Try.ntmps38
  go_wp2
  clear hwA
  obtain ⟨L0, L1, L2, L3⟩ := hp.laters
  refine region_later (by kernel_rfl) (by kernel_rfl) ?_
  repeat (go_big_quiet_step (fail))
  go_big_quiet_step (exact later (hO.out _))
  repeat (go_big_quiet_step (fail))
  go_big_quiet_step (exact later (hW.out _))
  repeat (go_big_quiet_step (fail))
  refine wpQuiet_nil ?_
  rintro _ ⟨x, rfl⟩
  go_wp2
  go_ret
  exact ⟨rfl, bel_step hbA x.below⟩

set_option maxHeartbeats 1000000 in
set_option maxRecDepth 100000 in
theorem May_is (x : Sh) (is : Bool) (v : ByteArray) (hv : v.size ≤ 1048576) (w : World) : Calls Try.prog 9 #[shV x, .bool is, .string v] w (Gives w (.bool (mayB x is v))) := by
  obtain ⟨u, e, h, k, l⟩ := x
  have hM := Lib.hid (madeOf_is v hv h)
  have hb := bel_alloc (Below.refl w.heap.size w)
  simp only [setV] at hM
  simp only [shV, mayB]
  generalize subS (ofS v.data.toList) h = z at *
  cases is with
  | false =>
    go_enter Try.func9, Try.ntmps9
    go_wp2
    go_ret
    exact ⟨rfl, hb _⟩
  | true =>
    cases k with
    | true =>
      go_enter Try.func9, Try.ntmps9
      go_wp2
      go_ret
      exact ⟨rfl, hb _⟩
    | false =>
      cases hq : empB v with
      | true =>
        unfold empB at hq
        go_enter Try.func9, Try.ntmps9
        go_wp2
        go_ret
        exact ⟨rfl, hb _⟩
      | false =>
        unfold empB at hq
        go_enter Try.func9, Try.ntmps9
        go_wp2_with fail
        refine (hM.out _).mono ?_
        rintro e w1 ⟨rfl, hb1⟩
        go_wp2
        go_ret
        exact ⟨rfl, bel_step (hb _) hb1⟩
end Go.Proofs.Ytjdhidiocchkeaa
