/-
  conchlaw8.ArithWide returns true at any two numbers, over package arith's contracts. (By wip/tools/gen_arwide.py.)
-/
import Derived.Test.YtekpopopibhjbaaArValues
import Derived.Deep.CutRange
namespace Go.Proofs.Ytekpopopibhjbaa
open Go.RowKit

theorem wrap_sub (z k : Int) : wrap64 (z - k * 18446744073709551616) = wrap64 z := by unfold wrap64; omega
theorem wrap_as (x : Int) : ∃ k : Int, wrap64 x = x - k * 18446744073709551616 := ⟨(x + 9223372036854775808) / 18446744073709551616, by unfold wrap64; omega⟩
theorem wrap_mulL (x y : Int) : wrap64 (wrap64 x * y) = wrap64 (x * y) := by
  obtain ⟨k, hk⟩ := wrap_as x
  rw [hk, show (x - k * 18446744073709551616) * y = x * y - (k * y) * 18446744073709551616 by rw [Int.sub_mul, Int.mul_assoc, Int.mul_comm 18446744073709551616 y, ← Int.mul_assoc]]
  exact wrap_sub _ _
theorem wrap_mulR (x y : Int) : wrap64 (x * wrap64 y) = wrap64 (x * y) := by rw [Int.mul_comm, wrap_mulL, Int.mul_comm]
theorem wrap_four (a b : Int) : wrap64 (wrap64 (a * 4) * wrap64 (b * 4)) = wrap64 (wrap64 (wrap64 (a * 4) * b) * 4) := by
  rw [wrap_mulL, wrap_mulR, wrap_mulL, show wrap64 (a * 4) * b * 4 = wrap64 (a * 4) * (b * 4) from Int.mul_assoc _ _ _, wrap_mulL]

/-- what is asked of the six sums -/
structure WideP (P : List UInt8 → PRes) : Prop where
  one : P [97, 43, 98] = okR [nameO [97], nameO [98], opO 9]
  two : P [97, 42, 98] = okR [nameO [97], nameO [98], opO 6]
  three : P [97, 45, 98] = okR [nameO [97], nameO [98], opO 10]
  four : P [40, 97, 42, 52, 41, 42, 40, 98, 42, 52, 41] = okR [nameO [97], numO 4, opO 6, nameO [98], numO 4, opO 6, opO 6]
  five : P [40, 48, 45, 52, 54, 49, 49, 54, 56, 54, 48, 49, 56, 52, 50, 55, 51, 56, 55, 57, 48, 52, 45, 52, 54, 49, 49, 54, 56, 54, 48, 49, 56, 52, 50, 55, 51, 56, 55, 57, 48, 52, 41, 47, 40, 48, 45, 49, 41] = okR [numO 0, numO 4611686018427387904, opO 10, numO 4611686018427387904, opO 10, numO 0, numO 1, opO 10, opO 7]
  six : P [40, 48, 45, 52, 54, 49, 49, 54, 56, 54, 48, 49, 56, 52, 50, 55, 51, 56, 55, 57, 48, 52, 42, 50, 41, 37, 40, 48, 45, 49, 41] = okR [numO 0, numO 4611686018427387904, numO 2, opO 6, opO 10, numO 0, numO 1, opO 10, opO 8]

def valAB (a b : Int) : List UInt8 → List UInt8 := fun x => if x = [97] then Lib.itoa a else Lib.itoa b
section
variable {a b : Int}
theorem val_a (h0 : -4611686018427387904 ≤ a) (h1 : a ≤ 4611686018427387904) : valN (valAB a b [97]) = some a := valN_itoa a h0 h1
theorem val_b (h0 : -4611686018427387904 ≤ b) (h1 : b ≤ 4611686018427387904) : valN (valAB a b [98]) = some b := valN_itoa b h0 h1
theorem ev_two {k : Nat} (hk : 6 ≤ k ∧ k ≤ 18) {x : Int} (ha : valN (valAB a b [97]) = some a) (hb : valN (valAB a b [98]) = some b) (h : twoP k a b = (x, 0)) : evalP (valAB a b) [nameO [97], nameO [98], opO k] = (x, 0) :=
  eval_of (by rw [run_name ha, run_name hb, run_two hk h]; rfl)
theorem ev_four (ha : valN (valAB a b [97]) = some a) (hb : valN (valAB a b [98]) = some b) : evalP (valAB a b) [nameO [97], numO 4, opO 6, nameO [98], numO 4, opO 6, opO 6] = (wrap64 (wrap64 (a * 4) * wrap64 (b * 4)), 0) :=
  eval_of (by rw [run_name ha, run_num, run_two (x := wrap64 (a * 4)) (by decide) rfl, run_name hb, run_num, run_two (x := wrap64 (b * 4)) (by decide) rfl, run_two (x := wrap64 (wrap64 (a * 4) * wrap64 (b * 4))) (by decide) rfl]; rfl)
theorem ev_five (val : List UInt8 → List UInt8) : evalP val [numO 0, numO 4611686018427387904, opO 10, numO 4611686018427387904, opO 10, numO 0, numO 1, opO 10, opO 7] = (-9223372036854775808, 0) :=
  eval_of (by rw [run_num, run_num, run_two (x := -4611686018427387904) (by decide) (by kernel_rfl), run_num, run_two (x := -9223372036854775808) (by decide) (by kernel_rfl), run_num, run_num, run_two (x := -1) (by decide) (by kernel_rfl), run_two (x := -9223372036854775808) (by decide) (by kernel_rfl)]; rfl)
theorem ev_six (val : List UInt8 → List UInt8) : evalP val [numO 0, numO 4611686018427387904, numO 2, opO 6, opO 10, numO 0, numO 1, opO 10, opO 8] = (0, 0) :=
  eval_of (by rw [run_num, run_num, run_num, run_two (x := -9223372036854775808) (by decide) (by kernel_rfl), run_two (x := -9223372036854775808) (by decide) (by kernel_rfl), run_num, run_num, run_two (x := -1) (by decide) (by kernel_rfl), run_two (x := 0) (by decide) (by kernel_rfl)]; rfl)
end

set_option maxHeartbeats 1000000 in
theorem wide_is (n : Int) (h0 : -9223372036854775808 ≤ n) (h1 : n ≤ 9223372036854775807) (w : World) : Calls Try.prog 19 #[.int .i64 n] w fun e w' => e = .returned (strV (Lib.itoa n)) ∧ w = w' := by
  have H := Lib.hid (RDigits_any n h0 h1)
  go_enter Try.func19, Try.ntmps19
  go_wp2_with fail
  refine (H.out _).mono ?_
  rintro e w1 ⟨rfl, rfl⟩
  go_wp2
  go_ret
  exact ⟨rfl, rfl⟩
theorem toList_a (s : ByteArray) : (s.toList == [97]) = decide (s.data.toList = [97]) := by
  rw [toList_data, Bool.eq_iff_iff, decide_eq_true_eq, beq_iff_eq]
theorem bytes_a : (⟨#[97]⟩ : ByteArray).toList = [97] := by rw [toList_data]
set_option maxHeartbeats 1000000 in
theorem getW_is (w : World) (b0 b1 : Nat) (a b : Int) (ha0 : -9223372036854775808 ≤ a) (ha1 : a ≤ 9223372036854775807) (hb0 : -9223372036854775808 ≤ b) (hb1 : b ≤ 9223372036854775807) (hc : w.cell? ⟨b0, 0, none⟩ = some (.int .i64 a)) (hd : w.cell? ⟨b1, 0, none⟩ = some (.int .i64 b)) :
    GetIs w 18 #[.pointer (some ⟨b0, 0, none⟩), .pointer (some ⟨b1, 0, none⟩)] (valAB a b) := by
  refine ⟨fun args x => call_enter Try.func18 (by decide) rfl args x, ?_⟩
  intro x hx s _
  have c0 := cell_after hx hc
  have c1 := cell_after hx hd
  have H0 := Lib.hid (wide_is a ha0 ha1)
  have H1 := Lib.hid (wide_is b hb0 hb1)
  have HA := bytes_a
  clear hc hd
  by_cases hs : s.data.toList = [97]
  · have hq : (s.toList == [97]) = true := by rw [toList_a]; exact decide_eq_true hs
    have HV : Hid (valAB a b s.data.toList = Lib.itoa a) := Lib.hid (by unfold valAB; rw [if_pos hs])
    rw [HV.out]
    clear hs
    show Calls Try.prog 18 #[.string s, .pointer (some ⟨b0, 0, none⟩), .pointer (some ⟨b1, 0, none⟩)] x _
    go_enter Try.func18, Try.ntmps18
    go_wp2_with fail
    refine (H0.out _).mono ?_
    rintro e w1 ⟨rfl, rfl⟩
    go_wp2
    go_ret2
    exact ⟨⟨true, rfl, fun h => Bool.noConfusion h⟩, Below.refl _ _⟩
  · have hq : (s.toList == [97]) = false := by rw [toList_a]; exact decide_eq_false hs
    have HV : Hid (valAB a b s.data.toList = Lib.itoa b) := Lib.hid (by unfold valAB; rw [if_neg hs])
    rw [HV.out]
    clear hs
    show Calls Try.prog 18 #[.string s, .pointer (some ⟨b0, 0, none⟩), .pointer (some ⟨b1, 0, none⟩)] x _
    go_enter Try.func18, Try.ntmps18
    go_wp2_with fail
    refine (H1.out _).mono ?_
    rintro e w1 ⟨rfl, rfl⟩
    go_wp2
    go_ret2
    exact ⟨⟨true, rfl, fun h => Bool.noConfusion h⟩, Below.refl _ _⟩

set_option maxHeartbeats 2000000 in
set_option maxRecDepth 100000 in
theorem isW_is {P : List UInt8 → PRes} (F : ArithFace P) (s : ByteArray) (hs : s.size ≤ 100000) (ops : List AOp) (hP : P s.data.toList = okR ops) (hn : ∀ o ∈ ops, o.name.length ≤ 100000) (want : Int) (a b : Int) (hE : evalP (valAB a b) ops = (want, 0))
    (ha0 : -9223372036854775808 ≤ a) (ha1 : a ≤ 9223372036854775807) (hb0 : -9223372036854775808 ≤ b) (hb1 : b ≤ 9223372036854775807) (w : World) (b0 b1 : Nat) (hc : w.cell? ⟨b0, 0, none⟩ = some (.int .i64 a)) (hd : w.cell? ⟨b1, 0, none⟩ = some (.int .i64 b)) :
    Calls Try.prog 17 #[.string s, .int .i64 want, .pointer (some ⟨b0, 0, none⟩), .pointer (some ⟨b1, 0, none⟩)] w (Gives w (.bool true)) := by
  have H1 := Lib.hid (F.text s hs hP)
  have HC := Lib.hid hc
  have HD := Lib.hid hd
  clear hc hd
  go_enter Try.func17, Try.ntmps17
  go_wp2_with fail
  refine (H1.out _).mono ?_
  rintro e w1 ⟨v1, rfl, h1, hw1⟩
  clear H1
  simp only [okR] at h1 ⊢
  have E1 := F.eval v1 ops _ _ (valAB a b) w1 h1 hn (fun x => by
    unfold valAB
    split
    · exact Nat.le_trans (itoa_len a ha0 ha1) (by decide)
    · exact Nat.le_trans (itoa_len b hb0 hb1) (by decide)) (getW_is w1 b0 b1 a b ha0 ha1 hb0 hb1 (cell_after hw1 HC.out) (cell_after hw1 HD.out))
  rw [hE] at E1
  have HE1 := Lib.hid E1
  clear E1 h1 hE
  go_wp2_with fail
  refine HE1.out.mono ?_
  rintro e w2 ⟨rfl, hw2⟩
  have hb3 := bel_step hw1 hw2
  clear hw1 hw2 HE1
  go_wp2
  go_ret
  exact ⟨rfl, hb3⟩

set_option maxHeartbeats 8000000 in
set_option maxRecDepth 100000 in
theorem ArithWide_walk {P : List UInt8 → PRes} (F : ArithFace P) (A : AwakeP P) (V : WideP P) (x y : Int) (w : World) (hx0 : -9223372036854775808 ≤ x) (hx1 : x ≤ 9223372036854775807) (hy0 : -9223372036854775808 ≤ y) (hy1 : y ≤ 9223372036854775807) :
    Calls Try.prog 6 #[.int .i64 x, .int .i64 y] w (Gives w (.bool true)) := by
  have FA := Lib.hid (fun w => awake8_is F A w)
  go_enter Try.func6, Try.ntmps6
  obtain ⟨X, hX⟩ : ∃ X, x / 2 = X := ⟨_, rfl⟩
  obtain ⟨Y, hY⟩ : ∃ Y, y / 2 = Y := ⟨_, rfl⟩
  have hX0 : -4611686018427387904 ≤ X := by omega
  have hX1 : X ≤ 4611686018427387903 := by omega
  have hY0 : -4611686018427387904 ≤ Y := by omega
  have hY1 : Y ≤ 4611686018427387903 := by omega
  have ha : valN (valAB X Y [97]) = some X := val_a (by omega) (by omega)
  have hb : valN (valAB X Y [98]) = some Y := val_b (by omega) (by omega)
  have Ione := fun w b0 b1 hc hd => Lib.hid (isW_is F ⟨#[97, 43, 98]⟩ (by decide) _ V.one (by decide) (X + Y) X Y (ev_two (x := X + Y) (by decide) ha hb (by show (wrap64 (X + Y), (0 : Int)) = _; rw [w64 (by omega)])) (by omega) (by omega) (by omega) (by omega) w b0 b1 hc hd)
  have Itwo := fun w b0 b1 hc hd => Lib.hid (isW_is F ⟨#[97, 42, 98]⟩ (by decide) _ V.two (by decide) (wrap64 (X * Y)) X Y (ev_two (x := wrap64 (X * Y)) (by decide) ha hb rfl) (by omega) (by omega) (by omega) (by omega) w b0 b1 hc hd)
  have Ithree := fun w b0 b1 hc hd => Lib.hid (isW_is F ⟨#[97, 45, 98]⟩ (by decide) _ V.three (by decide) (X - Y) X Y (ev_two (x := X - Y) (by decide) ha hb (by show (wrap64 (X - Y), (0 : Int)) = _; rw [w64 (by omega)])) (by omega) (by omega) (by omega) (by omega) w b0 b1 hc hd)
  have Ifour := fun w b0 b1 hc hd => Lib.hid (isW_is F ⟨#[40, 97, 42, 52, 41, 42, 40, 98, 42, 52, 41]⟩ (by decide) _ V.four (by decide) (wrap64 (wrap64 (wrap64 (X * 4) * Y) * 4)) X Y ((by rw [← wrap_four]; exact ev_four ha hb)) (by omega) (by omega) (by omega) (by omega) w b0 b1 hc hd)
  have Ifive := fun w b0 b1 hc hd => Lib.hid (isW_is F ⟨#[40, 48, 45, 52, 54, 49, 49, 54, 56, 54, 48, 49, 56, 52, 50, 55, 51, 56, 55, 57, 48, 52, 45, 52, 54, 49, 49, 54, 56, 54, 48, 49, 56, 52, 50, 55, 51, 56, 55, 57, 48, 52, 41, 47, 40, 48, 45, 49, 41]⟩ (by decide) _ V.five (by decide) ((-9223372036854775808)) X Y (ev_five _) (by omega) (by omega) (by omega) (by omega) w b0 b1 hc hd)
  have Isix := fun w b0 b1 hc hd => Lib.hid (isW_is F ⟨#[40, 48, 45, 52, 54, 49, 49, 54, 56, 54, 48, 49, 56, 52, 50, 55, 51, 56, 55, 57, 48, 52, 42, 50, 41, 37, 40, 48, 45, 49, 41]⟩ (by decide) _ V.six (by decide) (0) X Y (ev_six _) (by omega) (by omega) (by omega) (by omega) w b0 b1 hc hd)
  clear ha hb
  go_wp2
  go_region
  clear hX hY
  obtain ⟨U, hU⟩ : ∃ U : World, ((w.alloc (.cells #[.int .i64 X] 3)).alloc (.cells #[.int .i64 Y] 3)).drew = U := ⟨_, rfl⟩
  have hA : BlkAt U w.heap.size #[.int .i64 X] 3 := by rw [← hU]; exact ((BlkAt.new w _ _).alloc _).drew
  have hB : BlkAt U (w.heap.size + 1) #[.int .i64 Y] 3 := by rw [← hU]; exact (BlkAt.new_at _ _ _ _ (by simp)).drew
  have hbw : Below w.heap.size w U := by rw [← hU]; exact bel_drew (bel_alloc (bel_alloc (Below.refl _ _) _) _)
  rw [hU]
  clear hU
  obtain ⟨b0, hb0⟩ : ∃ b, w.heap.size = b := ⟨_, rfl⟩
  obtain ⟨b1, hb1⟩ : ∃ b, w.heap.size + 1 = b := ⟨_, rfl⟩
  rw [hb0] at hA
  rw [hb1] at hB
  rw [hb1, hb0]
  clear hb0 hb1
  have c1a := hA.cell 0 rfl
  have c1b := hB.cell 0 rfl
  go_wp2_with fail
  refine (Ione _ b0 b1 c1a c1b).out.mono ?_
  rintro e w1 ⟨rfl, hw1⟩
  have hA1 := hA.after hw1
  have hB1 := hB.after hw1
  have hbw1 := bel_step hbw hw1
  clear hw1 hA hB hbw Ione c1a c1b
  have c2a := hA1.cell 0 rfl
  have c2b := hB1.cell 0 rfl
  go_wp2_with fail
  refine (Itwo _ b0 b1 c2a c2b).out.mono ?_
  rintro e w2 ⟨rfl, hw2⟩
  have hA2 := hA1.after hw2
  have hB2 := hB1.after hw2
  have hbw2 := bel_step hbw1 hw2
  clear hw2 hA1 hB1 hbw1 Itwo c2a c2b
  have c3a := hA2.cell 0 rfl
  have c3b := hB2.cell 0 rfl
  go_wp2_with fail
  refine (Ithree _ b0 b1 c3a c3b).out.mono ?_
  rintro e w3 ⟨rfl, hw3⟩
  have hA3 := hA2.after hw3
  have hB3 := hB2.after hw3
  have hbw3 := bel_step hbw2 hw3
  clear hw3 hA2 hB2 hbw2 Ithree c3a c3b
  have c4a := hA3.cell 0 rfl
  have c4b := hB3.cell 0 rfl
  go_wp2_with fail
  refine (Ifour _ b0 b1 c4a c4b).out.mono ?_
  rintro e w4 ⟨rfl, hw4⟩
  have hA4 := hA3.after hw4
  have hB4 := hB3.after hw4
  have hbw4 := bel_step hbw3 hw4
  clear hw4 hA3 hB3 hbw3 Ifour c4a c4b
  have c5a := hA4.cell 0 rfl
  have c5b := hB4.cell 0 rfl
  go_wp2_with fail
  refine (Ifive _ b0 b1 c5a c5b).out.mono ?_
  rintro e w5 ⟨rfl, hw5⟩
  have hA5 := hA4.after hw5
  have hB5 := hB4.after hw5
  have hbw5 := bel_step hbw4 hw5
  clear hw5 hA4 hB4 hbw4 Ifive c5a c5b
  have c6a := hA5.cell 0 rfl
  have c6b := hB5.cell 0 rfl
  go_wp2_with fail
  refine (Isix _ b0 b1 c6a c6b).out.mono ?_
  rintro e w6 ⟨rfl, hw6⟩
  have hA6 := hA5.after hw6
  have hB6 := hB5.after hw6
  have hbw6 := bel_step hbw5 hw6
  clear hw6 hA5 hB5 hbw5 Isix c6a c6b
  go_wp2_with fail
  refine (FA.out _).mono ?_
  rintro e w8 ⟨rfl, hw8⟩
  have hbw8 := bel_step hbw6 hw8
  clear hw8 hbw6 hA6 hB6
  go_wp2
  go_ret
  exact ⟨rfl, hbw8⟩
end Go.Proofs.Ytekpopopibhjbaa
