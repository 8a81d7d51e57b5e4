/-
  conchlaw8.ArithValues returns true at any number, any text, over package arith's contracts. (By wip/tools/gen_arvalues.py.)
-/
import Derived.Test.YtekpopopibhjbaaArFace
import Derived.Test.YtekpopopibhjbaaBits
import Derived.Test.YtekpopopibhjbaaRefDigits
import Derived.Test.YtekpopopibhjbaaNums
namespace Go.Proofs.Ytekpopopibhjbaa
open Go.RowKit

theorem numGo_range : ∀ (l : List UInt8) (n m : Int), 0 ≤ n → n ≤ 4611686018427387904 → numGo l n = some m → 0 ≤ m ∧ m ≤ 4611686018427387904
  | [], n, m, h0, h1, h => by
    simp only [numGo] at h
    injection h with h
    omega
  | c :: l, n, m, h0, h1, h => by
    cases hd : digB (c.toNat : Int) with
    | false => rw [numGo_bad hd] at h; cases h
    | true =>
      have hy := digB_yes hd
      by_cases hg : (4611686018427387904 - ((c.toNat : Int) - 48)) / 10 < n
      · rw [numGo_big hd hg] at h; cases h
      · rw [numGo_step hd hg] at h
        exact numGo_range l _ m (by omega) (by omega) h
theorem numB_range {l : List UInt8} {m : Int} (h : numB l = some m) : 0 ≤ m ∧ m ≤ 4611686018427387904 := by
  unfold numB at h
  split at h
  · cases h
  · exact numGo_range l 0 m (by omega) (by omega) h
theorem valN_num {l : List UInt8} {m : Int} (h : numB l = some m) : valN l = some m := by
  cases l with
  | nil => simp [numB] at h
  | cons c t =>
    have hc : ¬ c = 45 := fun hc => by
      subst hc
      have : numB (45 :: t) = none := by
        unfold numB
        rw [if_neg (by simp)]
        exact numGo_bad (by decide)
      rw [this] at h
      cases h
    rw [valN, if_neg hc]
    exact h
theorem valN_minus (t : List UInt8) : valN (45 :: t) = (numB t).map (fun n => -n) := by rw [valN, if_pos rfl]
theorem valN_plain {c : UInt8} (t : List UInt8) (h : ¬ c = 45) : valN (c :: t) = numB (c :: t) := by rw [valN, if_neg h]
theorem valN_itoa (n : Int) (h0 : -4611686018427387904 ≤ n) (h1 : n ≤ 4611686018427387904) : valN (Lib.itoa n) = some n := by
  by_cases hn : n < 0
  · rw [Lib.itoa, if_pos hn, valN_minus, numB_dec, if_pos (by unfold maxNum; omega)]
    show some (-((n.natAbs : Nat) : Int)) = some n
    congr 1
    omega
  · refine valN_num ?_
    rw [numB_itoa n (by omega), if_pos (by unfold maxNum; omega)]

theorem ev_add {val : List UInt8 → List UInt8} {v : Int} (h : valN (val [97]) = some v) (h0 : -4611686018427387904 ≤ v) (h1 : v ≤ 4611686018427387904) : evalP val [nameO [97], numO 0, opO 9] = (v, 0) :=
  eval_of (by
    rw [run_name h, run_num, run_two (x := v) (by decide) (by
      show (wrap64 (v + 0), (0 : Int)) = _
      rw [w64 (by omega), Int.add_zero])]
    rfl)
theorem ev_bad {val : List UInt8 → List UInt8} (h : valN (val [97]) = none) : evalP val [nameO [97], numO 0, opO 9] = (0, 13) := eval_err (by decide) (run_bad h)
theorem ev_div {val : List UInt8 → List UInt8} (h : valN (val [97]) = some 0) : evalP val [numO 7, nameO [97], opO 7] = (0, 12) :=
  eval_err (by decide) (by rw [run_num, run_name h]; exact run_div)

/-- what is asked of the two sums -/
structure ValuesP (P : List UInt8 → PRes) : Prop where
  one : P [97, 43, 48] = okR [nameO [97], numO 0, opO 9]
  two : P [55, 47, 97] = okR [numO 7, nameO [97], opO 7]

theorem RNumber_at (s : ByteArray) (o : Option Int) (w : World) (hs : s.size ≤ maxLen) (ho : numB s.data.toList = o) :
    Calls Try.prog 16 #[.string s] w fun e w' => e = .returned (.tuple #[.int .i64 (o.getD 0), .bool o.isSome]) ∧ w = w' := by
  rw [← ho]; exact RNumber_any s w hs

set_option maxHeartbeats 1000000 in
theorem get1_is (w : World) (b : Nat) (n : Int) (h0 : -9223372036854775808 ≤ n) (h1 : n ≤ 9223372036854775807) (hc : w.cell? ⟨b, 0, none⟩ = some (.int .i64 n)) : GetIs w 14 #[.pointer (some ⟨b, 0, none⟩)] (fun _ => Lib.itoa n) := by
  refine ⟨fun args x => call_enter Try.func14 (by decide) rfl args x, ?_⟩
  intro x hx s _
  have c0 := cell_after hx hc
  have H := Lib.hid (RDigits_any n h0 h1)
  show Calls Try.prog 14 #[.string s, .pointer (some ⟨b, 0, none⟩)] x _
  go_enter Try.func14, Try.ntmps14
  go_wp2_with fail
  refine (H.out _).mono ?_
  rintro e w1 ⟨rfl, rfl⟩
  go_wp2
  go_ret2
  exact ⟨⟨true, rfl, fun h => Bool.noConfusion h⟩, Below.refl _ _⟩
set_option maxHeartbeats 1000000 in
theorem get2_is (w : World) (b : Nat) (t : ByteArray) (hc : w.cell? ⟨b, 0, none⟩ = some (.string t)) : GetIs w 15 #[.pointer (some ⟨b, 0, none⟩)] (fun _ => t.data.toList) := by
  refine ⟨fun args x => call_enter Try.func15 (by decide) rfl args x, ?_⟩
  intro x hx s _
  have c0 := cell_after hx hc
  show Calls Try.prog 15 #[.string s, .pointer (some ⟨b, 0, none⟩)] x _
  go_enter Try.func15, Try.ntmps15
  go_wp2
  go_ret2
  exact ⟨⟨true, rfl, fun h => Bool.noConfusion h⟩, Below.refl _ _⟩
theorem cons_of {s : ByteArray} (h : 0 < s.size) : s.data.toList = s[0] :: s.data.toList.drop 1 := by
  have h0 := drop_cons s 0 h
  rwa [List.drop_zero] at h0
theorem ext_drop1V (T : ByteArray) : (T.extract 1 T.size).data.toList = T.data.toList.drop 1 := by
  rw [extract_bytes]
  show (T.data.toList.drop 1).take (T.size - 1) = _
  rw [List.take_of_length_le (by simp)]

theorem emp_falseV {u : ByteArray} (h : 0 < u.size) : u.toList.isEmpty = false := by
  rw [ByteArray.toList_eq]
  obtain ⟨⟨l⟩⟩ := u
  cases l with
  | nil => simp [ByteArray.size] at h
  | cons _ _ => rfl

set_option maxHeartbeats 8000000 in
set_option maxRecDepth 100000 in
theorem values_empty {P : List UInt8 → PRes} (F : ArithFace P) (A : AwakeP P) (V : ValuesP P) (n : Int) (w : World) :
    Calls Try.prog 4 #[.int .i64 n, .string ⟨#[]⟩] w (Gives w (.bool true)) := by
  obtain ⟨a1, a2⟩ := and_mask_le n 61 (by decide) 2305843009213693951 (by decide)
  obtain ⟨K, hK⟩ : ∃ K : Nat, bits .and .i64 n 2305843009213693951 = (K : Int) := ⟨(bits .and .i64 n 2305843009213693951).toNat, by omega⟩
  have hK5 : K ≤ 2305843009213693951 := by omega
  clear a1 a2
  have FA := Lib.hid (fun w => awake8_is F A w)
  have H1 := Lib.hid (F.text ⟨#[97, 43, 48]⟩ (by decide) V.one)
  have H2 := Lib.hid (F.text ⟨#[55, 47, 97]⟩ (by decide) V.two)
  have HN := Lib.hid (fun w => RNumber_at ⟨#[]⟩ none w (by decide) rfl)

  obtain ⟨U, hU⟩ : ∃ U : World, (w.alloc (.cells #[.int .i64 (K : Int)] 3)).alloc (.cells #[.string ⟨#[]⟩] 9) = U := ⟨_, rfl⟩
  have hA : BlkAt U w.heap.size #[.int .i64 (K : Int)] 3 := by
    rw [← hU]
    exact (BlkAt.new w _ _).alloc _
  have hB : BlkAt U (w.heap.size + 1) #[.string ⟨#[]⟩] 9 := by
    rw [← hU]
    exact BlkAt.new_at _ _ _ _ (by simp)
  have hb : Below w.heap.size w U := by
    rw [← hU]
    exact bel_alloc (bel_alloc (Below.refl _ _) _) _
  have HU := Lib.hid hU
  clear hU
  obtain ⟨b0, hb0⟩ : ∃ b, w.heap.size = b := ⟨_, rfl⟩
  obtain ⟨b1, hb1⟩ : ∃ b, w.heap.size + 1 = b := ⟨_, rfl⟩
  have HB0 := Lib.hid hb0
  have HB1 := Lib.hid hb1
  rw [hb0] at hA
  rw [hb1] at hB
  clear hb0 hb1
  go_enter Try.func4, Try.ntmps4
  go_wp2_with fail
  rw [HU.out, HB1.out, HB0.out]
  refine (H1.out _).mono ?_
  rintro e w1 ⟨v1, rfl, h1, hw1⟩
  have hA1 := hA.after hw1
  have hB1 := hB.after hw1
  have hbw1 := bel_step hb hw1
  clear hA hB hb hw1 H1 HU
  simp only [okR] at h1 ⊢
  go_wp2_with fail
  refine (H2.out _).mono ?_
  rintro e w2 ⟨v2, rfl, h2, hw2⟩
  have hA2 := hA1.after hw2
  have hB2 := hB1.after hw2
  have hO2 := h1.after hw2
  have hbw2 := bel_step hbw1 hw2
  clear hA1 hB1 h1 hbw1 hw2 H2
  simp only [okR] at h2 ⊢
  have E1 := F.eval v1 _ _ _ _ w2 hO2 (by decide) (fun _ => Nat.le_trans (itoa_len (K : Int) (by omega) (by omega)) (by decide)) (get1_is w2 b0 (K : Int) (by omega) (by omega) (hA2.cell 0 rfl))
  rw [ev_add (v := (K : Int)) (valN_itoa _ (by omega) (by omega)) (by omega) (by omega)] at E1
  have HE1 := Lib.hid E1
  clear E1
  go_wp2_with fail
  refine HE1.out.mono ?_
  rintro e w3 ⟨rfl, hw3⟩
  have hA3 := hA2.after hw3
  have hB3 := hB2.after hw3
  have hO3 := hO2.after hw3
  have hD3 := h2.after hw3
  have hbw3 := bel_step hbw2 hw3
  clear hA2 hB2 hO2 h2 hbw2 hw3 HE1
  have E2 := F.eval v1 _ _ _ _ w3 hO3 (by decide) (fun _ => by simp) (get2_is w3 b1 ⟨#[]⟩ (hB3.cell 0 rfl))
  rw [ev_add (v := 0) rfl (by decide) (by decide)] at E2
  have HE2 := Lib.hid E2
  clear E2
  go_wp2_with fail
  refine HE2.out.mono ?_
  rintro e w4 ⟨rfl, hw4⟩
  have hA4 := hA3.after hw4
  have hB4 := hB3.after hw4
  have hO4 := hO3.after hw4
  have hD4 := hD3.after hw4
  have hbw4 := bel_step hbw3 hw4
  clear hA3 hB3 hO3 hD3 hbw3 hw4 HE2
  have HE3 := Lib.hid (F.sum hO4 (by decide) (ev_add (v := 0) rfl (by decide) (by decide)))
  go_wp2_with fail
  refine HE3.out.mono ?_
  rintro e w5 ⟨rfl, hw5⟩
  have hA5 := hA4.after hw5
  have hB5 := hB4.after hw5
  have hD5 := hD4.after hw5
  have hbw5 := bel_step hbw4 hw5
  clear hA4 hB4 hO4 hD4 hbw4 hw5 HE3
  have HE4 := Lib.hid (F.sum hD5 (by decide) (ev_div rfl))
  go_wp2_with fail
  refine HE4.out.mono ?_
  rintro e w6 ⟨rfl, hw6⟩
  have hA6 := hA5.after hw6
  have hB6 := hB5.after hw6
  have hbw6 := bel_step hbw5 hw6
  clear hA5 hB5 hD5 hbw5 hw6 HE4
  have c0 := hA6.cell 0 rfl
  have c1 := hB6.cell 0 rfl
  clear hA6 hB6
  go_wp2_with fail
  refine (HN.out _).mono ?_
  rintro e w7 ⟨rfl, rfl⟩
  clear HN
  simp only [Option.getD, Option.isSome]
  go_wp2_with fail
  refine (FA.out _).mono ?_
  rintro e w8 ⟨rfl, hw8⟩
  have hbw8 := bel_step hbw6 hw8
  clear hbw6 hw8 c0 c1
  go_wp2
  go_ret
  exact ⟨rfl, hbw8⟩

set_option maxHeartbeats 8000000 in
set_option maxRecDepth 100000 in
theorem values_plain {P : List UInt8 → PRes} (F : ArithFace P) (A : AwakeP P) (V : ValuesP P) (n : Int) (s : ByteArray) (w : World) (hs : s.size ≤ 60) (hp : 0 < s.size) (h45 : s[0].toNat ≠ 45) (m : Int) (hm : numB s.data.toList = some m) :
    Calls Try.prog 4 #[.int .i64 n, .string s] w (Gives w (.bool true)) := by
  have hl2 : decide (60 < s.size) = false := decide_eq_false (by omega)
  obtain ⟨a1, a2⟩ := and_mask_le n 61 (by decide) 2305843009213693951 (by decide)
  obtain ⟨K, hK⟩ : ∃ K : Nat, bits .and .i64 n 2305843009213693951 = (K : Int) := ⟨(bits .and .i64 n 2305843009213693951).toNat, by omega⟩
  have hK5 : K ≤ 2305843009213693951 := by omega
  clear a1 a2
  have FA := Lib.hid (fun w => awake8_is F A w)
  have H1 := Lib.hid (F.text ⟨#[97, 43, 48]⟩ (by decide) V.one)
  have H2 := Lib.hid (F.text ⟨#[55, 47, 97]⟩ (by decide) V.two)
  have he := emp_falseV hp
  have g0 : ((s[0].toNat : Int) == 45) = false := by rw [beq_eq_false_iff_ne]; omega
  have h01 : (0 : Int) < (s.size : Int) := by omega
  have HN := Lib.hid (fun w => RNumber_at s _ w (by unfold maxLen; omega) hm)
  have hmr := numB_range hm
  have HV : Hid (valN s.data.toList = some m) := Lib.hid (valN_num hm)
  clear hm

  obtain ⟨U, hU⟩ : ∃ U : World, (w.alloc (.cells #[.int .i64 (K : Int)] 3)).alloc (.cells #[.string s] 9) = U := ⟨_, rfl⟩
  have hA : BlkAt U w.heap.size #[.int .i64 (K : Int)] 3 := by
    rw [← hU]
    exact (BlkAt.new w _ _).alloc _
  have hB : BlkAt U (w.heap.size + 1) #[.string s] 9 := by
    rw [← hU]
    exact BlkAt.new_at _ _ _ _ (by simp)
  have hb : Below w.heap.size w U := by
    rw [← hU]
    exact bel_alloc (bel_alloc (Below.refl _ _) _) _
  have HU := Lib.hid hU
  clear hU
  obtain ⟨b0, hb0⟩ : ∃ b, w.heap.size = b := ⟨_, rfl⟩
  obtain ⟨b1, hb1⟩ : ∃ b, w.heap.size + 1 = b := ⟨_, rfl⟩
  have HB0 := Lib.hid hb0
  have HB1 := Lib.hid hb1
  rw [hb0] at hA
  rw [hb1] at hB
  clear hb0 hb1
  go_enter Try.func4, Try.ntmps4
  go_wp2_with fail
  rw [HU.out, HB1.out, HB0.out]
  refine (H1.out _).mono ?_
  rintro e w1 ⟨v1, rfl, h1, hw1⟩
  have hA1 := hA.after hw1
  have hB1 := hB.after hw1
  have hbw1 := bel_step hb hw1
  clear hA hB hb hw1 H1 HU
  simp only [okR] at h1 ⊢
  go_wp2_with fail
  refine (H2.out _).mono ?_
  rintro e w2 ⟨v2, rfl, h2, hw2⟩
  have hA2 := hA1.after hw2
  have hB2 := hB1.after hw2
  have hO2 := h1.after hw2
  have hbw2 := bel_step hbw1 hw2
  clear hA1 hB1 h1 hbw1 hw2 H2
  simp only [okR] at h2 ⊢
  have E1 := F.eval v1 _ _ _ _ w2 hO2 (by decide) (fun _ => Nat.le_trans (itoa_len (K : Int) (by omega) (by omega)) (by decide)) (get1_is w2 b0 (K : Int) (by omega) (by omega) (hA2.cell 0 rfl))
  rw [ev_add (v := (K : Int)) (valN_itoa _ (by omega) (by omega)) (by omega) (by omega)] at E1
  have HE1 := Lib.hid E1
  clear E1
  go_wp2_with fail
  refine HE1.out.mono ?_
  rintro e w3 ⟨rfl, hw3⟩
  have hA3 := hA2.after hw3
  have hB3 := hB2.after hw3
  have hO3 := hO2.after hw3
  have hD3 := h2.after hw3
  have hbw3 := bel_step hbw2 hw3
  clear hA2 hB2 hO2 h2 hbw2 hw3 HE1
  have E2 := F.eval v1 _ _ _ _ w3 hO3 (by decide) (fun _ => by simp; omega) (get2_is w3 b1 s (hB3.cell 0 rfl))
  rw [ev_add (v := m) HV.out (by omega) (by omega)] at E2
  have HE2 := Lib.hid E2
  clear E2
  go_wp2_with fail
  refine HE2.out.mono ?_
  rintro e w4 ⟨rfl, hw4⟩
  have hA4 := hA3.after hw4
  have hB4 := hB3.after hw4
  have hO4 := hO3.after hw4
  have hD4 := hD3.after hw4
  have hbw4 := bel_step hbw3 hw4
  clear hA3 hB3 hO3 hD3 hbw3 hw4 HE2
  have HE3 := Lib.hid (F.sum hO4 (by decide) (ev_add (v := 0) rfl (by decide) (by decide)))
  go_wp2_with fail
  refine HE3.out.mono ?_
  rintro e w5 ⟨rfl, hw5⟩
  have hA5 := hA4.after hw5
  have hB5 := hB4.after hw5
  have hD5 := hD4.after hw5
  have hbw5 := bel_step hbw4 hw5
  clear hA4 hB4 hO4 hD4 hbw4 hw5 HE3
  have HE4 := Lib.hid (F.sum hD5 (by decide) (ev_div rfl))
  go_wp2_with fail
  refine HE4.out.mono ?_
  rintro e w6 ⟨rfl, hw6⟩
  have hA6 := hA5.after hw6
  have hB6 := hB5.after hw6
  have hbw6 := bel_step hbw5 hw6
  clear hA5 hB5 hD5 hbw5 hw6 HE4
  have c0 := hA6.cell 0 rfl
  have c1 := hB6.cell 0 rfl
  clear hA6 hB6
  go_wp2_with fail
  refine (HN.out _).mono ?_
  rintro e w7 ⟨rfl, rfl⟩
  clear HN
  simp only [Option.getD, Option.isSome]
  go_wp2_with fail
  refine (FA.out _).mono ?_
  rintro e w8 ⟨rfl, hw8⟩
  have hbw8 := bel_step hbw6 hw8
  clear hbw6 hw8 c0 c1
  go_wp2
  go_ret
  exact ⟨rfl, hbw8⟩

set_option maxHeartbeats 8000000 in
set_option maxRecDepth 100000 in
theorem values_plainBad {P : List UInt8 → PRes} (F : ArithFace P) (A : AwakeP P) (V : ValuesP P) (n : Int) (s : ByteArray) (w : World) (hs : s.size ≤ 60) (hp : 0 < s.size) (h45 : s[0].toNat ≠ 45) (hm : numB s.data.toList = none) :
    Calls Try.prog 4 #[.int .i64 n, .string s] w (Gives w (.bool true)) := by
  have hl2 : decide (60 < s.size) = false := decide_eq_false (by omega)
  obtain ⟨a1, a2⟩ := and_mask_le n 61 (by decide) 2305843009213693951 (by decide)
  obtain ⟨K, hK⟩ : ∃ K : Nat, bits .and .i64 n 2305843009213693951 = (K : Int) := ⟨(bits .and .i64 n 2305843009213693951).toNat, by omega⟩
  have hK5 : K ≤ 2305843009213693951 := by omega
  clear a1 a2
  have FA := Lib.hid (fun w => awake8_is F A w)
  have H1 := Lib.hid (F.text ⟨#[97, 43, 48]⟩ (by decide) V.one)
  have H2 := Lib.hid (F.text ⟨#[55, 47, 97]⟩ (by decide) V.two)
  have he := emp_falseV hp
  have g0 : ((s[0].toNat : Int) == 45) = false := by rw [beq_eq_false_iff_ne]; omega
  have h01 : (0 : Int) < (s.size : Int) := by omega
  have HN := Lib.hid (fun w => RNumber_at s _ w (by unfold maxLen; omega) hm)
  have HV : Hid (valN s.data.toList = none) := Lib.hid (by rw [cons_of hp] at hm ⊢; rw [valN_plain _ (fun h => h45 (by rw [h]; rfl))]; exact hm)
  clear hm

  obtain ⟨U, hU⟩ : ∃ U : World, (w.alloc (.cells #[.int .i64 (K : Int)] 3)).alloc (.cells #[.string s] 9) = U := ⟨_, rfl⟩
  have hA : BlkAt U w.heap.size #[.int .i64 (K : Int)] 3 := by
    rw [← hU]
    exact (BlkAt.new w _ _).alloc _
  have hB : BlkAt U (w.heap.size + 1) #[.string s] 9 := by
    rw [← hU]
    exact BlkAt.new_at _ _ _ _ (by simp)
  have hb : Below w.heap.size w U := by
    rw [← hU]
    exact bel_alloc (bel_alloc (Below.refl _ _) _) _
  have HU := Lib.hid hU
  clear hU
  obtain ⟨b0, hb0⟩ : ∃ b, w.heap.size = b := ⟨_, rfl⟩
  obtain ⟨b1, hb1⟩ : ∃ b, w.heap.size + 1 = b := ⟨_, rfl⟩
  have HB0 := Lib.hid hb0
  have HB1 := Lib.hid hb1
  rw [hb0] at hA
  rw [hb1] at hB
  clear hb0 hb1
  go_enter Try.func4, Try.ntmps4
  go_wp2_with fail
  rw [HU.out, HB1.out, HB0.out]
  refine (H1.out _).mono ?_
  rintro e w1 ⟨v1, rfl, h1, hw1⟩
  have hA1 := hA.after hw1
  have hB1 := hB.after hw1
  have hbw1 := bel_step hb hw1
  clear hA hB hb hw1 H1 HU
  simp only [okR] at h1 ⊢
  go_wp2_with fail
  refine (H2.out _).mono ?_
  rintro e w2 ⟨v2, rfl, h2, hw2⟩
  have hA2 := hA1.after hw2
  have hB2 := hB1.after hw2
  have hO2 := h1.after hw2
  have hbw2 := bel_step hbw1 hw2
  clear hA1 hB1 h1 hbw1 hw2 H2
  simp only [okR] at h2 ⊢
  have E1 := F.eval v1 _ _ _ _ w2 hO2 (by decide) (fun _ => Nat.le_trans (itoa_len (K : Int) (by omega) (by omega)) (by decide)) (get1_is w2 b0 (K : Int) (by omega) (by omega) (hA2.cell 0 rfl))
  rw [ev_add (v := (K : Int)) (valN_itoa _ (by omega) (by omega)) (by omega) (by omega)] at E1
  have HE1 := Lib.hid E1
  clear E1
  go_wp2_with fail
  refine HE1.out.mono ?_
  rintro e w3 ⟨rfl, hw3⟩
  have hA3 := hA2.after hw3
  have hB3 := hB2.after hw3
  have hO3 := hO2.after hw3
  have hD3 := h2.after hw3
  have hbw3 := bel_step hbw2 hw3
  clear hA2 hB2 hO2 h2 hbw2 hw3 HE1
  have E2 := F.eval v1 _ _ _ _ w3 hO3 (by decide) (fun _ => by simp; omega) (get2_is w3 b1 s (hB3.cell 0 rfl))
  rw [ev_bad HV.out] at E2
  have HE2 := Lib.hid E2
  clear E2
  go_wp2_with fail
  refine HE2.out.mono ?_
  rintro e w4 ⟨rfl, hw4⟩
  have hA4 := hA3.after hw4
  have hB4 := hB3.after hw4
  have hO4 := hO3.after hw4
  have hD4 := hD3.after hw4
  have hbw4 := bel_step hbw3 hw4
  clear hA3 hB3 hO3 hD3 hbw3 hw4 HE2
  have HE3 := Lib.hid (F.sum hO4 (by decide) (ev_add (v := 0) rfl (by decide) (by decide)))
  go_wp2_with fail
  refine HE3.out.mono ?_
  rintro e w5 ⟨rfl, hw5⟩
  have hA5 := hA4.after hw5
  have hB5 := hB4.after hw5
  have hD5 := hD4.after hw5
  have hbw5 := bel_step hbw4 hw5
  clear hA4 hB4 hO4 hD4 hbw4 hw5 HE3
  have HE4 := Lib.hid (F.sum hD5 (by decide) (ev_div rfl))
  go_wp2_with fail
  refine HE4.out.mono ?_
  rintro e w6 ⟨rfl, hw6⟩
  have hA6 := hA5.after hw6
  have hB6 := hB5.after hw6
  have hbw6 := bel_step hbw5 hw6
  clear hA5 hB5 hD5 hbw5 hw6 HE4
  have c0 := hA6.cell 0 rfl
  have c1 := hB6.cell 0 rfl
  clear hA6 hB6
  go_wp2_with fail
  refine (HN.out _).mono ?_
  rintro e w7 ⟨rfl, rfl⟩
  clear HN
  simp only [Option.getD, Option.isSome]
  go_wp2_with fail
  refine (FA.out _).mono ?_
  rintro e w8 ⟨rfl, hw8⟩
  have hbw8 := bel_step hbw6 hw8
  clear hbw6 hw8 c0 c1
  go_wp2
  go_ret
  exact ⟨rfl, hbw8⟩

set_option maxHeartbeats 8000000 in
set_option maxRecDepth 100000 in
theorem values_minus {P : List UInt8 → PRes} (F : ArithFace P) (A : AwakeP P) (V : ValuesP P) (n : Int) (s : ByteArray) (w : World) (hs : s.size ≤ 60) (hp : 0 < s.size) (h45 : s[0].toNat = 45) (m : Int) (hm : numB (s.data.toList.drop 1) = some m) :
    Calls Try.prog 4 #[.int .i64 n, .string s] w (Gives w (.bool true)) := by
  have hl2 : decide (60 < s.size) = false := decide_eq_false (by omega)
  obtain ⟨a1, a2⟩ := and_mask_le n 61 (by decide) 2305843009213693951 (by decide)
  obtain ⟨K, hK⟩ : ∃ K : Nat, bits .and .i64 n 2305843009213693951 = (K : Int) := ⟨(bits .and .i64 n 2305843009213693951).toNat, by omega⟩
  have hK5 : K ≤ 2305843009213693951 := by omega
  clear a1 a2
  have FA := Lib.hid (fun w => awake8_is F A w)
  have H1 := Lib.hid (F.text ⟨#[97, 43, 48]⟩ (by decide) V.one)
  have H2 := Lib.hid (F.text ⟨#[55, 47, 97]⟩ (by decide) V.two)
  have he := emp_falseV hp
  have g0 : ((s[0].toNat : Int) == 45) = true := by rw [h45]; rfl
  have h01 : (0 : Int) < (s.size : Int) := by omega
  have h02 : (1 : Int) ≤ (s.size : Int) := by omega
  obtain ⟨D, hD⟩ : ∃ D, s.extract 1 s.size = D := ⟨_, rfl⟩
  have HD := Lib.hid hD
  have hDd : D.data.toList = s.data.toList.drop 1 := by rw [← hD]; exact ext_drop1V s
  have hDs : D.size + 1 = s.size := by
    have := congrArg List.length hDd
    simp at this
    omega
  have hDne : (D.toList == s.toList) = false := by
    rw [beq_eq_false_iff_ne]
    intro h
    have := congrArg List.length h
    rw [toList_data, toList_data] at this
    simp at this
    omega
  have HN := Lib.hid (fun w => RNumber_at D _ w (by unfold maxLen; omega) ((congrArg numB hDd).trans hm))
  clear hD hDd
  have hmr := numB_range hm
  have HV : Hid (valN s.data.toList = some (-m)) := Lib.hid (by rw [cons_of hp, show s[0] = 45 from UInt8.toNat_inj.1 h45, valN_minus, hm]; try rfl)
  clear hm h45

  obtain ⟨U, hU⟩ : ∃ U : World, (w.alloc (.cells #[.int .i64 (-(K : Int))] 3)).alloc (.cells #[.string s] 9) = U := ⟨_, rfl⟩
  have hA : BlkAt U w.heap.size #[.int .i64 (-(K : Int))] 3 := by
    rw [← hU]
    exact (BlkAt.new w _ _).alloc _
  have hB : BlkAt U (w.heap.size + 1) #[.string s] 9 := by
    rw [← hU]
    exact BlkAt.new_at _ _ _ _ (by simp)
  have hb : Below w.heap.size w U := by
    rw [← hU]
    exact bel_alloc (bel_alloc (Below.refl _ _) _) _
  have HU := Lib.hid hU
  clear hU
  obtain ⟨b0, hb0⟩ : ∃ b, w.heap.size = b := ⟨_, rfl⟩
  obtain ⟨b1, hb1⟩ : ∃ b, w.heap.size + 1 = b := ⟨_, rfl⟩
  have HB0 := Lib.hid hb0
  have HB1 := Lib.hid hb1
  rw [hb0] at hA
  rw [hb1] at hB
  clear hb0 hb1
  go_enter Try.func4, Try.ntmps4
  go_wp2_with fail
  rw [HU.out, HB1.out, HB0.out]
  refine (H1.out _).mono ?_
  rintro e w1 ⟨v1, rfl, h1, hw1⟩
  have hA1 := hA.after hw1
  have hB1 := hB.after hw1
  have hbw1 := bel_step hb hw1
  clear hA hB hb hw1 H1 HU
  simp only [okR] at h1 ⊢
  go_wp2_with fail
  refine (H2.out _).mono ?_
  rintro e w2 ⟨v2, rfl, h2, hw2⟩
  have hA2 := hA1.after hw2
  have hB2 := hB1.after hw2
  have hO2 := h1.after hw2
  have hbw2 := bel_step hbw1 hw2
  clear hA1 hB1 h1 hbw1 hw2 H2
  simp only [okR] at h2 ⊢
  have E1 := F.eval v1 _ _ _ _ w2 hO2 (by decide) (fun _ => Nat.le_trans (itoa_len (-(K : Int)) (by omega) (by omega)) (by decide)) (get1_is w2 b0 (-(K : Int)) (by omega) (by omega) (hA2.cell 0 rfl))
  rw [ev_add (v := (-(K : Int))) (valN_itoa _ (by omega) (by omega)) (by omega) (by omega)] at E1
  have HE1 := Lib.hid E1
  clear E1
  go_wp2_with fail
  refine HE1.out.mono ?_
  rintro e w3 ⟨rfl, hw3⟩
  have hA3 := hA2.after hw3
  have hB3 := hB2.after hw3
  have hO3 := hO2.after hw3
  have hD3 := h2.after hw3
  have hbw3 := bel_step hbw2 hw3
  clear hA2 hB2 hO2 h2 hbw2 hw3 HE1
  have E2 := F.eval v1 _ _ _ _ w3 hO3 (by decide) (fun _ => by simp; omega) (get2_is w3 b1 s (hB3.cell 0 rfl))
  rw [ev_add (v := -m) HV.out (by omega) (by omega)] at E2
  have HE2 := Lib.hid E2
  clear E2
  go_wp2_with fail
  refine HE2.out.mono ?_
  rintro e w4 ⟨rfl, hw4⟩
  have hA4 := hA3.after hw4
  have hB4 := hB3.after hw4
  have hO4 := hO3.after hw4
  have hD4 := hD3.after hw4
  have hbw4 := bel_step hbw3 hw4
  clear hA3 hB3 hO3 hD3 hbw3 hw4 HE2
  have HE3 := Lib.hid (F.sum hO4 (by decide) (ev_add (v := 0) rfl (by decide) (by decide)))
  go_wp2_with fail
  refine HE3.out.mono ?_
  rintro e w5 ⟨rfl, hw5⟩
  have hA5 := hA4.after hw5
  have hB5 := hB4.after hw5
  have hD5 := hD4.after hw5
  have hbw5 := bel_step hbw4 hw5
  clear hA4 hB4 hO4 hD4 hbw4 hw5 HE3
  have HE4 := Lib.hid (F.sum hD5 (by decide) (ev_div rfl))
  go_wp2_with fail
  refine HE4.out.mono ?_
  rintro e w6 ⟨rfl, hw6⟩
  have hA6 := hA5.after hw6
  have hB6 := hB5.after hw6
  have hbw6 := bel_step hbw5 hw6
  clear hA5 hB5 hD5 hbw5 hw6 HE4
  have c0 := hA6.cell 0 rfl
  have c1 := hB6.cell 0 rfl
  clear hA6 hB6
  go_wp2_with fail
  rw [HD.out]
  refine (HN.out _).mono ?_
  rintro e w7 ⟨rfl, rfl⟩
  clear HN
  simp only [Option.getD, Option.isSome]
  go_wp2_with fail
  refine (FA.out _).mono ?_
  rintro e w8 ⟨rfl, hw8⟩
  have hbw8 := bel_step hbw6 hw8
  clear hbw6 hw8 c0 c1
  go_wp2
  go_ret
  exact ⟨rfl, hbw8⟩

set_option maxHeartbeats 8000000 in
set_option maxRecDepth 100000 in
theorem values_minusBad {P : List UInt8 → PRes} (F : ArithFace P) (A : AwakeP P) (V : ValuesP P) (n : Int) (s : ByteArray) (w : World) (hs : s.size ≤ 60) (hp : 0 < s.size) (h45 : s[0].toNat = 45) (hm : numB (s.data.toList.drop 1) = none) :
    Calls Try.prog 4 #[.int .i64 n, .string s] w (Gives w (.bool true)) := by
  have hl2 : decide (60 < s.size) = false := decide_eq_false (by omega)
  obtain ⟨a1, a2⟩ := and_mask_le n 61 (by decide) 2305843009213693951 (by decide)
  obtain ⟨K, hK⟩ : ∃ K : Nat, bits .and .i64 n 2305843009213693951 = (K : Int) := ⟨(bits .and .i64 n 2305843009213693951).toNat, by omega⟩
  have hK5 : K ≤ 2305843009213693951 := by omega
  clear a1 a2
  have FA := Lib.hid (fun w => awake8_is F A w)
  have H1 := Lib.hid (F.text ⟨#[97, 43, 48]⟩ (by decide) V.one)
  have H2 := Lib.hid (F.text ⟨#[55, 47, 97]⟩ (by decide) V.two)
  have he := emp_falseV hp
  have g0 : ((s[0].toNat : Int) == 45) = true := by rw [h45]; rfl
  have h01 : (0 : Int) < (s.size : Int) := by omega
  have h02 : (1 : Int) ≤ (s.size : Int) := by omega
  obtain ⟨D, hD⟩ : ∃ D, s.extract 1 s.size = D := ⟨_, rfl⟩
  have HD := Lib.hid hD
  have hDd : D.data.toList = s.data.toList.drop 1 := by rw [← hD]; exact ext_drop1V s
  have hDs : D.size + 1 = s.size := by
    have := congrArg List.length hDd
    simp at this
    omega
  have hDne : (D.toList == s.toList) = false := by
    rw [beq_eq_false_iff_ne]
    intro h
    have := congrArg List.length h
    rw [toList_data, toList_data] at this
    simp at this
    omega
  have HN := Lib.hid (fun w => RNumber_at D _ w (by unfold maxLen; omega) ((congrArg numB hDd).trans hm))
  clear hD hDd
  have HV : Hid (valN s.data.toList = none) := Lib.hid (by rw [cons_of hp, show s[0] = 45 from UInt8.toNat_inj.1 h45, valN_minus, hm]; rfl)
  clear hm h45

  obtain ⟨U, hU⟩ : ∃ U : World, (w.alloc (.cells #[.int .i64 (-(K : Int))] 3)).alloc (.cells #[.string s] 9) = U := ⟨_, rfl⟩
  have hA : BlkAt U w.heap.size #[.int .i64 (-(K : Int))] 3 := by
    rw [← hU]
    exact (BlkAt.new w _ _).alloc _
  have hB : BlkAt U (w.heap.size + 1) #[.string s] 9 := by
    rw [← hU]
    exact BlkAt.new_at _ _ _ _ (by simp)
  have hb : Below w.heap.size w U := by
    rw [← hU]
    exact bel_alloc (bel_alloc (Below.refl _ _) _) _
  have HU := Lib.hid hU
  clear hU
  obtain ⟨b0, hb0⟩ : ∃ b, w.heap.size = b := ⟨_, rfl⟩
  obtain ⟨b1, hb1⟩ : ∃ b, w.heap.size + 1 = b := ⟨_, rfl⟩
  have HB0 := Lib.hid hb0
  have HB1 := Lib.hid hb1
  rw [hb0] at hA
  rw [hb1] at hB
  clear hb0 hb1
  go_enter Try.func4, Try.ntmps4
  go_wp2_with fail
  rw [HU.out, HB1.out, HB0.out]
  refine (H1.out _).mono ?_
  rintro e w1 ⟨v1, rfl, h1, hw1⟩
  have hA1 := hA.after hw1
  have hB1 := hB.after hw1
  have hbw1 := bel_step hb hw1
  clear hA hB hb hw1 H1 HU
  simp only [okR] at h1 ⊢
  go_wp2_with fail
  refine (H2.out _).mono ?_
  rintro e w2 ⟨v2, rfl, h2, hw2⟩
  have hA2 := hA1.after hw2
  have hB2 := hB1.after hw2
  have hO2 := h1.after hw2
  have hbw2 := bel_step hbw1 hw2
  clear hA1 hB1 h1 hbw1 hw2 H2
  simp only [okR] at h2 ⊢
  have E1 := F.eval v1 _ _ _ _ w2 hO2 (by decide) (fun _ => Nat.le_trans (itoa_len (-(K : Int)) (by omega) (by omega)) (by decide)) (get1_is w2 b0 (-(K : Int)) (by omega) (by omega) (hA2.cell 0 rfl))
  rw [ev_add (v := (-(K : Int))) (valN_itoa _ (by omega) (by omega)) (by omega) (by omega)] at E1
  have HE1 := Lib.hid E1
  clear E1
  go_wp2_with fail
  refine HE1.out.mono ?_
  rintro e w3 ⟨rfl, hw3⟩
  have hA3 := hA2.after hw3
  have hB3 := hB2.after hw3
  have hO3 := hO2.after hw3
  have hD3 := h2.after hw3
  have hbw3 := bel_step hbw2 hw3
  clear hA2 hB2 hO2 h2 hbw2 hw3 HE1
  have E2 := F.eval v1 _ _ _ _ w3 hO3 (by decide) (fun _ => by simp; omega) (get2_is w3 b1 s (hB3.cell 0 rfl))
  rw [ev_bad HV.out] at E2
  have HE2 := Lib.hid E2
  clear E2
  go_wp2_with fail
  refine HE2.out.mono ?_
  rintro e w4 ⟨rfl, hw4⟩
  have hA4 := hA3.after hw4
  have hB4 := hB3.after hw4
  have hO4 := hO3.after hw4
  have hD4 := hD3.after hw4
  have hbw4 := bel_step hbw3 hw4
  clear hA3 hB3 hO3 hD3 hbw3 hw4 HE2
  have HE3 := Lib.hid (F.sum hO4 (by decide) (ev_add (v := 0) rfl (by decide) (by decide)))
  go_wp2_with fail
  refine HE3.out.mono ?_
  rintro e w5 ⟨rfl, hw5⟩
  have hA5 := hA4.after hw5
  have hB5 := hB4.after hw5
  have hD5 := hD4.after hw5
  have hbw5 := bel_step hbw4 hw5
  clear hA4 hB4 hO4 hD4 hbw4 hw5 HE3
  have HE4 := Lib.hid (F.sum hD5 (by decide) (ev_div rfl))
  go_wp2_with fail
  refine HE4.out.mono ?_
  rintro e w6 ⟨rfl, hw6⟩
  have hA6 := hA5.after hw6
  have hB6 := hB5.after hw6
  have hbw6 := bel_step hbw5 hw6
  clear hA5 hB5 hD5 hbw5 hw6 HE4
  have c0 := hA6.cell 0 rfl
  have c1 := hB6.cell 0 rfl
  clear hA6 hB6
  go_wp2_with fail
  rw [HD.out]
  refine (HN.out _).mono ?_
  rintro e w7 ⟨rfl, rfl⟩
  clear HN
  simp only [Option.getD, Option.isSome]
  go_wp2_with fail
  refine (FA.out _).mono ?_
  rintro e w8 ⟨rfl, hw8⟩
  have hbw8 := bel_step hbw6 hw8
  clear hbw6 hw8 c0 c1
  go_wp2
  go_ret
  exact ⟨rfl, hbw8⟩

set_option maxHeartbeats 2000000 in
set_option maxRecDepth 100000 in
theorem ArithValues_walk {P : List UInt8 → PRes} (F : ArithFace P) (A : AwakeP P) (V : ValuesP P) (n : Int) (s : ByteArray) (w : World) (hs : s.size ≤ maxLen) :
    Calls Try.prog 4 #[.int .i64 n, .string s] w (Gives w (.bool true)) := by
  by_cases hl : 60 < s.size
  · unfold maxLen at hs
    go_enter Try.func4, Try.ntmps4
    go_wp2_with fail
    refine (awake8_is F A _).mono ?_
    rintro e w2 ⟨rfl, hb2⟩
    have hb3 := bel_step (bel_alloc (bel_alloc (Below.refl _ w) _) _) hb2
    clear hb2
    go_wp2
    go_ret
    exact ⟨rfl, hb3⟩
  have hl1 : s.size ≤ 60 := by omega
  by_cases hz : s.size = 0
  · have he : s = ⟨#[]⟩ := by
      obtain ⟨⟨l⟩⟩ := s
      have : l = [] := List.eq_nil_of_length_eq_zero hz
      rw [this]
    subst he
    exact values_empty F A V n w
  have hp : 0 < s.size := by omega
  by_cases h45 : s[0].toNat = 45
  · cases hm : numB (s.data.toList.drop 1) with
    | none => exact values_minusBad F A V n s w hl1 hp h45 hm
    | some m => exact values_minus F A V n s w hl1 hp h45 m hm
  · cases hm : numB s.data.toList with
    | none => exact values_plainBad F A V n s w hl1 hp h45 hm
    | some m => exact values_plain F A V n s w hl1 hp h45 m hm
end Go.Proofs.Ytekpopopibhjbaa
