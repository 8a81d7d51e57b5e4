/-
  conchlaw8.ArithDeep returns true at any number, parentheses or signs, over package arith's contracts.
-/
import Derived.Test.YtekpopopibhjbaaArFace
import Derived.Test.YtekpopopibhjbaaBits
namespace Go.Proofs.Ytekpopopibhjbaa
open Go.RowKit

/-- what is asked of deep sums -/
structure DeepP (P : List UInt8 → PRes) : Prop where
  par : ∀ n : Nat, n ≤ 20 → P (List.replicate n 40 ++ [53] ++ List.replicate n 41) = okR [numO 5]
  neg : ∀ n : Nat, n ≤ 20 → P (List.replicate n 45 ++ [53]) = okR (numO 5 :: List.replicate n (opO 3))
  parBad : ∀ n : Nat, 20 < n → n < 40 → P (List.replicate n 40 ++ [53] ++ List.replicate n 41) = ⟨[], 20, 5⟩
  negBad : ∀ n : Nat, 20 < n → n < 40 → P (List.replicate n 45 ++ [53]) = ⟨[], 20, 5⟩
  unshut : ∀ n : Nat, 1 ≤ n → n ≤ 20 → P (List.replicate n 40 ++ [53] ++ List.replicate (n - 1) 41) = ⟨[], 2 * (n : Int), 6⟩

theorem rep_snoc (k : Nat) (c : UInt8) (X : ByteArray) (h : X.data.toList = List.replicate k c) : (X ++ ⟨#[c]⟩).data.toList = List.replicate (k + 1) c := by
  rw [ByteArray.data_append, Array.toList_append, h, List.replicate_succ']
theorem rep_size {k : Nat} {c : UInt8} {X : ByteArray} (h : X.data.toList = List.replicate k c) : X.size = k := by
  have := congrArg List.length h
  simpa using this
theorem ext_drop1 (T : ByteArray) : (T.extract 1 T.size).data.toList = T.data.toList.drop 1 ∧ (T.extract 1 T.size).size ≤ T.size := by
  rw [extract_bytes]
  constructor
  · show (T.data.toList.drop 1).take (T.size - 1) = _
    rw [List.take_of_length_le (by simp)]
  · show ((T.data.toList.drop 1).take (T.size - 1)).toArray.size ≤ _
    simp
theorem eval_negs (n : Nat) : evalP noVal (numO 5 :: List.replicate n (opO 3)) = (if n % 2 = 0 then 5 else -5, 0) := eval_of (by rw [run_num]; exact run_negs n 5 (.inl rfl))
theorem names_negs (n : Nat) : ∀ o ∈ (numO 5 :: List.replicate n (opO 3)), o.name.length ≤ 100000 := fun o ho => by
  rcases List.mem_cons.1 ho with h | h
  · rw [h]; exact Nat.zero_le _
  · rw [(List.mem_replicate.1 h).2]; exact Nat.zero_le _

set_option maxHeartbeats 8000000 in
set_option maxRecDepth 100000 in
theorem ArithDeep_walk {P : List UInt8 → PRes} (F : ArithFace P) (A : AwakeP P) (D : DeepP P) (n : Int) (sign : Bool) (w : World) :
    Calls Try.prog 5 #[.int .i64 n, .bool sign] w (Gives w (.bool true)) := by
  obtain ⟨a1, a2⟩ := and_mask_le n 8 (by decide) 255 (by decide)
  obtain ⟨K, hK⟩ : ∃ K : Nat, bits .and .i64 n 255 = (K : Int) := ⟨(bits .and .i64 n 255).toNat, by omega⟩
  have hK5 : K ≤ 255 := by omega
  clear a1 a2
  obtain ⟨N, hN⟩ : ∃ N : Nat, K % 40 = N := ⟨_, rfl⟩
  have hNi : (K : Int) % 40 = (N : Int) := by omega
  have hN4 : N < 40 := by omega
  clear hN
  have FA := Lib.hid (fun w => awake8_is F A w)
  cases sign with
  | true =>
    go_enter Try.func5, Try.ntmps5
    go_wp2
    go_loop [5, 6, 7] (fun x y i => ∃ (X : ByteArray) (k : Nat), k ≤ N ∧ X.size = k ∧ x = .string X ∧ y = .string ⟨#[]⟩ ∧ i = .int .i64 (k : Int) ∧ Hid (X.data.toList = List.replicate k 45)) (fun _ _ i => N - (intOf i).toNat)
    case atStart => exact ⟨⟨#[]⟩, 0, Nat.zero_le _, rfl, rfl, rfl, rfl, Lib.hid rfl⟩
    case round =>
      obtain ⟨X, k, hk, hXk, rfl, rfl, rfl, HX⟩ := hrel
      have hXs : X.size ≤ 40 := by omega
      clear hXk
      by_cases hkn : k < N
      · have hki : (k : Int) < (N : Int) := by omega
        have HX2 := Lib.hid (rep_snoc k 45 X HX.out)
        go_wp2
        go_round
        case rel => exact ⟨_, k + 1, by omega, rep_size HX2.out, rfl, rfl, by go_num, HX2⟩
        case measure => simp [intOf]; omega
      · have hkN : N = k := by omega
        subst hkN
        have hXm : (X ++ ⟨#[53]⟩).size ≤ 1000 := by rw [ByteArray.size_append]; show X.size + 1 ≤ _; omega
        have HL : Hid ((X ++ ⟨#[53]⟩ ++ ⟨#[]⟩ : ByteArray).data.toList = List.replicate N 45 ++ [53]) := Lib.hid (by simp [ByteArray.data_append, HX.out])
        have HLs : Hid ((X ++ ⟨#[53]⟩ ++ ⟨#[]⟩ : ByteArray).size ≤ 100000) := Lib.hid (by rw [ByteArray.size_append, ByteArray.size_append]; show X.size + 1 + 0 ≤ _; omega)
        by_cases hd : 20 < N
        · have H1 := Lib.hid (F.text _ HLs.out ((congrArg P HL.out).trans (D.negBad N hd (by omega))))
          have hdi : decide ((20 : Int) < (N : Int)) = true := decide_eq_true (by omega)
          have hdi2 : decide (20 < N) = true := decide_eq_true hd
          clear HL HLs HX
          go_wp2_with fail
          refine (H1.out _).mono ?_
          rintro e w1 ⟨v1, rfl, h1, hb1⟩
          obtain ⟨ao, cap, rfl, _, _, _⟩ := h1
          clear H1
          go_wp2_with fail
          refine (FA.out _).mono ?_
          rintro e w2 ⟨rfl, hb2⟩
          have hb3 := bel_step hb1 hb2
          clear hb1 hb2
          go_wp2
          go_ret
          exact ⟨rfl, hb3⟩
        · have H1 := Lib.hid (F.text _ HLs.out ((congrArg P HL.out).trans (D.neg N (by omega))))
          have hdi : decide ((20 : Int) < (N : Int)) = false := decide_eq_false (by omega)
          have hdi2 : decide (20 < N) = false := decide_eq_false hd
          have hm := and_mask (N : Int) 1 (by decide) 1 (by decide)
          clear HL HLs HX
          go_wp2_with fail
          refine (H1.out _).mono ?_
          rintro e w1 ⟨v1, rfl, h1, hb1⟩
          have E1 := Lib.hid (F.sum h1 (names_negs N) (eval_negs N))
          clear h1 H1
          simp only [okR]
          rcases (show N % 2 = 0 ∨ N % 2 = 1 by omega) with h2 | h2
          · have hm2 : bits .and .i64 (N : Int) 1 = 0 := by rw [hm]; omega
            rw [h2] at E1
            clear hm h2
            go_wp2_with fail
            refine E1.out.mono ?_
            rintro e w2 ⟨rfl, hb2⟩
            have hb3 := bel_step hb1 hb2
            clear hb1 hb2 E1
            simp only [if_true]
            go_wp2_with fail
            refine (FA.out _).mono ?_
            rintro e w4 ⟨rfl, hb4⟩
            have hb5 := bel_step hb3 hb4
            clear hb3 hb4
            go_wp2
            go_ret
            exact ⟨rfl, hb5⟩
          · have hm2 : bits .and .i64 (N : Int) 1 = 1 := by rw [hm]; omega
            rw [h2] at E1
            clear hm h2
            go_wp2_with fail
            refine E1.out.mono ?_
            rintro e w2 ⟨rfl, hb2⟩
            have hb3 := bel_step hb1 hb2
            clear hb1 hb2 E1
            rw [show (if 1 = 0 then (5 : Int) else -5) = -5 from rfl]
            go_wp2_with fail
            refine (FA.out _).mono ?_
            rintro e w4 ⟨rfl, hb4⟩
            have hb5 := bel_step hb3 hb4
            clear hb3 hb4
            go_wp2
            go_ret
            exact ⟨rfl, hb5⟩
  | false =>
    go_enter Try.func5, Try.ntmps5
    go_wp2
    go_loop [5, 6, 7] (fun x y i => ∃ (X Y : ByteArray) (k : Nat), k ≤ N ∧ X.size = k ∧ Y.size = k ∧ x = .string X ∧ y = .string Y ∧ i = .int .i64 (k : Int) ∧ Hid (X.data.toList = List.replicate k 40) ∧ Hid (Y.data.toList = List.replicate k 41)) (fun _ _ i => N - (intOf i).toNat)
    case atStart => exact ⟨⟨#[]⟩, ⟨#[]⟩, 0, Nat.zero_le _, rfl, rfl, rfl, rfl, rfl, Lib.hid rfl, Lib.hid rfl⟩
    case round =>
      obtain ⟨X, Y, k, hk, hXk, hYk, rfl, rfl, rfl, HX, HY⟩ := hrel
      have hXs : X.size ≤ 40 := by omega
      have hYs : Y.size ≤ 40 := by omega
      have HYk := Lib.hid hYk
      clear hXk hYk
      by_cases hkn : k < N
      · have hki : (k : Int) < (N : Int) := by omega
        have HX2 := Lib.hid (rep_snoc k 40 X HX.out)
        have HY2 := Lib.hid (rep_snoc k 41 Y HY.out)
        go_wp2
        go_round
        case rel => exact ⟨_, _, k + 1, by omega, rep_size HX2.out, rep_size HY2.out, rfl, rfl, by go_num, HX2, HY2⟩
        case measure => simp [intOf]; omega
      · have hkN : N = k := by omega
        subst hkN
        have hXm : (X ++ ⟨#[53]⟩).size ≤ 1000 := by rw [ByteArray.size_append]; show X.size + 1 ≤ _; omega
        have HL : Hid ((X ++ ⟨#[53]⟩ ++ Y : ByteArray).data.toList = List.replicate N 40 ++ [53] ++ List.replicate N 41) := Lib.hid (by simp [ByteArray.data_append, HX.out, HY.out])
        have HLs : Hid ((X ++ ⟨#[53]⟩ ++ Y : ByteArray).size ≤ 100000) := Lib.hid (by rw [ByteArray.size_append, ByteArray.size_append]; show X.size + 1 + Y.size ≤ _; omega)
        by_cases hd : 20 < N
        · have H1 := Lib.hid (F.text _ HLs.out ((congrArg P HL.out).trans (D.parBad N hd (by omega))))
          have hdi : decide ((20 : Int) < (N : Int)) = true := decide_eq_true (by omega)
          have hdi2 : decide (20 < N) = true := decide_eq_true hd
          clear HL HLs HX HY
          go_wp2_with fail
          refine (H1.out _).mono ?_
          rintro e w1 ⟨v1, rfl, h1, hb1⟩
          obtain ⟨ao, cap, rfl, _, _, _⟩ := h1
          clear H1
          go_wp2_with fail
          refine (FA.out _).mono ?_
          rintro e w2 ⟨rfl, hb2⟩
          have hb3 := bel_step hb1 hb2
          clear hb1 hb2
          go_wp2
          go_ret
          exact ⟨rfl, hb3⟩
        · have H1 := Lib.hid (F.text _ HLs.out ((congrArg P HL.out).trans (D.par N (by omega))))
          have hdi : decide ((20 : Int) < (N : Int)) = false := decide_eq_false (by omega)
          have hdi2 : decide (20 < N) = false := decide_eq_false hd
          have HE : Hid (evalP noVal [numO 5] = (5, 0)) := Lib.hid (by kernel_rfl)
          clear HL HLs
          by_cases hz : N = 0
          · subst hz
            clear HX HY
            go_wp2_with fail
            refine (H1.out _).mono ?_
            rintro e w1 ⟨v1, rfl, h1, hb1⟩
            have E1 := Lib.hid (F.sum h1 (by decide) HE.out)
            clear h1 H1
            simp only [okR]
            go_wp2_with fail
            refine E1.out.mono ?_
            rintro e w2 ⟨rfl, hb2⟩
            have hb3 := bel_step hb1 hb2
            clear hb1 hb2 E1
            go_wp2_with fail
            refine (FA.out _).mono ?_
            rintro e w4 ⟨rfl, hb4⟩
            have hb5 := bel_step hb3 hb4
            clear hb3 hb4
            go_wp2
            go_ret
            exact ⟨rfl, hb5⟩
          · have hzb : ((N : Int) == 0) = false := by rw [beq_eq_false_iff_ne]; omega
            have h1y : (1 : Int) ≤ (Y.size : Int) := by have := HYk.out; omega
            obtain ⟨Z, hZ⟩ : ∃ Z, Y.extract 1 Y.size = Z := ⟨_, rfl⟩
            have HZd : Hid (Z.data.toList = List.replicate (N - 1) 41) := Lib.hid (by
              rw [← hZ, (ext_drop1 Y).1, HY.out, List.drop_replicate])
            have hZs : Z.size ≤ 40 := by rw [rep_size HZd.out]; omega
            have HZ := Lib.hid hZ
            clear hZ
            have HL2 : Hid ((X ++ ⟨#[53]⟩ ++ Z : ByteArray).data.toList = List.replicate N 40 ++ [53] ++ List.replicate (N - 1) 41) := Lib.hid (by simp [ByteArray.data_append, HX.out, HZd.out])
            have H2 := Lib.hid (F.text (X ++ ⟨#[53]⟩ ++ Z) (by rw [ByteArray.size_append, ByteArray.size_append]; show X.size + 1 + Z.size ≤ _; omega) ((congrArg P HL2.out).trans (D.unshut N (by omega) (by omega))))
            clear HX HY HL2 HZd hz HYk
            go_wp2_with fail
            refine (H1.out _).mono ?_
            rintro e w1 ⟨v1, rfl, h1, hb1⟩
            have E1 := Lib.hid (F.sum h1 (by decide) HE.out)
            clear h1 H1
            simp only [okR]
            go_wp2_with fail
            refine E1.out.mono ?_
            rintro e w2 ⟨rfl, hb2⟩
            have hb3 := bel_step hb1 hb2
            clear hb1 hb2 E1
            go_wp2_with fail
            rw [HZ.out]
            refine (H2.out _).mono ?_
            rintro e w3 ⟨v3, rfl, h3, hb4⟩
            have hb5 := bel_step hb3 hb4
            clear hb3 hb4 h3 H2
            go_wp2_with fail
            refine (FA.out _).mono ?_
            rintro e w4 ⟨rfl, hb6⟩
            have hb7 := bel_step hb5 hb6
            clear hb5 hb6
            go_wp2
            go_ret
            exact ⟨rfl, hb7⟩
end Go.Proofs.Ytekpopopibhjbaa
