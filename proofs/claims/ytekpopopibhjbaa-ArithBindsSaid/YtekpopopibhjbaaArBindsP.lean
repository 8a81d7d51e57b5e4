/-
  What is asked of the ten sums of conchlaw8.ArithBinds, and their numbers (plain). (By wip/tools/gen_arbinds.py.)
-/
import Derived.Test.YtekpopopibhjbaaArFace
import Derived.Test.YtekpopopibhjbaaBits
import Derived.Test.YtekpopopibhjbaaRefDigits
import Derived.Test.YtekpopopibhjbaaNums
namespace Go.Proofs.Ytekpopopibhjbaa
open Go.RowKit

/-- what is asked of the ten sums, of small numbers -/
structure BindsP (P : List UInt8 → PRes) : Prop where
  b1 : ∀ a b c : Nat, a ≤ 256 → b ≤ 256 → c ≤ 256 → P (Lib.decDigits a ++ [43] ++ Lib.decDigits b ++ [42] ++ Lib.decDigits c) = okR [numO a, numO b, numO c, opO 6, opO 9]
  b2 : ∀ a b c : Nat, a ≤ 256 → b ≤ 256 → c ≤ 256 → P (Lib.decDigits a ++ [45] ++ Lib.decDigits b ++ [45] ++ Lib.decDigits c) = okR [numO a, numO b, opO 10, numO c, opO 10]
  b3 : ∀ a b d : Nat, a ≤ 256 → b ≤ 256 → d ≤ 256 → P (Lib.decDigits a ++ [42] ++ Lib.decDigits b ++ [47] ++ Lib.decDigits d ++ [37] ++ Lib.decDigits d) = okR [numO a, numO b, opO 6, numO d, opO 7, numO d, opO 8]
  b4 : ∀ a b c : Nat, a ≤ 256 → b ≤ 256 → c ≤ 256 → P ([40] ++ Lib.decDigits a ++ [43] ++ Lib.decDigits b ++ [41, 42] ++ Lib.decDigits c) = okR [numO a, numO b, opO 9, numO c, opO 6]
  b5 : ∀ a b c : Nat, a ≤ 256 → b ≤ 256 → c ≤ 256 → P (Lib.decDigits a ++ [43] ++ Lib.decDigits b ++ [60] ++ Lib.decDigits c) = okR [numO a, numO b, opO 9, numO c, opO 11]
  b6 : ∀ a b c : Nat, a ≤ 256 → b ≤ 256 → c ≤ 256 → P (Lib.decDigits a ++ [60] ++ Lib.decDigits b ++ [61, 61] ++ Lib.decDigits c) = okR [numO a, numO b, opO 11, numO c, opO 15]
  b7 : ∀ a b c : Nat, a ≤ 256 → b ≤ 256 → c ≤ 256 → P (Lib.decDigits a ++ [61, 61] ++ Lib.decDigits b ++ [38, 38] ++ Lib.decDigits c) = okR [numO a, numO b, opO 15, numO c, opO 17]
  b8 : ∀ a b c : Nat, a ≤ 256 → b ≤ 256 → c ≤ 256 → P (Lib.decDigits a ++ [124, 124] ++ Lib.decDigits b ++ [38, 38] ++ Lib.decDigits c) = okR [numO a, numO b, numO c, opO 17, opO 18]
  b9 : ∀ a b : Nat, a ≤ 256 → b ≤ 256 → P ([45, 32] ++ Lib.decDigits a ++ [32, 45, 32, 45] ++ Lib.decDigits b) = okR [numO a, opO 3, numO b, opO 3, opO 10]
  b10 : ∀ a b : Nat, a ≤ 256 → b ≤ 256 → P ([33] ++ Lib.decDigits a ++ [43] ++ Lib.decDigits b) = okR [numO a, opO 5, numO b, opO 9]

theorem truth_range (b : Bool) : 0 ≤ truthI b ∧ truthI b ≤ 1 := by cases b <;> decide
section
variable {val : List UInt8 → List UInt8} {A B C D : Nat}
theorem ev_b1 (hA : A ≤ 256) {m1 : Nat} (hm : (B : Int) * (C : Int) = (m1 : Int)) (hm9 : m1 ≤ 65536) : evalP val [numO A, numO B, numO C, opO 6, opO 9] = ((A : Int) + (m1 : Int), 0) :=
  eval_of (by rw [run_num, run_num, run_num, run_two (x := (m1 : Int)) (by decide) (by show (wrap64 ((B : Int) * (C : Int)), (0 : Int)) = _; rw [hm, w64 (by omega)]), run_two (x := (A : Int) + (m1 : Int)) (by decide) (by show (wrap64 ((A : Int) + (m1 : Int)), (0 : Int)) = _; rw [w64 (by omega)])]; rfl)
theorem ev_b2 (hA : A ≤ 256) (hB : B ≤ 256) (hC : C ≤ 256) : evalP val [numO A, numO B, opO 10, numO C, opO 10] = ((A : Int) - (B : Int) - (C : Int), 0) :=
  eval_of (by rw [run_num, run_num, run_two (x := (A : Int) - (B : Int)) (by decide) (by show (wrap64 ((A : Int) - (B : Int)), (0 : Int)) = _; rw [w64 (by omega)]), run_num, run_two (x := (A : Int) - (B : Int) - (C : Int)) (by decide) (by show (wrap64 ((A : Int) - (B : Int) - (C : Int)), (0 : Int)) = _; rw [w64 (by omega)])]; rfl)
theorem two_div (x y : Int) (h : ¬ y = 0) : twoP 7 x y = (wrap64 (x.tdiv y), 0) := by simp [twoP, h]
theorem two_mod (x y : Int) (h : ¬ y = 0) : twoP 8 x y = (x.tmod y, 0) := by simp [twoP, h]
theorem ev_b3 (hD : 1 ≤ D) {m q r : Nat} (hm : (A : Int) * (B : Int) = (m : Int)) (hm9 : m ≤ 65536) (hq : (m : Int) / (D : Int) = (q : Int)) (hq9 : q ≤ 65536) (hr : (q : Int) % (D : Int) = (r : Int)) : evalP val [numO A, numO B, opO 6, numO D, opO 7, numO D, opO 8] = ((r : Int), 0) := by
  have hD0 : ¬ (D : Int) = 0 := by omega
  have h1 : twoP 6 (A : Int) (B : Int) = ((m : Int), 0) := by
    show (wrap64 ((A : Int) * (B : Int)), (0 : Int)) = _
    rw [hm, w64 (by omega)]
  have h2 : twoP 7 (m : Int) (D : Int) = ((q : Int), 0) := by
    rw [two_div _ _ hD0, Int.tdiv_eq_ediv_of_nonneg (by omega), hq, w64 (by omega)]
  have h3 : twoP 8 (q : Int) (D : Int) = ((r : Int), 0) := by
    rw [two_mod _ _ hD0, Int.tmod_eq_emod_of_nonneg (by omega), hr]
  refine eval_of ?_
  rw [run_num, run_num, run_two (by decide) h1, run_num, run_two (by decide) h2, run_num, run_two (by decide) h3]
  rfl
theorem ev_b4 (hA : A ≤ 256) (hB : B ≤ 256) {m4 : Nat} (hm : ((A : Int) + (B : Int)) * (C : Int) = (m4 : Int)) (hm9 : m4 ≤ 1000000) : evalP val [numO A, numO B, opO 9, numO C, opO 6] = ((m4 : Int), 0) :=
  eval_of (by rw [run_num, run_num, run_two (x := (A : Int) + (B : Int)) (by decide) (by show (wrap64 ((A : Int) + (B : Int)), (0 : Int)) = _; rw [w64 (by omega)]), run_num, run_two (x := (m4 : Int)) (by decide) (by show (wrap64 (((A : Int) + (B : Int)) * (C : Int)), (0 : Int)) = _; rw [hm, w64 (by omega)])]; rfl)
theorem ev_b5 (hA : A ≤ 256) (hB : B ≤ 256) : evalP val [numO A, numO B, opO 9, numO C, opO 11] = (truthI (decide ((A : Int) + (B : Int) < (C : Int))), 0) :=
  eval_of (by rw [run_num, run_num, run_two (x := (A : Int) + (B : Int)) (by decide) (by show (wrap64 ((A : Int) + (B : Int)), (0 : Int)) = _; rw [w64 (by omega)]), run_num, run_two (x := truthI (decide ((A : Int) + (B : Int) < (C : Int)))) (by decide) rfl]; rfl)
theorem ev_b6 : evalP val [numO A, numO B, opO 11, numO C, opO 15] = (truthI (decide (truthI (decide ((A : Int) < (B : Int))) = (C : Int))), 0) :=
  eval_of (by rw [run_num, run_num, run_two (x := truthI (decide ((A : Int) < (B : Int)))) (by decide) rfl, run_num, run_two (x := truthI (decide (truthI (decide ((A : Int) < (B : Int))) = (C : Int)))) (by decide) rfl]; rfl)
theorem ev_b7 : evalP val [numO A, numO B, opO 15, numO C, opO 17] = (truthI (decide ((A : Int) = (B : Int)) && !decide ((C : Int) = 0)), 0) :=
  eval_of (by
    have h : (!decide (truthI (decide ((A : Int) = (B : Int))) = 0)) = decide ((A : Int) = (B : Int)) := by cases decide ((A : Int) = (B : Int)) <;> rfl
    rw [run_num, run_num, run_two (x := truthI (decide ((A : Int) = (B : Int)))) (by decide) rfl, run_num, run_two (x := truthI (decide ((A : Int) = (B : Int)) && !decide ((C : Int) = 0))) (by decide) (by
      show (truthI (!decide (truthI (decide ((A : Int) = (B : Int))) = 0) && !decide ((C : Int) = 0)), (0 : Int)) = _
      rw [h])]
    rfl)
theorem ev_b8 : evalP val [numO A, numO B, numO C, opO 17, opO 18] = (truthI (!decide ((A : Int) = 0) || (!decide ((B : Int) = 0) && !decide ((C : Int) = 0))), 0) :=
  eval_of (by
    have h : (!decide (truthI (!decide ((B : Int) = 0) && !decide ((C : Int) = 0)) = 0)) = (!decide ((B : Int) = 0) && !decide ((C : Int) = 0)) := by cases (!decide ((B : Int) = 0) && !decide ((C : Int) = 0)) <;> rfl
    rw [run_num, run_num, run_num, run_two (x := truthI (!decide ((B : Int) = 0) && !decide ((C : Int) = 0))) (by decide) rfl, run_two (x := truthI (!decide ((A : Int) = 0) || (!decide ((B : Int) = 0) && !decide ((C : Int) = 0)))) (by decide) (by
      show (truthI (!decide ((A : Int) = 0) || !decide (truthI (!decide ((B : Int) = 0) && !decide ((C : Int) = 0)) = 0)), (0 : Int)) = _
      rw [h])]
    rfl)
theorem ev_b9 (hA : A ≤ 256) (hB : B ≤ 256) : evalP val [numO A, opO 3, numO B, opO 3, opO 10] = (-(A : Int) + (B : Int), 0) :=
  eval_of (by
    have h1 : oneP 3 (A : Int) = -(A : Int) := by show wrap64 (-(A : Int)) = _; rw [w64 (by omega)]
    have h2 : oneP 3 (B : Int) = -(B : Int) := by show wrap64 (-(B : Int)) = _; rw [w64 (by omega)]
    rw [run_num, run_one (by decide), h1, run_num, run_one (by decide), h2, run_two (x := -(A : Int) + (B : Int)) (by decide) (by
      show (wrap64 (-(A : Int) - -(B : Int)), (0 : Int)) = _
      rw [w64 (by omega), Int.sub_neg])]
    rfl)
theorem ev_b10 (hB : B ≤ 256) : evalP val [numO A, opO 5, numO B, opO 9] = (truthI (decide ((A : Int) = 0)) + (B : Int), 0) :=
  eval_of (by
    have ht := truth_range (decide ((A : Int) = 0))
    rw [run_num, run_one (by decide), run_num, run_two (x := truthI (decide ((A : Int) = 0)) + (B : Int)) (by decide) (by
      show (wrap64 (truthI (decide ((A : Int) = 0)) + (B : Int)), (0 : Int)) = _
      rw [w64 (by omega)])]
    rfl)
end

end Go.Proofs.Ytekpopopibhjbaa
