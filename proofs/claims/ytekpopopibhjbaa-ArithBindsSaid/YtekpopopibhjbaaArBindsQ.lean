/-
  Contracts of conchlaw8.ArithBinds' two closures, over package arith's contracts, at its ten sums. (By wip/tools/gen_arbinds.py.)
-/
import Derived.Test.YtekpopopibhjbaaArBindsP
namespace Go.Proofs.Ytekpopopibhjbaa
open Go.RowKit

set_option maxHeartbeats 1000000 in
theorem truth_is (b : Bool) (w : World) : Calls Try.prog 12 #[.bool b] w fun e w' => e = .returned (.int .i64 (truthI b)) ∧ w = w' := by
  cases b with
  | true =>
    go_enter Try.func12, Try.ntmps12
    go_wp2
    go_ret
    exact ⟨rfl, rfl⟩
  | false =>
    go_enter Try.func12, Try.ntmps12
    go_wp2
    go_ret
    exact ⟨rfl, rfl⟩

theorem truth_any (b : Bool) (w : World) : Calls Try.prog 12 #[.bool b] w fun e w' => (∃ t : Int, e = .returned (.int .i64 t) ∧ Hid (t = truthI b) ∧ 0 ≤ t ∧ t ≤ 1) ∧ w = w' :=
  (truth_is b w).mono fun _ _ ⟨he, hw⟩ => ⟨⟨truthI b, he, Lib.hid rfl, (truth_range b).1, (truth_range b).2⟩, hw⟩

set_option maxHeartbeats 2000000 in
set_option maxRecDepth 100000 in
theorem isB_is {P : List UInt8 → PRes} (F : ArithFace P) (s : ByteArray) (hs : s.size ≤ 100000) (ops : List AOp) (hP : P s.data.toList = okR ops) (hn : ∀ o ∈ ops, o.name.length ≤ 100000) (want : Int) (hE : evalP noVal ops = (want, 0)) (w : World) :
    Calls Try.prog 8 #[.string s, .int .i64 want] w (Gives w (.bool true)) := by
  have H1 := Lib.hid (F.text s hs hP)
  go_enter Try.func8, Try.ntmps8
  go_wp2_with fail
  refine (H1.out _).mono ?_
  rintro e w1 ⟨v1, rfl, h1, hw1⟩
  clear H1
  simp only [okR] at h1 ⊢
  have HE1 := Lib.hid (F.sum h1 hn hE)
  clear h1 hE
  go_wp2_with fail
  refine HE1.out.mono ?_
  rintro e w2 ⟨rfl, hw2⟩
  have hb3 := bel_step hw1 hw2
  clear hw1 hw2 HE1
  go_wp2
  go_ret
  exact ⟨rfl, hb3⟩

theorem sz_32453245 : (⟨#[32, 45, 32, 45]⟩ : ByteArray).size = 4 := rfl
theorem sz_33 : (⟨#[33]⟩ : ByteArray).size = 1 := rfl
theorem sz_37 : (⟨#[37]⟩ : ByteArray).size = 1 := rfl
theorem sz_3838 : (⟨#[38, 38]⟩ : ByteArray).size = 2 := rfl
theorem sz_40 : (⟨#[40]⟩ : ByteArray).size = 1 := rfl
theorem sz_4142 : (⟨#[41, 42]⟩ : ByteArray).size = 2 := rfl
theorem sz_42 : (⟨#[42]⟩ : ByteArray).size = 1 := rfl
theorem sz_43 : (⟨#[43]⟩ : ByteArray).size = 1 := rfl
theorem sz_45 : (⟨#[45]⟩ : ByteArray).size = 1 := rfl
theorem sz_4532 : (⟨#[45, 32]⟩ : ByteArray).size = 2 := rfl
theorem sz_47 : (⟨#[47]⟩ : ByteArray).size = 1 := rfl
theorem sz_60 : (⟨#[60]⟩ : ByteArray).size = 1 := rfl
theorem sz_6161 : (⟨#[61, 61]⟩ : ByteArray).size = 2 := rfl
theorem sz_124124 : (⟨#[124, 124]⟩ : ByteArray).size = 2 := rfl
theorem str_b1 {X Y Z : ByteArray} {x y z : List UInt8} (hx : X.data.toList = x) (hy : Y.data.toList = y) (hz : Z.data.toList = z) : (X ++ ⟨#[43]⟩ ++ Y ++ ⟨#[42]⟩ ++ Z : ByteArray).data.toList = x ++ [43] ++ y ++ [42] ++ z := by
  simp only [ByteArray.data_append, Array.toList_append, hx, hy, hz]
theorem is_b1 {P : List UInt8 → PRes} (F : ArithFace P) (Q : BindsP P) {A B C : Nat} {X Y Z : ByteArray} (hA : A ≤ 256) (hB : B ≤ 256) (hC : C ≤ 256) (hXd : X.data.toList = Lib.decDigits A) (hYd : Y.data.toList = Lib.decDigits B) (hZd : Z.data.toList = Lib.decDigits C) (hXs : X.size ≤ 30) (hYs : Y.size ≤ 30) (hZs : Z.size ≤ 30) (m1 : Nat) (hm1 : (B : Int) * (C : Int) = (m1 : Int)) (hm19 : m1 ≤ 65536) (w : World) :
    Calls Try.prog 8 #[.string (X ++ ⟨#[43]⟩ ++ Y ++ ⟨#[42]⟩ ++ Z), .int .i64 ((A : Int) + (m1 : Int))] w (Gives w (.bool true)) := by
  have h1 : P (X ++ ⟨#[43]⟩ ++ Y ++ ⟨#[42]⟩ ++ Z : ByteArray).data.toList = okR [numO A, numO B, numO C, opO 6, opO 9] := by
    rw [str_b1 hXd hYd hZd]
    exact Q.b1 A B C hA hB hC
  have h2 : (X ++ ⟨#[43]⟩ ++ Y ++ ⟨#[42]⟩ ++ Z : ByteArray).size ≤ 100000 := by
    simp only [ByteArray.size_append, sz_43, sz_42]
    omega
  have h3 : ∀ o ∈ ([numO A, numO B, numO C, opO 6, opO 9] : List AOp), o.name.length ≤ 100000 := by
    intro o ho
    simp only [List.mem_cons, List.not_mem_nil, or_false] at ho
    rcases ho with rfl | rfl | rfl | rfl | rfl <;> exact Nat.zero_le _
  exact isB_is F _ h2 _ h1 h3 _ (ev_b1 hA hm1 hm19) w
theorem str_b2 {X Y Z : ByteArray} {x y z : List UInt8} (hx : X.data.toList = x) (hy : Y.data.toList = y) (hz : Z.data.toList = z) : (X ++ ⟨#[45]⟩ ++ Y ++ ⟨#[45]⟩ ++ Z : ByteArray).data.toList = x ++ [45] ++ y ++ [45] ++ z := by
  simp only [ByteArray.data_append, Array.toList_append, hx, hy, hz]
theorem is_b2 {P : List UInt8 → PRes} (F : ArithFace P) (Q : BindsP P) {A B C : Nat} {X Y Z : ByteArray} (hA : A ≤ 256) (hB : B ≤ 256) (hC : C ≤ 256) (hXd : X.data.toList = Lib.decDigits A) (hYd : Y.data.toList = Lib.decDigits B) (hZd : Z.data.toList = Lib.decDigits C) (hXs : X.size ≤ 30) (hYs : Y.size ≤ 30) (hZs : Z.size ≤ 30)  (w : World) :
    Calls Try.prog 8 #[.string (X ++ ⟨#[45]⟩ ++ Y ++ ⟨#[45]⟩ ++ Z), .int .i64 ((A : Int) - (B : Int) - (C : Int))] w (Gives w (.bool true)) := by
  have h1 : P (X ++ ⟨#[45]⟩ ++ Y ++ ⟨#[45]⟩ ++ Z : ByteArray).data.toList = okR [numO A, numO B, opO 10, numO C, opO 10] := by
    rw [str_b2 hXd hYd hZd]
    exact Q.b2 A B C hA hB hC
  have h2 : (X ++ ⟨#[45]⟩ ++ Y ++ ⟨#[45]⟩ ++ Z : ByteArray).size ≤ 100000 := by
    simp only [ByteArray.size_append, sz_45, sz_45]
    omega
  have h3 : ∀ o ∈ ([numO A, numO B, opO 10, numO C, opO 10] : List AOp), o.name.length ≤ 100000 := by
    intro o ho
    simp only [List.mem_cons, List.not_mem_nil, or_false] at ho
    rcases ho with rfl | rfl | rfl | rfl | rfl <;> exact Nat.zero_le _
  exact isB_is F _ h2 _ h1 h3 _ (ev_b2 hA hB hC) w
theorem str_b3 {X Y V : ByteArray} {x y v : List UInt8} (hx : X.data.toList = x) (hy : Y.data.toList = y) (hv : V.data.toList = v) : (X ++ ⟨#[42]⟩ ++ Y ++ ⟨#[47]⟩ ++ V ++ ⟨#[37]⟩ ++ V : ByteArray).data.toList = x ++ [42] ++ y ++ [47] ++ v ++ [37] ++ v := by
  simp only [ByteArray.data_append, Array.toList_append, hx, hy, hv]
theorem is_b3 {P : List UInt8 → PRes} (F : ArithFace P) (Q : BindsP P) {A B D : Nat} {X Y V : ByteArray} (hA : A ≤ 256) (hB : B ≤ 256) (hD : D ≤ 256) (hXd : X.data.toList = Lib.decDigits A) (hYd : Y.data.toList = Lib.decDigits B) (hVd : V.data.toList = Lib.decDigits D) (hXs : X.size ≤ 30) (hYs : Y.size ≤ 30) (hVs : V.size ≤ 30) (hD1 : 1 ≤ D) (m3 q3 r3 : Nat) (hm3 : (A : Int) * (B : Int) = (m3 : Int)) (hm39 : m3 ≤ 65536) (hq3 : (m3 : Int) / (D : Int) = (q3 : Int)) (hq39 : q3 ≤ 65536) (hr3 : (q3 : Int) % (D : Int) = (r3 : Int)) (w : World) :
    Calls Try.prog 8 #[.string (X ++ ⟨#[42]⟩ ++ Y ++ ⟨#[47]⟩ ++ V ++ ⟨#[37]⟩ ++ V), .int .i64 ((r3 : Int))] w (Gives w (.bool true)) := by
  have h1 : P (X ++ ⟨#[42]⟩ ++ Y ++ ⟨#[47]⟩ ++ V ++ ⟨#[37]⟩ ++ V : ByteArray).data.toList = okR [numO A, numO B, opO 6, numO D, opO 7, numO D, opO 8] := by
    rw [str_b3 hXd hYd hVd]
    exact Q.b3 A B D hA hB hD
  have h2 : (X ++ ⟨#[42]⟩ ++ Y ++ ⟨#[47]⟩ ++ V ++ ⟨#[37]⟩ ++ V : ByteArray).size ≤ 100000 := by
    simp only [ByteArray.size_append, sz_42, sz_47, sz_37]
    omega
  have h3 : ∀ o ∈ ([numO A, numO B, opO 6, numO D, opO 7, numO D, opO 8] : List AOp), o.name.length ≤ 100000 := by
    intro o ho
    simp only [List.mem_cons, List.not_mem_nil, or_false] at ho
    rcases ho with rfl | rfl | rfl | rfl | rfl | rfl | rfl <;> exact Nat.zero_le _
  exact isB_is F _ h2 _ h1 h3 _ (ev_b3 hD1 hm3 hm39 hq3 hq39 hr3) w
theorem str_b4 {X Y Z : ByteArray} {x y z : List UInt8} (hx : X.data.toList = x) (hy : Y.data.toList = y) (hz : Z.data.toList = z) : (⟨#[40]⟩ ++ X ++ ⟨#[43]⟩ ++ Y ++ ⟨#[41, 42]⟩ ++ Z : ByteArray).data.toList = [40] ++ x ++ [43] ++ y ++ [41, 42] ++ z := by
  simp only [ByteArray.data_append, Array.toList_append, hx, hy, hz]
theorem is_b4 {P : List UInt8 → PRes} (F : ArithFace P) (Q : BindsP P) {A B C : Nat} {X Y Z : ByteArray} (hA : A ≤ 256) (hB : B ≤ 256) (hC : C ≤ 256) (hXd : X.data.toList = Lib.decDigits A) (hYd : Y.data.toList = Lib.decDigits B) (hZd : Z.data.toList = Lib.decDigits C) (hXs : X.size ≤ 30) (hYs : Y.size ≤ 30) (hZs : Z.size ≤ 30) (m4 : Nat) (hm4 : ((A : Int) + (B : Int)) * (C : Int) = (m4 : Int)) (hm49 : m4 ≤ 1000000) (w : World) :
    Calls Try.prog 8 #[.string (⟨#[40]⟩ ++ X ++ ⟨#[43]⟩ ++ Y ++ ⟨#[41, 42]⟩ ++ Z), .int .i64 ((m4 : Int))] w (Gives w (.bool true)) := by
  have h1 : P (⟨#[40]⟩ ++ X ++ ⟨#[43]⟩ ++ Y ++ ⟨#[41, 42]⟩ ++ Z : ByteArray).data.toList = okR [numO A, numO B, opO 9, numO C, opO 6] := by
    rw [str_b4 hXd hYd hZd]
    exact Q.b4 A B C hA hB hC
  have h2 : (⟨#[40]⟩ ++ X ++ ⟨#[43]⟩ ++ Y ++ ⟨#[41, 42]⟩ ++ Z : ByteArray).size ≤ 100000 := by
    simp only [ByteArray.size_append, sz_40, sz_43, sz_4142]
    omega
  have h3 : ∀ o ∈ ([numO A, numO B, opO 9, numO C, opO 6] : List AOp), o.name.length ≤ 100000 := by
    intro o ho
    simp only [List.mem_cons, List.not_mem_nil, or_false] at ho
    rcases ho with rfl | rfl | rfl | rfl | rfl <;> exact Nat.zero_le _
  exact isB_is F _ h2 _ h1 h3 _ (ev_b4 hA hB hm4 hm49) w
theorem str_b5 {X Y Z : ByteArray} {x y z : List UInt8} (hx : X.data.toList = x) (hy : Y.data.toList = y) (hz : Z.data.toList = z) : (X ++ ⟨#[43]⟩ ++ Y ++ ⟨#[60]⟩ ++ Z : ByteArray).data.toList = x ++ [43] ++ y ++ [60] ++ z := by
  simp only [ByteArray.data_append, Array.toList_append, hx, hy, hz]
theorem is_b5 {P : List UInt8 → PRes} (F : ArithFace P) (Q : BindsP P) {A B C : Nat} {X Y Z : ByteArray} (hA : A ≤ 256) (hB : B ≤ 256) (hC : C ≤ 256) (hXd : X.data.toList = Lib.decDigits A) (hYd : Y.data.toList = Lib.decDigits B) (hZd : Z.data.toList = Lib.decDigits C) (hXs : X.size ≤ 30) (hYs : Y.size ≤ 30) (hZs : Z.size ≤ 30)  (w : World) :
    Calls Try.prog 8 #[.string (X ++ ⟨#[43]⟩ ++ Y ++ ⟨#[60]⟩ ++ Z), .int .i64 (truthI (decide ((A : Int) + (B : Int) < (C : Int))))] w (Gives w (.bool true)) := by
  have h1 : P (X ++ ⟨#[43]⟩ ++ Y ++ ⟨#[60]⟩ ++ Z : ByteArray).data.toList = okR [numO A, numO B, opO 9, numO C, opO 11] := by
    rw [str_b5 hXd hYd hZd]
    exact Q.b5 A B C hA hB hC
  have h2 : (X ++ ⟨#[43]⟩ ++ Y ++ ⟨#[60]⟩ ++ Z : ByteArray).size ≤ 100000 := by
    simp only [ByteArray.size_append, sz_43, sz_60]
    omega
  have h3 : ∀ o ∈ ([numO A, numO B, opO 9, numO C, opO 11] : List AOp), o.name.length ≤ 100000 := by
    intro o ho
    simp only [List.mem_cons, List.not_mem_nil, or_false] at ho
    rcases ho with rfl | rfl | rfl | rfl | rfl <;> exact Nat.zero_le _
  exact isB_is F _ h2 _ h1 h3 _ (ev_b5 hA hB) w
theorem str_b6 {X Y Z : ByteArray} {x y z : List UInt8} (hx : X.data.toList = x) (hy : Y.data.toList = y) (hz : Z.data.toList = z) : (X ++ ⟨#[60]⟩ ++ Y ++ ⟨#[61, 61]⟩ ++ Z : ByteArray).data.toList = x ++ [60] ++ y ++ [61, 61] ++ z := by
  simp only [ByteArray.data_append, Array.toList_append, hx, hy, hz]
theorem is_b6 {P : List UInt8 → PRes} (F : ArithFace P) (Q : BindsP P) {A B C : Nat} {X Y Z : ByteArray} (hA : A ≤ 256) (hB : B ≤ 256) (hC : C ≤ 256) (hXd : X.data.toList = Lib.decDigits A) (hYd : Y.data.toList = Lib.decDigits B) (hZd : Z.data.toList = Lib.decDigits C) (hXs : X.size ≤ 30) (hYs : Y.size ≤ 30) (hZs : Z.size ≤ 30)  (w : World) :
    Calls Try.prog 8 #[.string (X ++ ⟨#[60]⟩ ++ Y ++ ⟨#[61, 61]⟩ ++ Z), .int .i64 (truthI (decide (truthI (decide ((A : Int) < (B : Int))) = (C : Int))))] w (Gives w (.bool true)) := by
  have h1 : P (X ++ ⟨#[60]⟩ ++ Y ++ ⟨#[61, 61]⟩ ++ Z : ByteArray).data.toList = okR [numO A, numO B, opO 11, numO C, opO 15] := by
    rw [str_b6 hXd hYd hZd]
    exact Q.b6 A B C hA hB hC
  have h2 : (X ++ ⟨#[60]⟩ ++ Y ++ ⟨#[61, 61]⟩ ++ Z : ByteArray).size ≤ 100000 := by
    simp only [ByteArray.size_append, sz_60, sz_6161]
    omega
  have h3 : ∀ o ∈ ([numO A, numO B, opO 11, numO C, opO 15] : List AOp), o.name.length ≤ 100000 := by
    intro o ho
    simp only [List.mem_cons, List.not_mem_nil, or_false] at ho
    rcases ho with rfl | rfl | rfl | rfl | rfl <;> exact Nat.zero_le _
  exact isB_is F _ h2 _ h1 h3 _ (ev_b6) w
theorem str_b7 {X Y Z : ByteArray} {x y z : List UInt8} (hx : X.data.toList = x) (hy : Y.data.toList = y) (hz : Z.data.toList = z) : (X ++ ⟨#[61, 61]⟩ ++ Y ++ ⟨#[38, 38]⟩ ++ Z : ByteArray).data.toList = x ++ [61, 61] ++ y ++ [38, 38] ++ z := by
  simp only [ByteArray.data_append, Array.toList_append, hx, hy, hz]
theorem is_b7 {P : List UInt8 → PRes} (F : ArithFace P) (Q : BindsP P) {A B C : Nat} {X Y Z : ByteArray} (hA : A ≤ 256) (hB : B ≤ 256) (hC : C ≤ 256) (hXd : X.data.toList = Lib.decDigits A) (hYd : Y.data.toList = Lib.decDigits B) (hZd : Z.data.toList = Lib.decDigits C) (hXs : X.size ≤ 30) (hYs : Y.size ≤ 30) (hZs : Z.size ≤ 30)  (w : World) :
    Calls Try.prog 8 #[.string (X ++ ⟨#[61, 61]⟩ ++ Y ++ ⟨#[38, 38]⟩ ++ Z), .int .i64 (truthI (decide ((A : Int) = (B : Int)) && !decide ((C : Int) = 0)))] w (Gives w (.bool true)) := by
  have h1 : P (X ++ ⟨#[61, 61]⟩ ++ Y ++ ⟨#[38, 38]⟩ ++ Z : ByteArray).data.toList = okR [numO A, numO B, opO 15, numO C, opO 17] := by
    rw [str_b7 hXd hYd hZd]
    exact Q.b7 A B C hA hB hC
  have h2 : (X ++ ⟨#[61, 61]⟩ ++ Y ++ ⟨#[38, 38]⟩ ++ Z : ByteArray).size ≤ 100000 := by
    simp only [ByteArray.size_append, sz_6161, sz_3838]
    omega
  have h3 : ∀ o ∈ ([numO A, numO B, opO 15, numO C, opO 17] : List AOp), o.name.length ≤ 100000 := by
    intro o ho
    simp only [List.mem_cons, List.not_mem_nil, or_false] at ho
    rcases ho with rfl | rfl | rfl | rfl | rfl <;> exact Nat.zero_le _
  exact isB_is F _ h2 _ h1 h3 _ (ev_b7) w
theorem str_b8 {X Y Z : ByteArray} {x y z : List UInt8} (hx : X.data.toList = x) (hy : Y.data.toList = y) (hz : Z.data.toList = z) : (X ++ ⟨#[124, 124]⟩ ++ Y ++ ⟨#[38, 38]⟩ ++ Z : ByteArray).data.toList = x ++ [124, 124] ++ y ++ [38, 38] ++ z := by
  simp only [ByteArray.data_append, Array.toList_append, hx, hy, hz]
theorem is_b8 {P : List UInt8 → PRes} (F : ArithFace P) (Q : BindsP P) {A B C : Nat} {X Y Z : ByteArray} (hA : A ≤ 256) (hB : B ≤ 256) (hC : C ≤ 256) (hXd : X.data.toList = Lib.decDigits A) (hYd : Y.data.toList = Lib.decDigits B) (hZd : Z.data.toList = Lib.decDigits C) (hXs : X.size ≤ 30) (hYs : Y.size ≤ 30) (hZs : Z.size ≤ 30)  (w : World) :
    Calls Try.prog 8 #[.string (X ++ ⟨#[124, 124]⟩ ++ Y ++ ⟨#[38, 38]⟩ ++ Z), .int .i64 (truthI (!decide ((A : Int) = 0) || (!decide ((B : Int) = 0) && !decide ((C : Int) = 0))))] w (Gives w (.bool true)) := by
  have h1 : P (X ++ ⟨#[124, 124]⟩ ++ Y ++ ⟨#[38, 38]⟩ ++ Z : ByteArray).data.toList = okR [numO A, numO B, numO C, opO 17, opO 18] := by
    rw [str_b8 hXd hYd hZd]
    exact Q.b8 A B C hA hB hC
  have h2 : (X ++ ⟨#[124, 124]⟩ ++ Y ++ ⟨#[38, 38]⟩ ++ Z : ByteArray).size ≤ 100000 := by
    simp only [ByteArray.size_append, sz_124124, sz_3838]
    omega
  have h3 : ∀ o ∈ ([numO A, numO B, numO C, opO 17, opO 18] : List AOp), o.name.length ≤ 100000 := by
    intro o ho
    simp only [List.mem_cons, List.not_mem_nil, or_false] at ho
    rcases ho with rfl | rfl | rfl | rfl | rfl <;> exact Nat.zero_le _
  exact isB_is F _ h2 _ h1 h3 _ (ev_b8) w
theorem str_b9 {X Y : ByteArray} {x y : List UInt8} (hx : X.data.toList = x) (hy : Y.data.toList = y) : (⟨#[45, 32]⟩ ++ X ++ ⟨#[32, 45, 32, 45]⟩ ++ Y : ByteArray).data.toList = [45, 32] ++ x ++ [32, 45, 32, 45] ++ y := by
  simp only [ByteArray.data_append, Array.toList_append, hx, hy]
theorem is_b9 {P : List UInt8 → PRes} (F : ArithFace P) (Q : BindsP P) {A B : Nat} {X Y : ByteArray} (hA : A ≤ 256) (hB : B ≤ 256) (hXd : X.data.toList = Lib.decDigits A) (hYd : Y.data.toList = Lib.decDigits B) (hXs : X.size ≤ 30) (hYs : Y.size ≤ 30)  (w : World) :
    Calls Try.prog 8 #[.string (⟨#[45, 32]⟩ ++ X ++ ⟨#[32, 45, 32, 45]⟩ ++ Y), .int .i64 (-(A : Int) + (B : Int))] w (Gives w (.bool true)) := by
  have h1 : P (⟨#[45, 32]⟩ ++ X ++ ⟨#[32, 45, 32, 45]⟩ ++ Y : ByteArray).data.toList = okR [numO A, opO 3, numO B, opO 3, opO 10] := by
    rw [str_b9 hXd hYd]
    exact Q.b9 A B hA hB
  have h2 : (⟨#[45, 32]⟩ ++ X ++ ⟨#[32, 45, 32, 45]⟩ ++ Y : ByteArray).size ≤ 100000 := by
    simp only [ByteArray.size_append, sz_4532, sz_32453245]
    omega
  have h3 : ∀ o ∈ ([numO A, opO 3, numO B, opO 3, opO 10] : List AOp), o.name.length ≤ 100000 := by
    intro o ho
    simp only [List.mem_cons, List.not_mem_nil, or_false] at ho
    rcases ho with rfl | rfl | rfl | rfl | rfl <;> exact Nat.zero_le _
  exact isB_is F _ h2 _ h1 h3 _ (ev_b9 hA hB) w
theorem str_b10 {X Y : ByteArray} {x y : List UInt8} (hx : X.data.toList = x) (hy : Y.data.toList = y) : (⟨#[33]⟩ ++ X ++ ⟨#[43]⟩ ++ Y : ByteArray).data.toList = [33] ++ x ++ [43] ++ y := by
  simp only [ByteArray.data_append, Array.toList_append, hx, hy]
theorem is_b10 {P : List UInt8 → PRes} (F : ArithFace P) (Q : BindsP P) {A B : Nat} {X Y : ByteArray} (hA : A ≤ 256) (hB : B ≤ 256) (hXd : X.data.toList = Lib.decDigits A) (hYd : Y.data.toList = Lib.decDigits B) (hXs : X.size ≤ 30) (hYs : Y.size ≤ 30)  (w : World) :
    Calls Try.prog 8 #[.string (⟨#[33]⟩ ++ X ++ ⟨#[43]⟩ ++ Y), .int .i64 (truthI (decide ((A : Int) = 0)) + (B : Int))] w (Gives w (.bool true)) := by
  have h1 : P (⟨#[33]⟩ ++ X ++ ⟨#[43]⟩ ++ Y : ByteArray).data.toList = okR [numO A, opO 5, numO B, opO 9] := by
    rw [str_b10 hXd hYd]
    exact Q.b10 A B hA hB
  have h2 : (⟨#[33]⟩ ++ X ++ ⟨#[43]⟩ ++ Y : ByteArray).size ≤ 100000 := by
    simp only [ByteArray.size_append, sz_33, sz_43]
    omega
  have h3 : ∀ o ∈ ([numO A, opO 5, numO B, opO 9] : List AOp), o.name.length ≤ 100000 := by
    intro o ho
    simp only [List.mem_cons, List.not_mem_nil, or_false] at ho
    rcases ho with rfl | rfl | rfl | rfl <;> exact Nat.zero_le _
  exact isB_is F _ h2 _ h1 h3 _ (ev_b10 hB) w
theorem dec_str (n : Nat) (h : n ≤ 256) : ∃ X : ByteArray, strV (Lib.decDigits n) = .string X ∧ X.data.toList = Lib.decDigits n ∧ X.size ≤ 30 :=
  ⟨⟨(Lib.decDigits n).toArray⟩, rfl, rfl, by
    have := dec_len n 19 (Nat.lt_of_le_of_lt h (by decide))
    show (Lib.decDigits n).toArray.size ≤ 30
    simp
    omega⟩

end Go.Proofs.Ytekpopopibhjbaa
