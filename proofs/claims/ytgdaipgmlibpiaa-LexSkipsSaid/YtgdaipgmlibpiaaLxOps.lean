/-
  conchlaw9.LexOps returns true, over package lex's contracts.
-/
import Derived.Test.YtgdaipgmlibpiaaLxFace
import Derived.Test.YtgdaipgmlibpiaaBits
import Derived.Deep.Cut
import Derived.Deep.QuietTactic
import Derived.BigQuiet
namespace Go.Proofs.Ytgdaipgmlibpiaa
open Go.RowKit

def opsL : List (List UInt8) := [[59, 59], [38, 38], [124, 124], [59], [124], [38], [40], [41], [60], [62], [62, 62], [60, 60], [60, 38], [62, 38], [60, 62], [62, 124], [10]]
/-- does y, longer than x, begin t? -/
def begB (x t y : List UInt8) : Bool := decide (x.length < y.length) && (decide (y.length ≤ t.length) && (t.take y.length == y))
def opsV : Array Value := (opsL.map strV).toArray
theorem opsV_at {k : Nat} {x : List UInt8} (h : opsL[k]? = some x) : opsV[k]? = some (strV x) := by
  unfold opsV
  rw [List.getElem?_toArray, List.getElem?_map, h]
  rfl
theorem ops_facts : (opsL.all fun y => (decide (y.length = 1) && oneO (y.headD 0).toNat && endB (y.headD 0).toNat) || (decide (y.length = 2) && twoO y && endB (y.headD 0).toNat)) = true := by kernel_rfl
theorem ops_form {y : List UInt8} (h : y ∈ opsL) : (∃ c, y = [c] ∧ oneO c.toNat = true ∧ endB c.toNat = true) ∨ (∃ c d, y = [c, d] ∧ twoO [c, d] = true ∧ endB c.toNat = true) := by
  have := (List.all_eq_true.1 ops_facts) y h
  simp only [Bool.or_eq_true, Bool.and_eq_true, decide_eq_true_eq] at this
  rcases this with ⟨⟨h1, h2⟩, h3⟩ | ⟨⟨h1, h2⟩, h3⟩
  · match y, h1 with
    | [c], _ => exact .inl ⟨c, rfl, h2, h3⟩
  · match y, h1 with
    | [c, d], _ => exact .inr ⟨c, d, rfl, h2, h3⟩
theorem two_in {y : List UInt8} (h : twoO y = true) : y ∈ opsL := by
  unfold twoO at h
  have hy : y ∈ twos := by simpa using h
  have key : (twos.all fun y => opsL.contains y) = true := by kernel_rfl
  simpa using (List.all_eq_true.1 key) y hy
theorem two_len {y : List UInt8} (h : twoO y = true) : y.length = 2 := by
  unfold twoO at h
  have hy : y ∈ twos := by simpa using h
  have key : (twos.all fun y => decide (y.length = 2)) = true := by kernel_rfl
  simpa using (List.all_eq_true.1 key) y hy
theorem any_false {x t : List UInt8} (h : ∀ y ∈ opsL, begB x t y = false) : opsL.any (begB x t) = false := by
  rw [List.any_eq_false]
  intro y hy
  rw [h y hy]
  decide
/-- the operator that begins a text that begins with one -/
theorem op_res {x : List UInt8} (hx : x ∈ opsL) (m : List UInt8) : ∃ o, opT (x ++ m) = some o ∧ ((o == x) = !(opsL.any (begB x (x ++ m)))) ∧ x.length ≤ o.length := by
  rcases ops_form hx with ⟨c, rfl, h1, _⟩ | ⟨c, d, rfl, h1, _⟩
  · cases m with
    | nil =>
      refine ⟨[c], ?_, ?_, Nat.le_refl _⟩
      · unfold opT
        have h2 : twoO (([c] ++ [] : List UInt8).take 2) = false := by
          cases h : twoO (([c] ++ [] : List UInt8).take 2) with
          | false => rfl
          | true => have := two_len h; simp at this
        rw [h2]
        simp [h1]
      · rw [any_false (fun y hy => ?_)]
        · simp
        · unfold begB
          have : decide (y.length ≤ ([c] ++ [] : List UInt8).length) = true → decide (([c] : List UInt8).length < y.length) = false := fun h => by
            simp at h ⊢
            omega
          cases h5 : decide (y.length ≤ ([c] ++ [] : List UInt8).length) with
          | true => rw [this h5]; rfl
          | false => simp
    | cons d m =>
      cases h2 : twoO [c, d] with
      | true =>
        refine ⟨[c, d], ?_, ?_, by simp⟩
        · unfold opT
          rw [show ([c] ++ d :: m).take 2 = [c, d] from rfl, h2]
          rfl
        · have h3 : opsL.any (begB [c] ([c] ++ d :: m)) = true := by
            rw [List.any_eq_true]
            refine ⟨[c, d], two_in h2, ?_⟩
            unfold begB
            simp
          rw [h3]
          simp
      | false =>
        refine ⟨[c], ?_, ?_, Nat.le_refl _⟩
        · unfold opT
          rw [show ([c] ++ d :: m).take 2 = [c, d] from rfl, h2]
          simp [h1]
        · rw [any_false (fun y hy => ?_)]
          · simp
          · rcases ops_form hy with ⟨e, rfl, _, _⟩ | ⟨e, f, rfl, h6, _⟩
            · simp [begB]
            · have : (([c] ++ d :: m).take 2 == [e, f]) = false := by
                rw [show ([c] ++ d :: m).take 2 = [c, d] from rfl, beq_eq_false_iff_ne]
                intro h
                rw [h, h6] at h2
                cases h2
              unfold begB
              rw [show ([e, f] : List UInt8).length = 2 from rfl, this]
              simp
  · refine ⟨[c, d], ?_, ?_, Nat.le_refl _⟩
    · unfold opT
      rw [show ([c, d] ++ m).take 2 = [c, d] from rfl, h1]
      rfl
    · rw [any_false (fun y hy => ?_)]
      · simp
      · rcases ops_form hy with ⟨e, rfl, _, _⟩ | ⟨e, f, rfl, h6, _⟩
        · simp [begB]
        · simp [begB]
theorem op_b {x : List UInt8} (hx : x ∈ opsL) : opT (98 :: x) = none := by
  have h2 : ∀ d : UInt8, twoO [98, d] = false := fun d => by
    cases h : twoO [98, d] with
    | false => rfl
    | true =>
      unfold twoO at h
      have hy : [98, d] ∈ twos := by simpa using h
      simp [twos] at hy
  unfold opT
  rcases ops_form hx with ⟨c, rfl, _, _⟩ | ⟨c, d, rfl, _, _⟩
  · rw [show (98 :: [c]).take 2 = [98, c] from rfl, h2]
    rfl
  · rw [show (98 :: [c, d]).take 2 = [98, c] from rfl, h2]
    rfl
theorem any_take {x t y : List UInt8} {k : Nat} (h : opsL[k]? = some y) : (opsL.take (k + 1)).any (begB x t) = ((opsL.take k).any (begB x t) || begB x t y) := by
  rw [List.take_add_one, h, List.any_append]
  simp

theorem BlkAt.drewN2 {w : World} {b : Nat} {cs : Array Value} {t : TypeId} (h : BlkAt w b cs t) (n : Nat) : BlkAt (w.drewN n) b cs t := h
theorem belNL {B : Nat} {a b : World} (h : Below B a b) (n : Nat) : Below B a (b.drewN n) := ⟨h.os, h.tape, h.output, h.size, h.block⟩

set_option maxHeartbeats 16000000 in
set_option maxRecDepth 100000 in
theorem LexOps_walk (F : LexFace) (wh : Int) (mo : ByteArray) (w : World) (hm : mo.size ≤ maxLen) :
    Calls Try.prog 5 #[.int .i64 wh, .string mo] w (Gives w (.bool true)) := by
  have FA := Lib.hid (fun w => awake9_is F w)
  unfold maxLen at hm
  by_cases h1 : 100 < mo.size
  · have d1 : decide (100 < mo.size) = true := decide_eq_true h1
    go_enter Try.func5, Try.ntmps5
    go_wp2_with fail
    refine (FA.out _).mono ?_
    rintro e w1 ⟨rfl, hb⟩
    go_wp2
    go_ret
    exact ⟨rfl, hb⟩
  have d1 : decide (100 < mo.size) = false := decide_eq_false h1
  have hms : mo.size ≤ 100 := by omega
  clear h1 hm
  obtain ⟨m0, m1⟩ := and_mask_le wh 8 (by decide) 255 (by decide)
  obtain ⟨M, hM⟩ : ∃ M : Nat, bits .and .i64 wh 255 = (M : Int) := ⟨(bits .and .i64 wh 255).toNat, by omega⟩
  clear m0 m1
  obtain ⟨J, hJ⟩ : ∃ J : Nat, M % 17 = J := ⟨_, rfl⟩
  have hG : (M : Int) % 17 = (J : Int) := by omega
  have hJ17 : J < 17 := by omega
  have hJ0 : (0 : Int) ≤ (J : Int) := by omega
  have hJ1 : (J : Int) < 17 := by omega
  clear hJ
  obtain ⟨x, hx⟩ : ∃ x, opsL[J]? = some x := ⟨opsL[J]'hJ17, List.getElem?_eq_getElem _⟩
  have hxm := List.mem_of_getElem? hx
  obtain ⟨X, hX⟩ : ∃ X : ByteArray, (⟨x.toArray⟩ : ByteArray) = X := ⟨_, rfl⟩
  have hXd : X.data.toList = x := by rw [← hX]
  have hXl : X.size = x.length := by
    have : X.data.toList.length = x.length := by rw [hXd]
    simpa using this
  have hcellX : opsV[J]? = some (.string X) := by rw [opsV_at hx, strV, hX]
  have hxs : 1 ≤ X.size ∧ X.size ≤ 2 := by
    rw [hXl]
    rcases ops_form hxm with ⟨c, rfl, _, _⟩ | ⟨c, d, rfl, _, _⟩ <;> simp
  have hx0 : 0 < X.size := by omega
  have hdc := drop_cons X 0 hx0
  have HEn0 : endB X[0].toNat = true := by
    rw [List.drop_zero, hXd] at hdc
    rcases ops_form hxm with ⟨c, rfl, _, h⟩ | ⟨c, d, rfl, _, h⟩
    · injection hdc with h1 _
      rw [← h1]; exact h
    · injection hdc with h1 _
      rw [← h1]; exact h
  have HEn := Lib.hid (fun w => F.ends_at X[0].toNat HEn0 (by have := X[0].toNat_lt; omega) w)
  obtain ⟨o, ho1, ho2, ho3⟩ := op_res hxm mo.data.toList
  obtain ⟨O, hO⟩ : ∃ O : ByteArray, (⟨o.toArray⟩ : ByteArray) = O := ⟨_, rfl⟩
  have hOd : O.data.toList = o := by rw [← hO]
  have hOl : O.size = o.length := by
    have : O.data.toList.length = o.length := by rw [hOd]
    simpa using this
  have sab : (⟨#[97, 98]⟩ : ByteArray).size = 2 := rfl
  have HO1 := Lib.hid (fun w => F.op_some (⟨#[97, 98]⟩ ++ X ++ mo) 2 (x := o) (by
    simp only [ByteArray.data_append, Array.toList_append, hXd]
    exact ho1) (by simp only [ByteArray.size_append, sab]; omega) (by decide) (by decide) w)
  have HO2 := Lib.hid (fun w => F.op_none (⟨#[97, 98]⟩ ++ X) 1 (by
    simp only [ByteArray.data_append, Array.toList_append, hXd]
    exact op_b hxm) (by simp only [ByteArray.size_append, sab]; omega) (by decide) (by decide) w)
  rw [hO] at HO1
  obtain ⟨T, hT⟩ : ∃ T : ByteArray, X ++ mo = T := ⟨_, rfl⟩
  have hTd : T.data.toList = x ++ mo.data.toList := by rw [← hT, ByteArray.data_append, Array.toList_append, hXd]
  have hTs : T.size ≤ 102 := by rw [← hT, ByteArray.size_append]; omega
  have hTl : T.size = (x ++ mo.data.toList).length := by
    have : T.data.toList.length = (x ++ mo.data.toList).length := by rw [hTd]
    simpa using this
  have hoq : (O.toList == X.toList) = (o == x) := by rw [toList_data, toList_data, hOd, hXd]
  have HOQ : Hid ((o == x) = !(opsL.any (begB x (x ++ mo.data.toList)))) := Lib.hid ho2
  have hlen : (X.size : Int) ≤ (O.size : Int) := by omega
  have hlenB : decide ((X.size : Int) ≤ (O.size : Int)) = true := decide_eq_true hlen
  have hx1i : (0 : Int) < (X.size : Int) := by omega
  have hxb1 : (X[0].toNat : Int) < 256 := by have := X[0].toNat_lt; omega
  have hxb0 : (0 : Int) ≤ (X[0].toNat : Int) := by omega
  have z1 : ∀ W : World, (Op.stringOp .add ⟨#[97, 98]⟩ X).run Try.prog W = .ok (.string (⟨#[97, 98]⟩ ++ X)) W := fun W => run_string_add_sum W _ _ (by rw [sab]; omega)
  have z2 : ∀ W : World, (Op.stringOp .add (⟨#[97, 98]⟩ ++ X) mo).run Try.prog W = .ok (.string (⟨#[97, 98]⟩ ++ X ++ mo)) W := fun W => run_string_add_sum W _ _ (by simp only [ByteArray.size_append, sab]; omega)
  have z3 : ∀ W : World, (Op.stringOp .add X mo).run Try.prog W = .ok (.string (X ++ mo)) W := fun W => run_string_add_sum W _ _ (by omega)
  rw [hT] at z3
  have hb0 := bel_alloc (Below.refl _ w) (.cells opsV 9)
  have hB0 := BlkAt.new w opsV 9
  obtain ⟨w0, hw0⟩ : ∃ w0, w.alloc (.cells opsV 9) = w0 := ⟨_, rfl⟩
  rw [hw0] at hb0 hB0
  have HW0 : Hid (w.alloc (.cells #[.string ⟨#[59, 59]⟩, .string ⟨#[38, 38]⟩, .string ⟨#[124, 124]⟩, .string ⟨#[59]⟩, .string ⟨#[124]⟩, .string ⟨#[38]⟩, .string ⟨#[40]⟩, .string ⟨#[41]⟩, .string ⟨#[60]⟩, .string ⟨#[62]⟩, .string ⟨#[62, 62]⟩, .string ⟨#[60, 60]⟩, .string ⟨#[60, 38]⟩, .string ⟨#[62, 38]⟩, .string ⟨#[60, 62]⟩, .string ⟨#[62, 124]⟩, .string ⟨#[10]⟩] 9) = w0) := Lib.hid hw0
  obtain ⟨g, hg⟩ : ∃ g, w.heap.size = g := ⟨_, rfl⟩
  rw [hg] at hB0
  have cX := hB0.cell J hcellX
  have HTd := Lib.hid hTd
  have HTl := Lib.hid hTl
  have HXl := Lib.hid hXl
  clear hw0 hx hxm hX hXd hXl hcellX hdc HEn0 ho1 ho2 ho3 hO hOd hOl hT hTd hTl
  go_enter Try.func5, Try.ntmps5
  go_upto_region 4 with fail
  rw [HW0.out]
  clear HW0
  go_wp2_with fail
  refine (HO1.out _).mono ?_
  rintro e w1 ⟨rfl, hw1⟩
  have hB1 := hB0.after hw1
  have hb1 := bel_step hb0 hw1
  clear HO1 hw1 hB0 hb0 cX z1 z2
  go_wp2
  go_loopw [9, 10] (fun z i wr => ∃ k : Nat, k ≤ 17 ∧ z = .bool ((opsL.take k).any (begB x (x ++ mo.data.toList))) ∧ i = .int .i64 (k : Int) ∧ BlkAt wr g opsV 9 ∧ Below w.heap.size w wr) (fun _ i _ => 17 - (intOf i).toNat)
  case atStart => exact ⟨0, by omega, rfl, rfl, hB1, hb1⟩
  case round =>
    clear hB1 hb1
    obtain ⟨k, hk, rfl, rfl, hB, hb⟩ := hrel
    by_cases hlt : k < 17
    · obtain ⟨y, hy⟩ : ∃ y, opsL[k]? = some y := ⟨opsL[k]'hlt, List.getElem?_eq_getElem _⟩
      obtain ⟨Y, hY⟩ : ∃ Y : ByteArray, (⟨y.toArray⟩ : ByteArray) = Y := ⟨_, rfl⟩
      have hYd : Y.data.toList = y := by rw [← hY]
      have hYl : Y.size = y.length := by
        have : Y.data.toList.length = y.length := by rw [hYd]
        simpa using this
      have hcell : opsV[k]? = some (.string Y) := by rw [opsV_at hy, strV, hY]
      have HN : Hid ((opsL.take (k + 1)).any (begB x (x ++ mo.data.toList)) = ((opsL.take k).any (begB x (x ++ mo.data.toList)) || begB x (x ++ mo.data.toList) y)) := Lib.hid (any_take hy)
      have c0 := hB.cell k hcell
      have hk0 : (0 : Int) ≤ (k : Int) := by omega
      have hk1 : (k : Int) < 17 := by omega
      obtain ⟨bb, hbb⟩ : ∃ bb, begB x (x ++ mo.data.toList) y = bb := ⟨_, rfl⟩
      rw [hbb] at HN
      have HBB : Hid (bb = (decide (X.size < Y.size) && (decide (Y.size ≤ T.size) && ((T.extract 0 Y.size).data.toList == Y.data.toList)))) := Lib.hid (by
        rw [← hbb]
        unfold begB
        rw [HXl.out, hYl, HTl.out, hYd, extract_bytes, HTd.out]
        rfl)
      clear hy hY hYl hYd hbb HOQ HEn HO2 FA hoq
      generalize (opsL.take k).any (begB x (x ++ mo.data.toList)) = z at *
      cases z with
      | true =>
        clear HBB
        go_wp2
        go_quiet (fail)
        go_wp2
        go_roundw
        case rel => exact ⟨k + 1, by omega, by rw [HN.out]; first | rfl | (simp; done) | simp [hq2], by go_num, hB.drewN2 _, belNL hb _⟩
        case measure => simp [intOf]; omega
      | false =>
        by_cases hl1 : X.size < Y.size
        · have e1 : decide (X.size < Y.size) = true := decide_eq_true hl1
          have e1' : decide ((X.size : Int) < (Y.size : Int)) = true := decide_eq_true (by omega)
          by_cases hl2 : Y.size ≤ T.size
          · have e2 : decide (Y.size ≤ T.size) = true := decide_eq_true hl2
            have e2' : decide ((Y.size : Int) ≤ (T.size : Int)) = true := decide_eq_true (by omega)
            have e3 : (Y.size : Int) ≤ (T.size : Int) := by omega
            have e4 : (0 : Int) ≤ (Y.size : Int) := by omega
            have hq2 : ((T.extract 0 Y.size).toList == Y.toList) = bb := by rw [HBB.out, e1, e2, toList_data, toList_data]; rfl
            clear HBB
            go_wp2
            go_quiet (fail)
            go_wp2
            go_roundw
            case rel => exact ⟨k + 1, by omega, by rw [HN.out]; first | rfl | (simp; done) | simp [hq2], by go_num, hB.drewN2 _, belNL hb _⟩
            case measure => simp [intOf]; omega
          · have e2 : decide (Y.size ≤ T.size) = false := decide_eq_false hl2
            have e2' : decide ((Y.size : Int) ≤ (T.size : Int)) = false := decide_eq_false (by omega)
            have hbf : bb = false := by rw [HBB.out, e1, e2]; rfl
            subst hbf
            clear HBB
            go_wp2
            go_quiet (fail)
            go_wp2
            go_roundw
            case rel => exact ⟨k + 1, by omega, by rw [HN.out]; first | rfl | (simp; done) | simp [hq2], by go_num, hB.drewN2 _, belNL hb _⟩
            case measure => simp [intOf]; omega
        · have e1 : decide (X.size < Y.size) = false := decide_eq_false hl1
          have e1' : decide ((X.size : Int) < (Y.size : Int)) = false := decide_eq_false (by omega)
          have hbf : bb = false := by rw [HBB.out, e1]; rfl
          subst hbf
          clear HBB
          go_wp2
          go_quiet (fail)
          go_wp2
          go_roundw
          case rel => exact ⟨k + 1, by omega, by rw [HN.out]; first | rfl | (simp; done) | simp [hq2], by go_num, hB.drewN2 _, belNL hb _⟩
          case measure => simp [intOf]; omega
    · have hk17 : k = 17 := by omega
      subst hk17
      have HZ : Hid ((opsL.take 17).any (begB x (x ++ mo.data.toList)) = opsL.any (begB x (x ++ mo.data.toList))) := Lib.hid rfl
      rw [HZ.out]
      have hoq2 : (O.toList == X.toList) = !(opsL.any (begB x (x ++ mo.data.toList))) := by rw [hoq, HOQ.out]
      clear HZ HOQ hoq
      generalize opsL.any (begB x (x ++ mo.data.toList)) = z at *
      have z1 : ∀ W : World, (Op.stringOp .add ⟨#[97, 98]⟩ X).run Try.prog W = .ok (.string (⟨#[97, 98]⟩ ++ X)) W := fun W => run_string_add_sum W _ _ (by rw [sab]; omega)
      go_wp2_with fail
      refine (HO2.out _).mono ?_
      rintro e w2 ⟨rfl, hw2⟩
      have hb2 := bel_step hb hw2
      clear HO2 hw2 hb hB
      go_wp2_with fail
      refine (HEn.out _).mono ?_
      rintro e w3 ⟨rfl, hw3⟩
      have hb3 := bel_step hb2 hw3
      clear HEn hw3 hb2
      go_wp2_with fail
      refine (FA.out _).mono ?_
      rintro e w4 ⟨rfl, hw4⟩
      have hb4 := bel_step hb3 hw4
      go_wp2
      go_ret
      exact ⟨rfl, hb4⟩
end Go.Proofs.Ytgdaipgmlibpiaa
