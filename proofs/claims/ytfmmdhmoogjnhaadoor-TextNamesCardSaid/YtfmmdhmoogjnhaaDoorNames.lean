/-
  conchlaw1.TextNames returns true for every input.
-/
import Derived.Test.YtfmmdhmoogjnhaaDoorTells
import Derived.Test.YtfmmdhmoogjnhaaDoorNamesPlain
import Derived.Laws.BytesArg
namespace Go.Proofs.YtfmmdhmoogjnhaaDoor
open Go.RowKit

set_option maxRecDepth 100000 in
set_option maxHeartbeats 4000000 in
theorem TextNames_long (a b : ByteArray) (c : Int) (w : World) (hs : a.size ≤ maxLen) (hs' : b.size ≤ maxLen) (hl : 100 < a.size ∨ 100 < b.size) (ht : TabOk w) :
    Calls Tryd.prog 6 #[.string a, .string b, .int .u8 c] w (Gives w (.bool true)) := by
  have HT := Lib.hid ht; clear ht
  unfold maxLen at hs hs'
  by_cases h1 : 100 < a.size
  · clear hl
    go_enter Tryd.func6, Tryd.ntmps6
    go_wp2_with fail
    refine (awake_any _ HT.out).mono ?_
    rintro e w2 ⟨rfl, hb2⟩
    have HB2 := Lib.hid hb2; clear hb2
    go_wp2
    go_ret
    exact ⟨rfl, HB2.out⟩
  · have h2 : 100 < b.size := by omega
    clear hl
    go_enter Tryd.func6, Tryd.ntmps6
    go_wp2_with fail
    refine (awake_any _ HT.out).mono ?_
    rintro e w2 ⟨rfl, hb2⟩
    have HB2 := Lib.hid hb2; clear hb2
    go_wp2
    go_ret
    exact ⟨rfl, HB2.out⟩

/-- one byte as a text -/
theorem one_conv (C : UInt8) : ∃ O : ByteArray, O.data.toList = [C] ∧ ∀ W : World, (convert 34 9 (.slice (some ⟨W.heap.size, 0, none⟩) 1 1)).run Tryd.prog (W.alloc (.cells #[.int .u8 (C.toNat : Int)] 5)) = .ok (.string O) (W.alloc (.cells #[.int .u8 (C.toNat : Int)] 5)) := by
  refine ⟨strOfNums [(C.toNat : Int)], by simp [strOfNums_data], fun W => ?_⟩
  refine run_convert_bytes_arg _ _ _ Tryd.underlying34 Tryd.underlying5 _ _ _ _ [(C.toNat : Int)] rfl ?_ _ Tryd.underlying9
  intro i hi
  obtain rfl : i = 0 := by have h1 : i < 1 := hi; omega
  simp

set_option maxRecDepth 100000 in
set_option maxHeartbeats 4000000 in
theorem TextNames_0 (a b : ByteArray) (C : UInt8) (w : World) (hs : a.size ≤ 100) (hs' : b.size ≤ 100) (hc0 : 0 ≤ (C.toNat : Int)) (hc1 : (C.toNat : Int) ≤ 47) (ht : TabOk w) :
    Calls Tryd.prog 6 #[.string a, .string b, .int .u8 (C.toNat : Int)] w (Gives w (.bool true)) := by
  have d1 : decide ((97 : Int) ≤ (C.toNat : Int)) = false := decide_eq_false (by omega)
  have d2 : decide ((C.toNat : Int) ≤ (122 : Int)) = true := decide_eq_true (by omega)
  have d3 : decide ((65 : Int) ≤ (C.toNat : Int)) = false := decide_eq_false (by omega)
  have d4 : decide ((C.toNat : Int) ≤ (90 : Int)) = true := decide_eq_true (by omega)
  have d5 : decide ((48 : Int) ≤ (C.toNat : Int)) = false := decide_eq_false (by omega)
  have d6 : decide ((C.toNat : Int) ≤ (57 : Int)) = true := decide_eq_true (by omega)
  have d7 : ((C.toNat : Int) == 95) = false := by rw [beq_eq_false_iff_ne]; omega
  have hdig : digB (C.toNat : Int) = false := by simp only [digB, d5, d6]; rfl
  have hnam : namB (C.toNat : Int) = false := by simp only [namB, d1, d2, d3, d4, d7, hdig]; rfl
  have H1 : Hid (nameB [C] = false) := Lib.hid (by rw [name_one, hnam, hdig]; rfl)
  have H2 : Hid (nameB [97, C] = false) := Lib.hid (by rw [name_two, hnam])
  clear hdig hnam
  have HT := Lib.hid ht; clear ht
  have g3 : decide ((100 : Int) < a.size) = false := decide_eq_false (by omega)
  have g4 : decide ((100 : Int) < b.size) = false := decide_eq_false (by omega)
  obtain ⟨O, hO, hcv⟩ := one_conv C
  have hOs : O.size ≤ 1 := by have := congrArg List.length hO; simp at this; omega
  have HO1 : Hid (nameB O.data.toList = false) := Lib.hid (by rw [hO]; exact H1.out)
  have HO2 : Hid (nameB ((⟨#[97]⟩ : ByteArray) ++ O).data.toList = false) := Lib.hid (by rw [app_data, hO]; exact H2.out)
  clear hO H1 H2
  cases hna : nameB a.data.toList
  case false =>
    have HNA := Lib.hid hna; clear hna
    go_enter Tryd.func6, Tryd.ntmps6
    go_wp2_with fail
    refine (Name_is _ false _ (small_len (by omega)) HNA.out).mono ?_
    rintro e w' ⟨rfl, rfl⟩
    go_wp2_with fail
    refine (Name_is _ false _ (small_len (by omega)) HO1.out).mono ?_
    rintro e w' ⟨rfl, rfl⟩
    go_wp2_with fail
    refine (Name_is _ false _ (small_len (by rw [ByteArray.size_append]; show 1 + _ ≤ _; omega)) HO2.out).mono ?_
    rintro e w' ⟨rfl, rfl⟩
    go_wp2_with fail
    refine (Name_is _ false _ (small_len (by decide)) (by decide)).mono ?_
    rintro e w' ⟨rfl, rfl⟩
    have HB1 := Lib.hid ((Below.refl w.heap.size w).alloc (Nat.le_refl _) (.cells #[.int .u8 (C.toNat : Int)] 5))
    go_wp2_with fail
    refine (awake_any _ (HT.out.below HB1.out)).mono ?_
    rintro e w5 ⟨rfl, hb5⟩
    have HB5 := Lib.hid (HB1.out.trans (hb5.mono HB1.out.size)); clear hb5
    go_wp2
    go_ret
    exact ⟨rfl, HB5.out⟩
  case true =>
    cases hnb : nameB b.data.toList
    case false =>
      have HNA := Lib.hid hna; clear hna
      have HNB := Lib.hid hnb; clear hnb
      go_enter Tryd.func6, Tryd.ntmps6
      go_wp2_with fail
      refine (Name_is _ true _ (small_len (by omega)) HNA.out).mono ?_
      rintro e w' ⟨rfl, rfl⟩
      go_wp2_with fail
      refine (Name_is _ false _ (small_len (by omega)) HNB.out).mono ?_
      rintro e w' ⟨rfl, rfl⟩
      go_wp2_with fail
      refine (Name_is _ false _ (small_len (by omega)) HO1.out).mono ?_
      rintro e w' ⟨rfl, rfl⟩
      go_wp2_with fail
      refine (Name_is _ false _ (small_len (by rw [ByteArray.size_append]; show 1 + _ ≤ _; omega)) HO2.out).mono ?_
      rintro e w' ⟨rfl, rfl⟩
      go_wp2_with fail
      refine (Name_is _ false _ (small_len (by decide)) (by decide)).mono ?_
      rintro e w' ⟨rfl, rfl⟩
      have HB1 := Lib.hid ((Below.refl w.heap.size w).alloc (Nat.le_refl _) (.cells #[.int .u8 (C.toNat : Int)] 5))
      go_wp2_with fail
      refine (awake_any _ (HT.out.below HB1.out)).mono ?_
      rintro e w5 ⟨rfl, hb5⟩
      have HB5 := Lib.hid (HB1.out.trans (hb5.mono HB1.out.size)); clear hb5
      go_wp2
      go_ret
      exact ⟨rfl, HB5.out⟩
    case true =>
      obtain ⟨j1, j2, j3, j4⟩ := names_joined hna hnb
      have J1 := Lib.hid j1; have J2 := Lib.hid j2; have J3 := Lib.hid j3; have J4 := Lib.hid j4
      have HNA := Lib.hid hna; clear hna
      have HNB := Lib.hid hnb; clear hnb
      clear j1 j2 j3 j4
      have e1 : a.data.toList.length = a.size := by simp
      have e2 : b.data.toList.length = b.size := by simp
      have HE1 := Lib.hid e1; have HE2 := Lib.hid e2; clear e1 e2
      go_enter Tryd.func6, Tryd.ntmps6
      go_wp2_with fail
      refine (Name_is _ true _ (small_len (by omega)) HNA.out).mono ?_
      rintro e w' ⟨rfl, rfl⟩
      go_wp2_with fail
      refine (Name_is _ true _ (small_len (by omega)) HNB.out).mono ?_
      rintro e w' ⟨rfl, rfl⟩
      go_wp2_with fail
      refine (Name_is _ true _ (small_len (by rw [ByteArray.size_append]; omega)) (by rw [app_data]; exact J1.out)).mono ?_
      rintro e w' ⟨rfl, rfl⟩
      go_wp2_with fail
      refine (Name_is _ true _ (small_len (by rw [ByteArray.size_append, ByteArray.size_append]; show _ + 1 + _ ≤ _; omega)) (by rw [app_data, app_data]; exact J2.out)).mono ?_
      rintro e w' ⟨rfl, rfl⟩
      go_wp2_with fail
      refine (NameLen_is _ _ a.size _ (small_len (by rw [ByteArray.size_append, ByteArray.size_append]; show _ + 1 + _ ≤ _; omega)) (by rw [app_data, app_data, ← HE1.out]; exact J3.out)).mono ?_
      rintro e w' ⟨rfl, rfl⟩
      go_wp2_with fail
      refine (NameLen_is _ _ b.size _ (small_len (by rw [ByteArray.size_append]; show 1 + _ ≤ _; omega)) (by rw [app_data, ← HE2.out]; exact J4.out)).mono ?_
      rintro e w' ⟨rfl, rfl⟩
      go_wp2_with fail
      refine (Name_is _ false _ (small_len (by omega)) HO1.out).mono ?_
      rintro e w' ⟨rfl, rfl⟩
      go_wp2_with fail
      refine (Name_is _ false _ (small_len (by rw [ByteArray.size_append]; show 1 + _ ≤ _; omega)) HO2.out).mono ?_
      rintro e w' ⟨rfl, rfl⟩
      go_wp2_with fail
      refine (Name_is _ false _ (small_len (by decide)) (by decide)).mono ?_
      rintro e w' ⟨rfl, rfl⟩
      have HB1 := Lib.hid ((Below.refl w.heap.size w).alloc (Nat.le_refl _) (.cells #[.int .u8 (C.toNat : Int)] 5))
      go_wp2_with fail
      refine (awake_any _ (HT.out.below HB1.out)).mono ?_
      rintro e w5 ⟨rfl, hb5⟩
      have HB5 := Lib.hid (HB1.out.trans (hb5.mono HB1.out.size)); clear hb5
      go_wp2
      go_ret
      exact ⟨rfl, HB5.out⟩

set_option maxRecDepth 100000 in
set_option maxHeartbeats 4000000 in
theorem TextNames_1 (a b : ByteArray) (C : UInt8) (w : World) (hs : a.size ≤ 100) (hs' : b.size ≤ 100) (hc0 : 48 ≤ (C.toNat : Int)) (hc1 : (C.toNat : Int) ≤ 57) (ht : TabOk w) :
    Calls Tryd.prog 6 #[.string a, .string b, .int .u8 (C.toNat : Int)] w (Gives w (.bool true)) := by
  have d1 : decide ((97 : Int) ≤ (C.toNat : Int)) = false := decide_eq_false (by omega)
  have d2 : decide ((C.toNat : Int) ≤ (122 : Int)) = true := decide_eq_true (by omega)
  have d3 : decide ((65 : Int) ≤ (C.toNat : Int)) = false := decide_eq_false (by omega)
  have d4 : decide ((C.toNat : Int) ≤ (90 : Int)) = true := decide_eq_true (by omega)
  have d5 : decide ((48 : Int) ≤ (C.toNat : Int)) = true := decide_eq_true (by omega)
  have d6 : decide ((C.toNat : Int) ≤ (57 : Int)) = true := decide_eq_true (by omega)
  have d7 : ((C.toNat : Int) == 95) = false := by rw [beq_eq_false_iff_ne]; omega
  have hdig : digB (C.toNat : Int) = true := by simp only [digB, d5, d6]; rfl
  have hnam : namB (C.toNat : Int) = true := by simp only [namB, d1, d2, d3, d4, d7, hdig]; rfl
  have H1 : Hid (nameB [C] = false) := Lib.hid (by rw [name_one, hnam, hdig]; rfl)
  have H2 : Hid (nameB [97, C] = true) := Lib.hid (by rw [name_two, hnam])
  clear hdig hnam
  have HT := Lib.hid ht; clear ht
  have g3 : decide ((100 : Int) < a.size) = false := decide_eq_false (by omega)
  have g4 : decide ((100 : Int) < b.size) = false := decide_eq_false (by omega)
  obtain ⟨O, hO, hcv⟩ := one_conv C
  have hOs : O.size ≤ 1 := by have := congrArg List.length hO; simp at this; omega
  have HO1 : Hid (nameB O.data.toList = false) := Lib.hid (by rw [hO]; exact H1.out)
  have HO2 : Hid (nameB ((⟨#[97]⟩ : ByteArray) ++ O).data.toList = true) := Lib.hid (by rw [app_data, hO]; exact H2.out)
  clear hO H1 H2
  cases hna : nameB a.data.toList
  case false =>
    have HNA := Lib.hid hna; clear hna
    go_enter Tryd.func6, Tryd.ntmps6
    go_wp2_with fail
    refine (Name_is _ false _ (small_len (by omega)) HNA.out).mono ?_
    rintro e w' ⟨rfl, rfl⟩
    go_wp2_with fail
    refine (Name_is _ false _ (small_len (by omega)) HO1.out).mono ?_
    rintro e w' ⟨rfl, rfl⟩
    go_wp2_with fail
    refine (Name_is _ true _ (small_len (by rw [ByteArray.size_append]; show 1 + _ ≤ _; omega)) HO2.out).mono ?_
    rintro e w' ⟨rfl, rfl⟩
    go_wp2_with fail
    refine (Name_is _ false _ (small_len (by decide)) (by decide)).mono ?_
    rintro e w' ⟨rfl, rfl⟩
    have HB1 := Lib.hid ((Below.refl w.heap.size w).alloc (Nat.le_refl _) (.cells #[.int .u8 (C.toNat : Int)] 5))
    go_wp2_with fail
    refine (awake_any _ (HT.out.below HB1.out)).mono ?_
    rintro e w5 ⟨rfl, hb5⟩
    have HB5 := Lib.hid (HB1.out.trans (hb5.mono HB1.out.size)); clear hb5
    go_wp2
    go_ret
    exact ⟨rfl, HB5.out⟩
  case true =>
    cases hnb : nameB b.data.toList
    case false =>
      have HNA := Lib.hid hna; clear hna
      have HNB := Lib.hid hnb; clear hnb
      go_enter Tryd.func6, Tryd.ntmps6
      go_wp2_with fail
      refine (Name_is _ true _ (small_len (by omega)) HNA.out).mono ?_
      rintro e w' ⟨rfl, rfl⟩
      go_wp2_with fail
      refine (Name_is _ false _ (small_len (by omega)) HNB.out).mono ?_
      rintro e w' ⟨rfl, rfl⟩
      go_wp2_with fail
      refine (Name_is _ false _ (small_len (by omega)) HO1.out).mono ?_
      rintro e w' ⟨rfl, rfl⟩
      go_wp2_with fail
      refine (Name_is _ true _ (small_len (by rw [ByteArray.size_append]; show 1 + _ ≤ _; omega)) HO2.out).mono ?_
      rintro e w' ⟨rfl, rfl⟩
      go_wp2_with fail
      refine (Name_is _ false _ (small_len (by decide)) (by decide)).mono ?_
      rintro e w' ⟨rfl, rfl⟩
      have HB1 := Lib.hid ((Below.refl w.heap.size w).alloc (Nat.le_refl _) (.cells #[.int .u8 (C.toNat : Int)] 5))
      go_wp2_with fail
      refine (awake_any _ (HT.out.below HB1.out)).mono ?_
      rintro e w5 ⟨rfl, hb5⟩
      have HB5 := Lib.hid (HB1.out.trans (hb5.mono HB1.out.size)); clear hb5
      go_wp2
      go_ret
      exact ⟨rfl, HB5.out⟩
    case true =>
      obtain ⟨j1, j2, j3, j4⟩ := names_joined hna hnb
      have J1 := Lib.hid j1; have J2 := Lib.hid j2; have J3 := Lib.hid j3; have J4 := Lib.hid j4
      have HNA := Lib.hid hna; clear hna
      have HNB := Lib.hid hnb; clear hnb
      clear j1 j2 j3 j4
      have e1 : a.data.toList.length = a.size := by simp
      have e2 : b.data.toList.length = b.size := by simp
      have HE1 := Lib.hid e1; have HE2 := Lib.hid e2; clear e1 e2
      go_enter Tryd.func6, Tryd.ntmps6
      go_wp2_with fail
      refine (Name_is _ true _ (small_len (by omega)) HNA.out).mono ?_
      rintro e w' ⟨rfl, rfl⟩
      go_wp2_with fail
      refine (Name_is _ true _ (small_len (by omega)) HNB.out).mono ?_
      rintro e w' ⟨rfl, rfl⟩
      go_wp2_with fail
      refine (Name_is _ true _ (small_len (by rw [ByteArray.size_append]; omega)) (by rw [app_data]; exact J1.out)).mono ?_
      rintro e w' ⟨rfl, rfl⟩
      go_wp2_with fail
      refine (Name_is _ true _ (small_len (by rw [ByteArray.size_append, ByteArray.size_append]; show _ + 1 + _ ≤ _; omega)) (by rw [app_data, app_data]; exact J2.out)).mono ?_
      rintro e w' ⟨rfl, rfl⟩
      go_wp2_with fail
      refine (NameLen_is _ _ a.size _ (small_len (by rw [ByteArray.size_append, ByteArray.size_append]; show _ + 1 + _ ≤ _; omega)) (by rw [app_data, app_data, ← HE1.out]; exact J3.out)).mono ?_
      rintro e w' ⟨rfl, rfl⟩
      go_wp2_with fail
      refine (NameLen_is _ _ b.size _ (small_len (by rw [ByteArray.size_append]; show 1 + _ ≤ _; omega)) (by rw [app_data, ← HE2.out]; exact J4.out)).mono ?_
      rintro e w' ⟨rfl, rfl⟩
      go_wp2_with fail
      refine (Name_is _ false _ (small_len (by omega)) HO1.out).mono ?_
      rintro e w' ⟨rfl, rfl⟩
      go_wp2_with fail
      refine (Name_is _ true _ (small_len (by rw [ByteArray.size_append]; show 1 + _ ≤ _; omega)) HO2.out).mono ?_
      rintro e w' ⟨rfl, rfl⟩
      go_wp2_with fail
      refine (Name_is _ false _ (small_len (by decide)) (by decide)).mono ?_
      rintro e w' ⟨rfl, rfl⟩
      have HB1 := Lib.hid ((Below.refl w.heap.size w).alloc (Nat.le_refl _) (.cells #[.int .u8 (C.toNat : Int)] 5))
      go_wp2_with fail
      refine (awake_any _ (HT.out.below HB1.out)).mono ?_
      rintro e w5 ⟨rfl, hb5⟩
      have HB5 := Lib.hid (HB1.out.trans (hb5.mono HB1.out.size)); clear hb5
      go_wp2
      go_ret
      exact ⟨rfl, HB5.out⟩

set_option maxRecDepth 100000 in
set_option maxHeartbeats 4000000 in
theorem TextNames_2 (a b : ByteArray) (C : UInt8) (w : World) (hs : a.size ≤ 100) (hs' : b.size ≤ 100) (hc0 : 58 ≤ (C.toNat : Int)) (hc1 : (C.toNat : Int) ≤ 64) (ht : TabOk w) :
    Calls Tryd.prog 6 #[.string a, .string b, .int .u8 (C.toNat : Int)] w (Gives w (.bool true)) := by
  have d1 : decide ((97 : Int) ≤ (C.toNat : Int)) = false := decide_eq_false (by omega)
  have d2 : decide ((C.toNat : Int) ≤ (122 : Int)) = true := decide_eq_true (by omega)
  have d3 : decide ((65 : Int) ≤ (C.toNat : Int)) = false := decide_eq_false (by omega)
  have d4 : decide ((C.toNat : Int) ≤ (90 : Int)) = true := decide_eq_true (by omega)
  have d5 : decide ((48 : Int) ≤ (C.toNat : Int)) = true := decide_eq_true (by omega)
  have d6 : decide ((C.toNat : Int) ≤ (57 : Int)) = false := decide_eq_false (by omega)
  have d7 : ((C.toNat : Int) == 95) = false := by rw [beq_eq_false_iff_ne]; omega
  have hdig : digB (C.toNat : Int) = false := by simp only [digB, d5, d6]; rfl
  have hnam : namB (C.toNat : Int) = false := by simp only [namB, d1, d2, d3, d4, d7, hdig]; rfl
  have H1 : Hid (nameB [C] = false) := Lib.hid (by rw [name_one, hnam, hdig]; rfl)
  have H2 : Hid (nameB [97, C] = false) := Lib.hid (by rw [name_two, hnam])
  clear hdig hnam
  have HT := Lib.hid ht; clear ht
  have g3 : decide ((100 : Int) < a.size) = false := decide_eq_false (by omega)
  have g4 : decide ((100 : Int) < b.size) = false := decide_eq_false (by omega)
  obtain ⟨O, hO, hcv⟩ := one_conv C
  have hOs : O.size ≤ 1 := by have := congrArg List.length hO; simp at this; omega
  have HO1 : Hid (nameB O.data.toList = false) := Lib.hid (by rw [hO]; exact H1.out)
  have HO2 : Hid (nameB ((⟨#[97]⟩ : ByteArray) ++ O).data.toList = false) := Lib.hid (by rw [app_data, hO]; exact H2.out)
  clear hO H1 H2
  cases hna : nameB a.data.toList
  case false =>
    have HNA := Lib.hid hna; clear hna
    go_enter Tryd.func6, Tryd.ntmps6
    go_wp2_with fail
    refine (Name_is _ false _ (small_len (by omega)) HNA.out).mono ?_
    rintro e w' ⟨rfl, rfl⟩
    go_wp2_with fail
    refine (Name_is _ false _ (small_len (by omega)) HO1.out).mono ?_
    rintro e w' ⟨rfl, rfl⟩
    go_wp2_with fail
    refine (Name_is _ false _ (small_len (by rw [ByteArray.size_append]; show 1 + _ ≤ _; omega)) HO2.out).mono ?_
    rintro e w' ⟨rfl, rfl⟩
    go_wp2_with fail
    refine (Name_is _ false _ (small_len (by decide)) (by decide)).mono ?_
    rintro e w' ⟨rfl, rfl⟩
    have HB1 := Lib.hid ((Below.refl w.heap.size w).alloc (Nat.le_refl _) (.cells #[.int .u8 (C.toNat : Int)] 5))
    go_wp2_with fail
    refine (awake_any _ (HT.out.below HB1.out)).mono ?_
    rintro e w5 ⟨rfl, hb5⟩
    have HB5 := Lib.hid (HB1.out.trans (hb5.mono HB1.out.size)); clear hb5
    go_wp2
    go_ret
    exact ⟨rfl, HB5.out⟩
  case true =>
    cases hnb : nameB b.data.toList
    case false =>
      have HNA := Lib.hid hna; clear hna
      have HNB := Lib.hid hnb; clear hnb
      go_enter Tryd.func6, Tryd.ntmps6
      go_wp2_with fail
      refine (Name_is _ true _ (small_len (by omega)) HNA.out).mono ?_
      rintro e w' ⟨rfl, rfl⟩
      go_wp2_with fail
      refine (Name_is _ false _ (small_len (by omega)) HNB.out).mono ?_
      rintro e w' ⟨rfl, rfl⟩
      go_wp2_with fail
      refine (Name_is _ false _ (small_len (by omega)) HO1.out).mono ?_
      rintro e w' ⟨rfl, rfl⟩
      go_wp2_with fail
      refine (Name_is _ false _ (small_len (by rw [ByteArray.size_append]; show 1 + _ ≤ _; omega)) HO2.out).mono ?_
      rintro e w' ⟨rfl, rfl⟩
      go_wp2_with fail
      refine (Name_is _ false _ (small_len (by decide)) (by decide)).mono ?_
      rintro e w' ⟨rfl, rfl⟩
      have HB1 := Lib.hid ((Below.refl w.heap.size w).alloc (Nat.le_refl _) (.cells #[.int .u8 (C.toNat : Int)] 5))
      go_wp2_with fail
      refine (awake_any _ (HT.out.below HB1.out)).mono ?_
      rintro e w5 ⟨rfl, hb5⟩
      have HB5 := Lib.hid (HB1.out.trans (hb5.mono HB1.out.size)); clear hb5
      go_wp2
      go_ret
      exact ⟨rfl, HB5.out⟩
    case true =>
      obtain ⟨j1, j2, j3, j4⟩ := names_joined hna hnb
      have J1 := Lib.hid j1; have J2 := Lib.hid j2; have J3 := Lib.hid j3; have J4 := Lib.hid j4
      have HNA := Lib.hid hna; clear hna
      have HNB := Lib.hid hnb; clear hnb
      clear j1 j2 j3 j4
      have e1 : a.data.toList.length = a.size := by simp
      have e2 : b.data.toList.length = b.size := by simp
      have HE1 := Lib.hid e1; have HE2 := Lib.hid e2; clear e1 e2
      go_enter Tryd.func6, Tryd.ntmps6
      go_wp2_with fail
      refine (Name_is _ true _ (small_len (by omega)) HNA.out).mono ?_
      rintro e w' ⟨rfl, rfl⟩
      go_wp2_with fail
      refine (Name_is _ true _ (small_len (by omega)) HNB.out).mono ?_
      rintro e w' ⟨rfl, rfl⟩
      go_wp2_with fail
      refine (Name_is _ true _ (small_len (by rw [ByteArray.size_append]; omega)) (by rw [app_data]; exact J1.out)).mono ?_
      rintro e w' ⟨rfl, rfl⟩
      go_wp2_with fail
      refine (Name_is _ true _ (small_len (by rw [ByteArray.size_append, ByteArray.size_append]; show _ + 1 + _ ≤ _; omega)) (by rw [app_data, app_data]; exact J2.out)).mono ?_
      rintro e w' ⟨rfl, rfl⟩
      go_wp2_with fail
      refine (NameLen_is _ _ a.size _ (small_len (by rw [ByteArray.size_append, ByteArray.size_append]; show _ + 1 + _ ≤ _; omega)) (by rw [app_data, app_data, ← HE1.out]; exact J3.out)).mono ?_
      rintro e w' ⟨rfl, rfl⟩
      go_wp2_with fail
      refine (NameLen_is _ _ b.size _ (small_len (by rw [ByteArray.size_append]; show 1 + _ ≤ _; omega)) (by rw [app_data, ← HE2.out]; exact J4.out)).mono ?_
      rintro e w' ⟨rfl, rfl⟩
      go_wp2_with fail
      refine (Name_is _ false _ (small_len (by omega)) HO1.out).mono ?_
      rintro e w' ⟨rfl, rfl⟩
      go_wp2_with fail
      refine (Name_is _ false _ (small_len (by rw [ByteArray.size_append]; show 1 + _ ≤ _; omega)) HO2.out).mono ?_
      rintro e w' ⟨rfl, rfl⟩
      go_wp2_with fail
      refine (Name_is _ false _ (small_len (by decide)) (by decide)).mono ?_
      rintro e w' ⟨rfl, rfl⟩
      have HB1 := Lib.hid ((Below.refl w.heap.size w).alloc (Nat.le_refl _) (.cells #[.int .u8 (C.toNat : Int)] 5))
      go_wp2_with fail
      refine (awake_any _ (HT.out.below HB1.out)).mono ?_
      rintro e w5 ⟨rfl, hb5⟩
      have HB5 := Lib.hid (HB1.out.trans (hb5.mono HB1.out.size)); clear hb5
      go_wp2
      go_ret
      exact ⟨rfl, HB5.out⟩

set_option maxRecDepth 100000 in
set_option maxHeartbeats 4000000 in
theorem TextNames_3 (a b : ByteArray) (C : UInt8) (w : World) (hs : a.size ≤ 100) (hs' : b.size ≤ 100) (hc0 : 65 ≤ (C.toNat : Int)) (hc1 : (C.toNat : Int) ≤ 90) (ht : TabOk w) :
    Calls Tryd.prog 6 #[.string a, .string b, .int .u8 (C.toNat : Int)] w (Gives w (.bool true)) := by
  have d1 : decide ((97 : Int) ≤ (C.toNat : Int)) = false := decide_eq_false (by omega)
  have d2 : decide ((C.toNat : Int) ≤ (122 : Int)) = true := decide_eq_true (by omega)
  have d3 : decide ((65 : Int) ≤ (C.toNat : Int)) = true := decide_eq_true (by omega)
  have d4 : decide ((C.toNat : Int) ≤ (90 : Int)) = true := decide_eq_true (by omega)
  have d5 : decide ((48 : Int) ≤ (C.toNat : Int)) = true := decide_eq_true (by omega)
  have d6 : decide ((C.toNat : Int) ≤ (57 : Int)) = false := decide_eq_false (by omega)
  have d7 : ((C.toNat : Int) == 95) = false := by rw [beq_eq_false_iff_ne]; omega
  have hdig : digB (C.toNat : Int) = false := by simp only [digB, d5, d6]; rfl
  have hnam : namB (C.toNat : Int) = true := by simp only [namB, d1, d2, d3, d4, d7, hdig]; rfl
  have H1 : Hid (nameB [C] = true) := Lib.hid (by rw [name_one, hnam, hdig]; rfl)
  have H2 : Hid (nameB [97, C] = true) := Lib.hid (by rw [name_two, hnam])
  clear hdig hnam
  have HT := Lib.hid ht; clear ht
  have g3 : decide ((100 : Int) < a.size) = false := decide_eq_false (by omega)
  have g4 : decide ((100 : Int) < b.size) = false := decide_eq_false (by omega)
  obtain ⟨O, hO, hcv⟩ := one_conv C
  have hOs : O.size ≤ 1 := by have := congrArg List.length hO; simp at this; omega
  have HO1 : Hid (nameB O.data.toList = true) := Lib.hid (by rw [hO]; exact H1.out)
  have HO2 : Hid (nameB ((⟨#[97]⟩ : ByteArray) ++ O).data.toList = true) := Lib.hid (by rw [app_data, hO]; exact H2.out)
  clear hO H1 H2
  cases hna : nameB a.data.toList
  case false =>
    have HNA := Lib.hid hna; clear hna
    go_enter Tryd.func6, Tryd.ntmps6
    go_wp2_with fail
    refine (Name_is _ false _ (small_len (by omega)) HNA.out).mono ?_
    rintro e w' ⟨rfl, rfl⟩
    go_wp2_with fail
    refine (Name_is _ true _ (small_len (by omega)) HO1.out).mono ?_
    rintro e w' ⟨rfl, rfl⟩
    go_wp2_with fail
    refine (Name_is _ true _ (small_len (by rw [ByteArray.size_append]; show 1 + _ ≤ _; omega)) HO2.out).mono ?_
    rintro e w' ⟨rfl, rfl⟩
    go_wp2_with fail
    refine (Name_is _ false _ (small_len (by decide)) (by decide)).mono ?_
    rintro e w' ⟨rfl, rfl⟩
    have HB1 := Lib.hid ((Below.refl w.heap.size w).alloc (Nat.le_refl _) (.cells #[.int .u8 (C.toNat : Int)] 5))
    go_wp2_with fail
    refine (awake_any _ (HT.out.below HB1.out)).mono ?_
    rintro e w5 ⟨rfl, hb5⟩
    have HB5 := Lib.hid (HB1.out.trans (hb5.mono HB1.out.size)); clear hb5
    go_wp2
    go_ret
    exact ⟨rfl, HB5.out⟩
  case true =>
    cases hnb : nameB b.data.toList
    case false =>
      have HNA := Lib.hid hna; clear hna
      have HNB := Lib.hid hnb; clear hnb
      go_enter Tryd.func6, Tryd.ntmps6
      go_wp2_with fail
      refine (Name_is _ true _ (small_len (by omega)) HNA.out).mono ?_
      rintro e w' ⟨rfl, rfl⟩
      go_wp2_with fail
      refine (Name_is _ false _ (small_len (by omega)) HNB.out).mono ?_
      rintro e w' ⟨rfl, rfl⟩
      go_wp2_with fail
      refine (Name_is _ true _ (small_len (by omega)) HO1.out).mono ?_
      rintro e w' ⟨rfl, rfl⟩
      go_wp2_with fail
      refine (Name_is _ true _ (small_len (by rw [ByteArray.size_append]; show 1 + _ ≤ _; omega)) HO2.out).mono ?_
      rintro e w' ⟨rfl, rfl⟩
      go_wp2_with fail
      refine (Name_is _ false _ (small_len (by decide)) (by decide)).mono ?_
      rintro e w' ⟨rfl, rfl⟩
      have HB1 := Lib.hid ((Below.refl w.heap.size w).alloc (Nat.le_refl _) (.cells #[.int .u8 (C.toNat : Int)] 5))
      go_wp2_with fail
      refine (awake_any _ (HT.out.below HB1.out)).mono ?_
      rintro e w5 ⟨rfl, hb5⟩
      have HB5 := Lib.hid (HB1.out.trans (hb5.mono HB1.out.size)); clear hb5
      go_wp2
      go_ret
      exact ⟨rfl, HB5.out⟩
    case true =>
      obtain ⟨j1, j2, j3, j4⟩ := names_joined hna hnb
      have J1 := Lib.hid j1; have J2 := Lib.hid j2; have J3 := Lib.hid j3; have J4 := Lib.hid j4
      have HNA := Lib.hid hna; clear hna
      have HNB := Lib.hid hnb; clear hnb
      clear j1 j2 j3 j4
      have e1 : a.data.toList.length = a.size := by simp
      have e2 : b.data.toList.length = b.size := by simp
      have HE1 := Lib.hid e1; have HE2 := Lib.hid e2; clear e1 e2
      go_enter Tryd.func6, Tryd.ntmps6
      go_wp2_with fail
      refine (Name_is _ true _ (small_len (by omega)) HNA.out).mono ?_
      rintro e w' ⟨rfl, rfl⟩
      go_wp2_with fail
      refine (Name_is _ true _ (small_len (by omega)) HNB.out).mono ?_
      rintro e w' ⟨rfl, rfl⟩
      go_wp2_with fail
      refine (Name_is _ true _ (small_len (by rw [ByteArray.size_append]; omega)) (by rw [app_data]; exact J1.out)).mono ?_
      rintro e w' ⟨rfl, rfl⟩
      go_wp2_with fail
      refine (Name_is _ true _ (small_len (by rw [ByteArray.size_append, ByteArray.size_append]; show _ + 1 + _ ≤ _; omega)) (by rw [app_data, app_data]; exact J2.out)).mono ?_
      rintro e w' ⟨rfl, rfl⟩
      go_wp2_with fail
      refine (NameLen_is _ _ a.size _ (small_len (by rw [ByteArray.size_append, ByteArray.size_append]; show _ + 1 + _ ≤ _; omega)) (by rw [app_data, app_data, ← HE1.out]; exact J3.out)).mono ?_
      rintro e w' ⟨rfl, rfl⟩
      go_wp2_with fail
      refine (NameLen_is _ _ b.size _ (small_len (by rw [ByteArray.size_append]; show 1 + _ ≤ _; omega)) (by rw [app_data, ← HE2.out]; exact J4.out)).mono ?_
      rintro e w' ⟨rfl, rfl⟩
      go_wp2_with fail
      refine (Name_is _ true _ (small_len (by omega)) HO1.out).mono ?_
      rintro e w' ⟨rfl, rfl⟩
      go_wp2_with fail
      refine (Name_is _ true _ (small_len (by rw [ByteArray.size_append]; show 1 + _ ≤ _; omega)) HO2.out).mono ?_
      rintro e w' ⟨rfl, rfl⟩
      go_wp2_with fail
      refine (Name_is _ false _ (small_len (by decide)) (by decide)).mono ?_
      rintro e w' ⟨rfl, rfl⟩
      have HB1 := Lib.hid ((Below.refl w.heap.size w).alloc (Nat.le_refl _) (.cells #[.int .u8 (C.toNat : Int)] 5))
      go_wp2_with fail
      refine (awake_any _ (HT.out.below HB1.out)).mono ?_
      rintro e w5 ⟨rfl, hb5⟩
      have HB5 := Lib.hid (HB1.out.trans (hb5.mono HB1.out.size)); clear hb5
      go_wp2
      go_ret
      exact ⟨rfl, HB5.out⟩

set_option maxRecDepth 100000 in
set_option maxHeartbeats 4000000 in
theorem TextNames_4 (a b : ByteArray) (C : UInt8) (w : World) (hs : a.size ≤ 100) (hs' : b.size ≤ 100) (hc0 : 91 ≤ (C.toNat : Int)) (hc1 : (C.toNat : Int) ≤ 94) (ht : TabOk w) :
    Calls Tryd.prog 6 #[.string a, .string b, .int .u8 (C.toNat : Int)] w (Gives w (.bool true)) := by
  have d1 : decide ((97 : Int) ≤ (C.toNat : Int)) = false := decide_eq_false (by omega)
  have d2 : decide ((C.toNat : Int) ≤ (122 : Int)) = true := decide_eq_true (by omega)
  have d3 : decide ((65 : Int) ≤ (C.toNat : Int)) = true := decide_eq_true (by omega)
  have d4 : decide ((C.toNat : Int) ≤ (90 : Int)) = false := decide_eq_false (by omega)
  have d5 : decide ((48 : Int) ≤ (C.toNat : Int)) = true := decide_eq_true (by omega)
  have d6 : decide ((C.toNat : Int) ≤ (57 : Int)) = false := decide_eq_false (by omega)
  have d7 : ((C.toNat : Int) == 95) = false := by rw [beq_eq_false_iff_ne]; omega
  have hdig : digB (C.toNat : Int) = false := by simp only [digB, d5, d6]; rfl
  have hnam : namB (C.toNat : Int) = false := by simp only [namB, d1, d2, d3, d4, d7, hdig]; rfl
  have H1 : Hid (nameB [C] = false) := Lib.hid (by rw [name_one, hnam, hdig]; rfl)
  have H2 : Hid (nameB [97, C] = false) := Lib.hid (by rw [name_two, hnam])
  clear hdig hnam
  have HT := Lib.hid ht; clear ht
  have g3 : decide ((100 : Int) < a.size) = false := decide_eq_false (by omega)
  have g4 : decide ((100 : Int) < b.size) = false := decide_eq_false (by omega)
  obtain ⟨O, hO, hcv⟩ := one_conv C
  have hOs : O.size ≤ 1 := by have := congrArg List.length hO; simp at this; omega
  have HO1 : Hid (nameB O.data.toList = false) := Lib.hid (by rw [hO]; exact H1.out)
  have HO2 : Hid (nameB ((⟨#[97]⟩ : ByteArray) ++ O).data.toList = false) := Lib.hid (by rw [app_data, hO]; exact H2.out)
  clear hO H1 H2
  cases hna : nameB a.data.toList
  case false =>
    have HNA := Lib.hid hna; clear hna
    go_enter Tryd.func6, Tryd.ntmps6
    go_wp2_with fail
    refine (Name_is _ false _ (small_len (by omega)) HNA.out).mono ?_
    rintro e w' ⟨rfl, rfl⟩
    go_wp2_with fail
    refine (Name_is _ false _ (small_len (by omega)) HO1.out).mono ?_
    rintro e w' ⟨rfl, rfl⟩
    go_wp2_with fail
    refine (Name_is _ false _ (small_len (by rw [ByteArray.size_append]; show 1 + _ ≤ _; omega)) HO2.out).mono ?_
    rintro e w' ⟨rfl, rfl⟩
    go_wp2_with fail
    refine (Name_is _ false _ (small_len (by decide)) (by decide)).mono ?_
    rintro e w' ⟨rfl, rfl⟩
    have HB1 := Lib.hid ((Below.refl w.heap.size w).alloc (Nat.le_refl _) (.cells #[.int .u8 (C.toNat : Int)] 5))
    go_wp2_with fail
    refine (awake_any _ (HT.out.below HB1.out)).mono ?_
    rintro e w5 ⟨rfl, hb5⟩
    have HB5 := Lib.hid (HB1.out.trans (hb5.mono HB1.out.size)); clear hb5
    go_wp2
    go_ret
    exact ⟨rfl, HB5.out⟩
  case true =>
    cases hnb : nameB b.data.toList
    case false =>
      have HNA := Lib.hid hna; clear hna
      have HNB := Lib.hid hnb; clear hnb
      go_enter Tryd.func6, Tryd.ntmps6
      go_wp2_with fail
      refine (Name_is _ true _ (small_len (by omega)) HNA.out).mono ?_
      rintro e w' ⟨rfl, rfl⟩
      go_wp2_with fail
      refine (Name_is _ false _ (small_len (by omega)) HNB.out).mono ?_
      rintro e w' ⟨rfl, rfl⟩
      go_wp2_with fail
      refine (Name_is _ false _ (small_len (by omega)) HO1.out).mono ?_
      rintro e w' ⟨rfl, rfl⟩
      go_wp2_with fail
      refine (Name_is _ false _ (small_len (by rw [ByteArray.size_append]; show 1 + _ ≤ _; omega)) HO2.out).mono ?_
      rintro e w' ⟨rfl, rfl⟩
      go_wp2_with fail
      refine (Name_is _ false _ (small_len (by decide)) (by decide)).mono ?_
      rintro e w' ⟨rfl, rfl⟩
      have HB1 := Lib.hid ((Below.refl w.heap.size w).alloc (Nat.le_refl _) (.cells #[.int .u8 (C.toNat : Int)] 5))
      go_wp2_with fail
      refine (awake_any _ (HT.out.below HB1.out)).mono ?_
      rintro e w5 ⟨rfl, hb5⟩
      have HB5 := Lib.hid (HB1.out.trans (hb5.mono HB1.out.size)); clear hb5
      go_wp2
      go_ret
      exact ⟨rfl, HB5.out⟩
    case true =>
      obtain ⟨j1, j2, j3, j4⟩ := names_joined hna hnb
      have J1 := Lib.hid j1; have J2 := Lib.hid j2; have J3 := Lib.hid j3; have J4 := Lib.hid j4
      have HNA := Lib.hid hna; clear hna
      have HNB := Lib.hid hnb; clear hnb
      clear j1 j2 j3 j4
      have e1 : a.data.toList.length = a.size := by simp
      have e2 : b.data.toList.length = b.size := by simp
      have HE1 := Lib.hid e1; have HE2 := Lib.hid e2; clear e1 e2
      go_enter Tryd.func6, Tryd.ntmps6
      go_wp2_with fail
      refine (Name_is _ true _ (small_len (by omega)) HNA.out).mono ?_
      rintro e w' ⟨rfl, rfl⟩
      go_wp2_with fail
      refine (Name_is _ true _ (small_len (by omega)) HNB.out).mono ?_
      rintro e w' ⟨rfl, rfl⟩
      go_wp2_with fail
      refine (Name_is _ true _ (small_len (by rw [ByteArray.size_append]; omega)) (by rw [app_data]; exact J1.out)).mono ?_
      rintro e w' ⟨rfl, rfl⟩
      go_wp2_with fail
      refine (Name_is _ true _ (small_len (by rw [ByteArray.size_append, ByteArray.size_append]; show _ + 1 + _ ≤ _; omega)) (by rw [app_data, app_data]; exact J2.out)).mono ?_
      rintro e w' ⟨rfl, rfl⟩
      go_wp2_with fail
      refine (NameLen_is _ _ a.size _ (small_len (by rw [ByteArray.size_append, ByteArray.size_append]; show _ + 1 + _ ≤ _; omega)) (by rw [app_data, app_data, ← HE1.out]; exact J3.out)).mono ?_
      rintro e w' ⟨rfl, rfl⟩
      go_wp2_with fail
      refine (NameLen_is _ _ b.size _ (small_len (by rw [ByteArray.size_append]; show 1 + _ ≤ _; omega)) (by rw [app_data, ← HE2.out]; exact J4.out)).mono ?_
      rintro e w' ⟨rfl, rfl⟩
      go_wp2_with fail
      refine (Name_is _ false _ (small_len (by omega)) HO1.out).mono ?_
      rintro e w' ⟨rfl, rfl⟩
      go_wp2_with fail
      refine (Name_is _ false _ (small_len (by rw [ByteArray.size_append]; show 1 + _ ≤ _; omega)) HO2.out).mono ?_
      rintro e w' ⟨rfl, rfl⟩
      go_wp2_with fail
      refine (Name_is _ false _ (small_len (by decide)) (by decide)).mono ?_
      rintro e w' ⟨rfl, rfl⟩
      have HB1 := Lib.hid ((Below.refl w.heap.size w).alloc (Nat.le_refl _) (.cells #[.int .u8 (C.toNat : Int)] 5))
      go_wp2_with fail
      refine (awake_any _ (HT.out.below HB1.out)).mono ?_
      rintro e w5 ⟨rfl, hb5⟩
      have HB5 := Lib.hid (HB1.out.trans (hb5.mono HB1.out.size)); clear hb5
      go_wp2
      go_ret
      exact ⟨rfl, HB5.out⟩

set_option maxRecDepth 100000 in
set_option maxHeartbeats 4000000 in
theorem TextNames_5 (a b : ByteArray) (C : UInt8) (w : World) (hs : a.size ≤ 100) (hs' : b.size ≤ 100) (hc0 : 95 ≤ (C.toNat : Int)) (hc1 : (C.toNat : Int) ≤ 95) (ht : TabOk w) :
    Calls Tryd.prog 6 #[.string a, .string b, .int .u8 (C.toNat : Int)] w (Gives w (.bool true)) := by
  have d1 : decide ((97 : Int) ≤ (C.toNat : Int)) = false := decide_eq_false (by omega)
  have d2 : decide ((C.toNat : Int) ≤ (122 : Int)) = true := decide_eq_true (by omega)
  have d3 : decide ((65 : Int) ≤ (C.toNat : Int)) = true := decide_eq_true (by omega)
  have d4 : decide ((C.toNat : Int) ≤ (90 : Int)) = false := decide_eq_false (by omega)
  have d5 : decide ((48 : Int) ≤ (C.toNat : Int)) = true := decide_eq_true (by omega)
  have d6 : decide ((C.toNat : Int) ≤ (57 : Int)) = false := decide_eq_false (by omega)
  have d7 : ((C.toNat : Int) == 95) = true := by rw [beq_iff_eq]; omega
  have hdig : digB (C.toNat : Int) = false := by simp only [digB, d5, d6]; rfl
  have hnam : namB (C.toNat : Int) = true := by simp only [namB, d1, d2, d3, d4, d7, hdig]; rfl
  have H1 : Hid (nameB [C] = true) := Lib.hid (by rw [name_one, hnam, hdig]; rfl)
  have H2 : Hid (nameB [97, C] = true) := Lib.hid (by rw [name_two, hnam])
  clear hdig hnam
  have HT := Lib.hid ht; clear ht
  have g3 : decide ((100 : Int) < a.size) = false := decide_eq_false (by omega)
  have g4 : decide ((100 : Int) < b.size) = false := decide_eq_false (by omega)
  obtain ⟨O, hO, hcv⟩ := one_conv C
  have hOs : O.size ≤ 1 := by have := congrArg List.length hO; simp at this; omega
  have HO1 : Hid (nameB O.data.toList = true) := Lib.hid (by rw [hO]; exact H1.out)
  have HO2 : Hid (nameB ((⟨#[97]⟩ : ByteArray) ++ O).data.toList = true) := Lib.hid (by rw [app_data, hO]; exact H2.out)
  clear hO H1 H2
  cases hna : nameB a.data.toList
  case false =>
    have HNA := Lib.hid hna; clear hna
    go_enter Tryd.func6, Tryd.ntmps6
    go_wp2_with fail
    refine (Name_is _ false _ (small_len (by omega)) HNA.out).mono ?_
    rintro e w' ⟨rfl, rfl⟩
    go_wp2_with fail
    refine (Name_is _ true _ (small_len (by omega)) HO1.out).mono ?_
    rintro e w' ⟨rfl, rfl⟩
    go_wp2_with fail
    refine (Name_is _ true _ (small_len (by rw [ByteArray.size_append]; show 1 + _ ≤ _; omega)) HO2.out).mono ?_
    rintro e w' ⟨rfl, rfl⟩
    go_wp2_with fail
    refine (Name_is _ false _ (small_len (by decide)) (by decide)).mono ?_
    rintro e w' ⟨rfl, rfl⟩
    have HB1 := Lib.hid ((Below.refl w.heap.size w).alloc (Nat.le_refl _) (.cells #[.int .u8 (C.toNat : Int)] 5))
    go_wp2_with fail
    refine (awake_any _ (HT.out.below HB1.out)).mono ?_
    rintro e w5 ⟨rfl, hb5⟩
    have HB5 := Lib.hid (HB1.out.trans (hb5.mono HB1.out.size)); clear hb5
    go_wp2
    go_ret
    exact ⟨rfl, HB5.out⟩
  case true =>
    cases hnb : nameB b.data.toList
    case false =>
      have HNA := Lib.hid hna; clear hna
      have HNB := Lib.hid hnb; clear hnb
      go_enter Tryd.func6, Tryd.ntmps6
      go_wp2_with fail
      refine (Name_is _ true _ (small_len (by omega)) HNA.out).mono ?_
      rintro e w' ⟨rfl, rfl⟩
      go_wp2_with fail
      refine (Name_is _ false _ (small_len (by omega)) HNB.out).mono ?_
      rintro e w' ⟨rfl, rfl⟩
      go_wp2_with fail
      refine (Name_is _ true _ (small_len (by omega)) HO1.out).mono ?_
      rintro e w' ⟨rfl, rfl⟩
      go_wp2_with fail
      refine (Name_is _ true _ (small_len (by rw [ByteArray.size_append]; show 1 + _ ≤ _; omega)) HO2.out).mono ?_
      rintro e w' ⟨rfl, rfl⟩
      go_wp2_with fail
      refine (Name_is _ false _ (small_len (by decide)) (by decide)).mono ?_
      rintro e w' ⟨rfl, rfl⟩
      have HB1 := Lib.hid ((Below.refl w.heap.size w).alloc (Nat.le_refl _) (.cells #[.int .u8 (C.toNat : Int)] 5))
      go_wp2_with fail
      refine (awake_any _ (HT.out.below HB1.out)).mono ?_
      rintro e w5 ⟨rfl, hb5⟩
      have HB5 := Lib.hid (HB1.out.trans (hb5.mono HB1.out.size)); clear hb5
      go_wp2
      go_ret
      exact ⟨rfl, HB5.out⟩
    case true =>
      obtain ⟨j1, j2, j3, j4⟩ := names_joined hna hnb
      have J1 := Lib.hid j1; have J2 := Lib.hid j2; have J3 := Lib.hid j3; have J4 := Lib.hid j4
      have HNA := Lib.hid hna; clear hna
      have HNB := Lib.hid hnb; clear hnb
      clear j1 j2 j3 j4
      have e1 : a.data.toList.length = a.size := by simp
      have e2 : b.data.toList.length = b.size := by simp
      have HE1 := Lib.hid e1; have HE2 := Lib.hid e2; clear e1 e2
      go_enter Tryd.func6, Tryd.ntmps6
      go_wp2_with fail
      refine (Name_is _ true _ (small_len (by omega)) HNA.out).mono ?_
      rintro e w' ⟨rfl, rfl⟩
      go_wp2_with fail
      refine (Name_is _ true _ (small_len (by omega)) HNB.out).mono ?_
      rintro e w' ⟨rfl, rfl⟩
      go_wp2_with fail
      refine (Name_is _ true _ (small_len (by rw [ByteArray.size_append]; omega)) (by rw [app_data]; exact J1.out)).mono ?_
      rintro e w' ⟨rfl, rfl⟩
      go_wp2_with fail
      refine (Name_is _ true _ (small_len (by rw [ByteArray.size_append, ByteArray.size_append]; show _ + 1 + _ ≤ _; omega)) (by rw [app_data, app_data]; exact J2.out)).mono ?_
      rintro e w' ⟨rfl, rfl⟩
      go_wp2_with fail
      refine (NameLen_is _ _ a.size _ (small_len (by rw [ByteArray.size_append, ByteArray.size_append]; show _ + 1 + _ ≤ _; omega)) (by rw [app_data, app_data, ← HE1.out]; exact J3.out)).mono ?_
      rintro e w' ⟨rfl, rfl⟩
      go_wp2_with fail
      refine (NameLen_is _ _ b.size _ (small_len (by rw [ByteArray.size_append]; show 1 + _ ≤ _; omega)) (by rw [app_data, ← HE2.out]; exact J4.out)).mono ?_
      rintro e w' ⟨rfl, rfl⟩
      go_wp2_with fail
      refine (Name_is _ true _ (small_len (by omega)) HO1.out).mono ?_
      rintro e w' ⟨rfl, rfl⟩
      go_wp2_with fail
      refine (Name_is _ true _ (small_len (by rw [ByteArray.size_append]; show 1 + _ ≤ _; omega)) HO2.out).mono ?_
      rintro e w' ⟨rfl, rfl⟩
      go_wp2_with fail
      refine (Name_is _ false _ (small_len (by decide)) (by decide)).mono ?_
      rintro e w' ⟨rfl, rfl⟩
      have HB1 := Lib.hid ((Below.refl w.heap.size w).alloc (Nat.le_refl _) (.cells #[.int .u8 (C.toNat : Int)] 5))
      go_wp2_with fail
      refine (awake_any _ (HT.out.below HB1.out)).mono ?_
      rintro e w5 ⟨rfl, hb5⟩
      have HB5 := Lib.hid (HB1.out.trans (hb5.mono HB1.out.size)); clear hb5
      go_wp2
      go_ret
      exact ⟨rfl, HB5.out⟩

set_option maxRecDepth 100000 in
set_option maxHeartbeats 4000000 in
theorem TextNames_6 (a b : ByteArray) (C : UInt8) (w : World) (hs : a.size ≤ 100) (hs' : b.size ≤ 100) (hc0 : 96 ≤ (C.toNat : Int)) (hc1 : (C.toNat : Int) ≤ 96) (ht : TabOk w) :
    Calls Tryd.prog 6 #[.string a, .string b, .int .u8 (C.toNat : Int)] w (Gives w (.bool true)) := by
  have d1 : decide ((97 : Int) ≤ (C.toNat : Int)) = false := decide_eq_false (by omega)
  have d2 : decide ((C.toNat : Int) ≤ (122 : Int)) = true := decide_eq_true (by omega)
  have d3 : decide ((65 : Int) ≤ (C.toNat : Int)) = true := decide_eq_true (by omega)
  have d4 : decide ((C.toNat : Int) ≤ (90 : Int)) = false := decide_eq_false (by omega)
  have d5 : decide ((48 : Int) ≤ (C.toNat : Int)) = true := decide_eq_true (by omega)
  have d6 : decide ((C.toNat : Int) ≤ (57 : Int)) = false := decide_eq_false (by omega)
  have d7 : ((C.toNat : Int) == 95) = false := by rw [beq_eq_false_iff_ne]; omega
  have hdig : digB (C.toNat : Int) = false := by simp only [digB, d5, d6]; rfl
  have hnam : namB (C.toNat : Int) = false := by simp only [namB, d1, d2, d3, d4, d7, hdig]; rfl
  have H1 : Hid (nameB [C] = false) := Lib.hid (by rw [name_one, hnam, hdig]; rfl)
  have H2 : Hid (nameB [97, C] = false) := Lib.hid (by rw [name_two, hnam])
  clear hdig hnam
  have HT := Lib.hid ht; clear ht
  have g3 : decide ((100 : Int) < a.size) = false := decide_eq_false (by omega)
  have g4 : decide ((100 : Int) < b.size) = false := decide_eq_false (by omega)
  obtain ⟨O, hO, hcv⟩ := one_conv C
  have hOs : O.size ≤ 1 := by have := congrArg List.length hO; simp at this; omega
  have HO1 : Hid (nameB O.data.toList = false) := Lib.hid (by rw [hO]; exact H1.out)
  have HO2 : Hid (nameB ((⟨#[97]⟩ : ByteArray) ++ O).data.toList = false) := Lib.hid (by rw [app_data, hO]; exact H2.out)
  clear hO H1 H2
  cases hna : nameB a.data.toList
  case false =>
    have HNA := Lib.hid hna; clear hna
    go_enter Tryd.func6, Tryd.ntmps6
    go_wp2_with fail
    refine (Name_is _ false _ (small_len (by omega)) HNA.out).mono ?_
    rintro e w' ⟨rfl, rfl⟩
    go_wp2_with fail
    refine (Name_is _ false _ (small_len (by omega)) HO1.out).mono ?_
    rintro e w' ⟨rfl, rfl⟩
    go_wp2_with fail
    refine (Name_is _ false _ (small_len (by rw [ByteArray.size_append]; show 1 + _ ≤ _; omega)) HO2.out).mono ?_
    rintro e w' ⟨rfl, rfl⟩
    go_wp2_with fail
    refine (Name_is _ false _ (small_len (by decide)) (by decide)).mono ?_
    rintro e w' ⟨rfl, rfl⟩
    have HB1 := Lib.hid ((Below.refl w.heap.size w).alloc (Nat.le_refl _) (.cells #[.int .u8 (C.toNat : Int)] 5))
    go_wp2_with fail
    refine (awake_any _ (HT.out.below HB1.out)).mono ?_
    rintro e w5 ⟨rfl, hb5⟩
    have HB5 := Lib.hid (HB1.out.trans (hb5.mono HB1.out.size)); clear hb5
    go_wp2
    go_ret
    exact ⟨rfl, HB5.out⟩
  case true =>
    cases hnb : nameB b.data.toList
    case false =>
      have HNA := Lib.hid hna; clear hna
      have HNB := Lib.hid hnb; clear hnb
      go_enter Tryd.func6, Tryd.ntmps6
      go_wp2_with fail
      refine (Name_is _ true _ (small_len (by omega)) HNA.out).mono ?_
      rintro e w' ⟨rfl, rfl⟩
      go_wp2_with fail
      refine (Name_is _ false _ (small_len (by omega)) HNB.out).mono ?_
      rintro e w' ⟨rfl, rfl⟩
      go_wp2_with fail
      refine (Name_is _ false _ (small_len (by omega)) HO1.out).mono ?_
      rintro e w' ⟨rfl, rfl⟩
      go_wp2_with fail
      refine (Name_is _ false _ (small_len (by rw [ByteArray.size_append]; show 1 + _ ≤ _; omega)) HO2.out).mono ?_
      rintro e w' ⟨rfl, rfl⟩
      go_wp2_with fail
      refine (Name_is _ false _ (small_len (by decide)) (by decide)).mono ?_
      rintro e w' ⟨rfl, rfl⟩
      have HB1 := Lib.hid ((Below.refl w.heap.size w).alloc (Nat.le_refl _) (.cells #[.int .u8 (C.toNat : Int)] 5))
      go_wp2_with fail
      refine (awake_any _ (HT.out.below HB1.out)).mono ?_
      rintro e w5 ⟨rfl, hb5⟩
      have HB5 := Lib.hid (HB1.out.trans (hb5.mono HB1.out.size)); clear hb5
      go_wp2
      go_ret
      exact ⟨rfl, HB5.out⟩
    case true =>
      obtain ⟨j1, j2, j3, j4⟩ := names_joined hna hnb
      have J1 := Lib.hid j1; have J2 := Lib.hid j2; have J3 := Lib.hid j3; have J4 := Lib.hid j4
      have HNA := Lib.hid hna; clear hna
      have HNB := Lib.hid hnb; clear hnb
      clear j1 j2 j3 j4
      have e1 : a.data.toList.length = a.size := by simp
      have e2 : b.data.toList.length = b.size := by simp
      have HE1 := Lib.hid e1; have HE2 := Lib.hid e2; clear e1 e2
      go_enter Tryd.func6, Tryd.ntmps6
      go_wp2_with fail
      refine (Name_is _ true _ (small_len (by omega)) HNA.out).mono ?_
      rintro e w' ⟨rfl, rfl⟩
      go_wp2_with fail
      refine (Name_is _ true _ (small_len (by omega)) HNB.out).mono ?_
      rintro e w' ⟨rfl, rfl⟩
      go_wp2_with fail
      refine (Name_is _ true _ (small_len (by rw [ByteArray.size_append]; omega)) (by rw [app_data]; exact J1.out)).mono ?_
      rintro e w' ⟨rfl, rfl⟩
      go_wp2_with fail
      refine (Name_is _ true _ (small_len (by rw [ByteArray.size_append, ByteArray.size_append]; show _ + 1 + _ ≤ _; omega)) (by rw [app_data, app_data]; exact J2.out)).mono ?_
      rintro e w' ⟨rfl, rfl⟩
      go_wp2_with fail
      refine (NameLen_is _ _ a.size _ (small_len (by rw [ByteArray.size_append, ByteArray.size_append]; show _ + 1 + _ ≤ _; omega)) (by rw [app_data, app_data, ← HE1.out]; exact J3.out)).mono ?_
      rintro e w' ⟨rfl, rfl⟩
      go_wp2_with fail
      refine (NameLen_is _ _ b.size _ (small_len (by rw [ByteArray.size_append]; show 1 + _ ≤ _; omega)) (by rw [app_data, ← HE2.out]; exact J4.out)).mono ?_
      rintro e w' ⟨rfl, rfl⟩
      go_wp2_with fail
      refine (Name_is _ false _ (small_len (by omega)) HO1.out).mono ?_
      rintro e w' ⟨rfl, rfl⟩
      go_wp2_with fail
      refine (Name_is _ false _ (small_len (by rw [ByteArray.size_append]; show 1 + _ ≤ _; omega)) HO2.out).mono ?_
      rintro e w' ⟨rfl, rfl⟩
      go_wp2_with fail
      refine (Name_is _ false _ (small_len (by decide)) (by decide)).mono ?_
      rintro e w' ⟨rfl, rfl⟩
      have HB1 := Lib.hid ((Below.refl w.heap.size w).alloc (Nat.le_refl _) (.cells #[.int .u8 (C.toNat : Int)] 5))
      go_wp2_with fail
      refine (awake_any _ (HT.out.below HB1.out)).mono ?_
      rintro e w5 ⟨rfl, hb5⟩
      have HB5 := Lib.hid (HB1.out.trans (hb5.mono HB1.out.size)); clear hb5
      go_wp2
      go_ret
      exact ⟨rfl, HB5.out⟩

set_option maxRecDepth 100000 in
set_option maxHeartbeats 4000000 in
theorem TextNames_7 (a b : ByteArray) (C : UInt8) (w : World) (hs : a.size ≤ 100) (hs' : b.size ≤ 100) (hc0 : 97 ≤ (C.toNat : Int)) (hc1 : (C.toNat : Int) ≤ 122) (ht : TabOk w) :
    Calls Tryd.prog 6 #[.string a, .string b, .int .u8 (C.toNat : Int)] w (Gives w (.bool true)) := by
  have d1 : decide ((97 : Int) ≤ (C.toNat : Int)) = true := decide_eq_true (by omega)
  have d2 : decide ((C.toNat : Int) ≤ (122 : Int)) = true := decide_eq_true (by omega)
  have d3 : decide ((65 : Int) ≤ (C.toNat : Int)) = true := decide_eq_true (by omega)
  have d4 : decide ((C.toNat : Int) ≤ (90 : Int)) = false := decide_eq_false (by omega)
  have d5 : decide ((48 : Int) ≤ (C.toNat : Int)) = true := decide_eq_true (by omega)
  have d6 : decide ((C.toNat : Int) ≤ (57 : Int)) = false := decide_eq_false (by omega)
  have d7 : ((C.toNat : Int) == 95) = false := by rw [beq_eq_false_iff_ne]; omega
  have hdig : digB (C.toNat : Int) = false := by simp only [digB, d5, d6]; rfl
  have hnam : namB (C.toNat : Int) = true := by simp only [namB, d1, d2, d3, d4, d7, hdig]; rfl
  have H1 : Hid (nameB [C] = true) := Lib.hid (by rw [name_one, hnam, hdig]; rfl)
  have H2 : Hid (nameB [97, C] = true) := Lib.hid (by rw [name_two, hnam])
  clear hdig hnam
  have HT := Lib.hid ht; clear ht
  have g3 : decide ((100 : Int) < a.size) = false := decide_eq_false (by omega)
  have g4 : decide ((100 : Int) < b.size) = false := decide_eq_false (by omega)
  obtain ⟨O, hO, hcv⟩ := one_conv C
  have hOs : O.size ≤ 1 := by have := congrArg List.length hO; simp at this; omega
  have HO1 : Hid (nameB O.data.toList = true) := Lib.hid (by rw [hO]; exact H1.out)
  have HO2 : Hid (nameB ((⟨#[97]⟩ : ByteArray) ++ O).data.toList = true) := Lib.hid (by rw [app_data, hO]; exact H2.out)
  clear hO H1 H2
  cases hna : nameB a.data.toList
  case false =>
    have HNA := Lib.hid hna; clear hna
    go_enter Tryd.func6, Tryd.ntmps6
    go_wp2_with fail
    refine (Name_is _ false _ (small_len (by omega)) HNA.out).mono ?_
    rintro e w' ⟨rfl, rfl⟩
    go_wp2_with fail
    refine (Name_is _ true _ (small_len (by omega)) HO1.out).mono ?_
    rintro e w' ⟨rfl, rfl⟩
    go_wp2_with fail
    refine (Name_is _ true _ (small_len (by rw [ByteArray.size_append]; show 1 + _ ≤ _; omega)) HO2.out).mono ?_
    rintro e w' ⟨rfl, rfl⟩
    go_wp2_with fail
    refine (Name_is _ false _ (small_len (by decide)) (by decide)).mono ?_
    rintro e w' ⟨rfl, rfl⟩
    have HB1 := Lib.hid ((Below.refl w.heap.size w).alloc (Nat.le_refl _) (.cells #[.int .u8 (C.toNat : Int)] 5))
    go_wp2_with fail
    refine (awake_any _ (HT.out.below HB1.out)).mono ?_
    rintro e w5 ⟨rfl, hb5⟩
    have HB5 := Lib.hid (HB1.out.trans (hb5.mono HB1.out.size)); clear hb5
    go_wp2
    go_ret
    exact ⟨rfl, HB5.out⟩
  case true =>
    cases hnb : nameB b.data.toList
    case false =>
      have HNA := Lib.hid hna; clear hna
      have HNB := Lib.hid hnb; clear hnb
      go_enter Tryd.func6, Tryd.ntmps6
      go_wp2_with fail
      refine (Name_is _ true _ (small_len (by omega)) HNA.out).mono ?_
      rintro e w' ⟨rfl, rfl⟩
      go_wp2_with fail
      refine (Name_is _ false _ (small_len (by omega)) HNB.out).mono ?_
      rintro e w' ⟨rfl, rfl⟩
      go_wp2_with fail
      refine (Name_is _ true _ (small_len (by omega)) HO1.out).mono ?_
      rintro e w' ⟨rfl, rfl⟩
      go_wp2_with fail
      refine (Name_is _ true _ (small_len (by rw [ByteArray.size_append]; show 1 + _ ≤ _; omega)) HO2.out).mono ?_
      rintro e w' ⟨rfl, rfl⟩
      go_wp2_with fail
      refine (Name_is _ false _ (small_len (by decide)) (by decide)).mono ?_
      rintro e w' ⟨rfl, rfl⟩
      have HB1 := Lib.hid ((Below.refl w.heap.size w).alloc (Nat.le_refl _) (.cells #[.int .u8 (C.toNat : Int)] 5))
      go_wp2_with fail
      refine (awake_any _ (HT.out.below HB1.out)).mono ?_
      rintro e w5 ⟨rfl, hb5⟩
      have HB5 := Lib.hid (HB1.out.trans (hb5.mono HB1.out.size)); clear hb5
      go_wp2
      go_ret
      exact ⟨rfl, HB5.out⟩
    case true =>
      obtain ⟨j1, j2, j3, j4⟩ := names_joined hna hnb
      have J1 := Lib.hid j1; have J2 := Lib.hid j2; have J3 := Lib.hid j3; have J4 := Lib.hid j4
      have HNA := Lib.hid hna; clear hna
      have HNB := Lib.hid hnb; clear hnb
      clear j1 j2 j3 j4
      have e1 : a.data.toList.length = a.size := by simp
      have e2 : b.data.toList.length = b.size := by simp
      have HE1 := Lib.hid e1; have HE2 := Lib.hid e2; clear e1 e2
      go_enter Tryd.func6, Tryd.ntmps6
      go_wp2_with fail
      refine (Name_is _ true _ (small_len (by omega)) HNA.out).mono ?_
      rintro e w' ⟨rfl, rfl⟩
      go_wp2_with fail
      refine (Name_is _ true _ (small_len (by omega)) HNB.out).mono ?_
      rintro e w' ⟨rfl, rfl⟩
      go_wp2_with fail
      refine (Name_is _ true _ (small_len (by rw [ByteArray.size_append]; omega)) (by rw [app_data]; exact J1.out)).mono ?_
      rintro e w' ⟨rfl, rfl⟩
      go_wp2_with fail
      refine (Name_is _ true _ (small_len (by rw [ByteArray.size_append, ByteArray.size_append]; show _ + 1 + _ ≤ _; omega)) (by rw [app_data, app_data]; exact J2.out)).mono ?_
      rintro e w' ⟨rfl, rfl⟩
      go_wp2_with fail
      refine (NameLen_is _ _ a.size _ (small_len (by rw [ByteArray.size_append, ByteArray.size_append]; show _ + 1 + _ ≤ _; omega)) (by rw [app_data, app_data, ← HE1.out]; exact J3.out)).mono ?_
      rintro e w' ⟨rfl, rfl⟩
      go_wp2_with fail
      refine (NameLen_is _ _ b.size _ (small_len (by rw [ByteArray.size_append]; show 1 + _ ≤ _; omega)) (by rw [app_data, ← HE2.out]; exact J4.out)).mono ?_
      rintro e w' ⟨rfl, rfl⟩
      go_wp2_with fail
      refine (Name_is _ true _ (small_len (by omega)) HO1.out).mono ?_
      rintro e w' ⟨rfl, rfl⟩
      go_wp2_with fail
      refine (Name_is _ true _ (small_len (by rw [ByteArray.size_append]; show 1 + _ ≤ _; omega)) HO2.out).mono ?_
      rintro e w' ⟨rfl, rfl⟩
      go_wp2_with fail
      refine (Name_is _ false _ (small_len (by decide)) (by decide)).mono ?_
      rintro e w' ⟨rfl, rfl⟩
      have HB1 := Lib.hid ((Below.refl w.heap.size w).alloc (Nat.le_refl _) (.cells #[.int .u8 (C.toNat : Int)] 5))
      go_wp2_with fail
      refine (awake_any _ (HT.out.below HB1.out)).mono ?_
      rintro e w5 ⟨rfl, hb5⟩
      have HB5 := Lib.hid (HB1.out.trans (hb5.mono HB1.out.size)); clear hb5
      go_wp2
      go_ret
      exact ⟨rfl, HB5.out⟩

set_option maxRecDepth 100000 in
set_option maxHeartbeats 4000000 in
theorem TextNames_8 (a b : ByteArray) (C : UInt8) (w : World) (hs : a.size ≤ 100) (hs' : b.size ≤ 100) (hc0 : 123 ≤ (C.toNat : Int)) (hc1 : (C.toNat : Int) ≤ 255) (ht : TabOk w) :
    Calls Tryd.prog 6 #[.string a, .string b, .int .u8 (C.toNat : Int)] w (Gives w (.bool true)) := by
  have d1 : decide ((97 : Int) ≤ (C.toNat : Int)) = true := decide_eq_true (by omega)
  have d2 : decide ((C.toNat : Int) ≤ (122 : Int)) = false := decide_eq_false (by omega)
  have d3 : decide ((65 : Int) ≤ (C.toNat : Int)) = true := decide_eq_true (by omega)
  have d4 : decide ((C.toNat : Int) ≤ (90 : Int)) = false := decide_eq_false (by omega)
  have d5 : decide ((48 : Int) ≤ (C.toNat : Int)) = true := decide_eq_true (by omega)
  have d6 : decide ((C.toNat : Int) ≤ (57 : Int)) = false := decide_eq_false (by omega)
  have d7 : ((C.toNat : Int) == 95) = false := by rw [beq_eq_false_iff_ne]; omega
  have hdig : digB (C.toNat : Int) = false := by simp only [digB, d5, d6]; rfl
  have hnam : namB (C.toNat : Int) = false := by simp only [namB, d1, d2, d3, d4, d7, hdig]; rfl
  have H1 : Hid (nameB [C] = false) := Lib.hid (by rw [name_one, hnam, hdig]; rfl)
  have H2 : Hid (nameB [97, C] = false) := Lib.hid (by rw [name_two, hnam])
  clear hdig hnam
  have HT := Lib.hid ht; clear ht
  have g3 : decide ((100 : Int) < a.size) = false := decide_eq_false (by omega)
  have g4 : decide ((100 : Int) < b.size) = false := decide_eq_false (by omega)
  obtain ⟨O, hO, hcv⟩ := one_conv C
  have hOs : O.size ≤ 1 := by have := congrArg List.length hO; simp at this; omega
  have HO1 : Hid (nameB O.data.toList = false) := Lib.hid (by rw [hO]; exact H1.out)
  have HO2 : Hid (nameB ((⟨#[97]⟩ : ByteArray) ++ O).data.toList = false) := Lib.hid (by rw [app_data, hO]; exact H2.out)
  clear hO H1 H2
  cases hna : nameB a.data.toList
  case false =>
    have HNA := Lib.hid hna; clear hna
    go_enter Tryd.func6, Tryd.ntmps6
    go_wp2_with fail
    refine (Name_is _ false _ (small_len (by omega)) HNA.out).mono ?_
    rintro e w' ⟨rfl, rfl⟩
    go_wp2_with fail
    refine (Name_is _ false _ (small_len (by omega)) HO1.out).mono ?_
    rintro e w' ⟨rfl, rfl⟩
    go_wp2_with fail
    refine (Name_is _ false _ (small_len (by rw [ByteArray.size_append]; show 1 + _ ≤ _; omega)) HO2.out).mono ?_
    rintro e w' ⟨rfl, rfl⟩
    go_wp2_with fail
    refine (Name_is _ false _ (small_len (by decide)) (by decide)).mono ?_
    rintro e w' ⟨rfl, rfl⟩
    have HB1 := Lib.hid ((Below.refl w.heap.size w).alloc (Nat.le_refl _) (.cells #[.int .u8 (C.toNat : Int)] 5))
    go_wp2_with fail
    refine (awake_any _ (HT.out.below HB1.out)).mono ?_
    rintro e w5 ⟨rfl, hb5⟩
    have HB5 := Lib.hid (HB1.out.trans (hb5.mono HB1.out.size)); clear hb5
    go_wp2
    go_ret
    exact ⟨rfl, HB5.out⟩
  case true =>
    cases hnb : nameB b.data.toList
    case false =>
      have HNA := Lib.hid hna; clear hna
      have HNB := Lib.hid hnb; clear hnb
      go_enter Tryd.func6, Tryd.ntmps6
      go_wp2_with fail
      refine (Name_is _ true _ (small_len (by omega)) HNA.out).mono ?_
      rintro e w' ⟨rfl, rfl⟩
      go_wp2_with fail
      refine (Name_is _ false _ (small_len (by omega)) HNB.out).mono ?_
      rintro e w' ⟨rfl, rfl⟩
      go_wp2_with fail
      refine (Name_is _ false _ (small_len (by omega)) HO1.out).mono ?_
      rintro e w' ⟨rfl, rfl⟩
      go_wp2_with fail
      refine (Name_is _ false _ (small_len (by rw [ByteArray.size_append]; show 1 + _ ≤ _; omega)) HO2.out).mono ?_
      rintro e w' ⟨rfl, rfl⟩
      go_wp2_with fail
      refine (Name_is _ false _ (small_len (by decide)) (by decide)).mono ?_
      rintro e w' ⟨rfl, rfl⟩
      have HB1 := Lib.hid ((Below.refl w.heap.size w).alloc (Nat.le_refl _) (.cells #[.int .u8 (C.toNat : Int)] 5))
      go_wp2_with fail
      refine (awake_any _ (HT.out.below HB1.out)).mono ?_
      rintro e w5 ⟨rfl, hb5⟩
      have HB5 := Lib.hid (HB1.out.trans (hb5.mono HB1.out.size)); clear hb5
      go_wp2
      go_ret
      exact ⟨rfl, HB5.out⟩
    case true =>
      obtain ⟨j1, j2, j3, j4⟩ := names_joined hna hnb
      have J1 := Lib.hid j1; have J2 := Lib.hid j2; have J3 := Lib.hid j3; have J4 := Lib.hid j4
      have HNA := Lib.hid hna; clear hna
      have HNB := Lib.hid hnb; clear hnb
      clear j1 j2 j3 j4
      have e1 : a.data.toList.length = a.size := by simp
      have e2 : b.data.toList.length = b.size := by simp
      have HE1 := Lib.hid e1; have HE2 := Lib.hid e2; clear e1 e2
      go_enter Tryd.func6, Tryd.ntmps6
      go_wp2_with fail
      refine (Name_is _ true _ (small_len (by omega)) HNA.out).mono ?_
      rintro e w' ⟨rfl, rfl⟩
      go_wp2_with fail
      refine (Name_is _ true _ (small_len (by omega)) HNB.out).mono ?_
      rintro e w' ⟨rfl, rfl⟩
      go_wp2_with fail
      refine (Name_is _ true _ (small_len (by rw [ByteArray.size_append]; omega)) (by rw [app_data]; exact J1.out)).mono ?_
      rintro e w' ⟨rfl, rfl⟩
      go_wp2_with fail
      refine (Name_is _ true _ (small_len (by rw [ByteArray.size_append, ByteArray.size_append]; show _ + 1 + _ ≤ _; omega)) (by rw [app_data, app_data]; exact J2.out)).mono ?_
      rintro e w' ⟨rfl, rfl⟩
      go_wp2_with fail
      refine (NameLen_is _ _ a.size _ (small_len (by rw [ByteArray.size_append, ByteArray.size_append]; show _ + 1 + _ ≤ _; omega)) (by rw [app_data, app_data, ← HE1.out]; exact J3.out)).mono ?_
      rintro e w' ⟨rfl, rfl⟩
      go_wp2_with fail
      refine (NameLen_is _ _ b.size _ (small_len (by rw [ByteArray.size_append]; show 1 + _ ≤ _; omega)) (by rw [app_data, ← HE2.out]; exact J4.out)).mono ?_
      rintro e w' ⟨rfl, rfl⟩
      go_wp2_with fail
      refine (Name_is _ false _ (small_len (by omega)) HO1.out).mono ?_
      rintro e w' ⟨rfl, rfl⟩
      go_wp2_with fail
      refine (Name_is _ false _ (small_len (by rw [ByteArray.size_append]; show 1 + _ ≤ _; omega)) HO2.out).mono ?_
      rintro e w' ⟨rfl, rfl⟩
      go_wp2_with fail
      refine (Name_is _ false _ (small_len (by decide)) (by decide)).mono ?_
      rintro e w' ⟨rfl, rfl⟩
      have HB1 := Lib.hid ((Below.refl w.heap.size w).alloc (Nat.le_refl _) (.cells #[.int .u8 (C.toNat : Int)] 5))
      go_wp2_with fail
      refine (awake_any _ (HT.out.below HB1.out)).mono ?_
      rintro e w5 ⟨rfl, hb5⟩
      have HB5 := Lib.hid (HB1.out.trans (hb5.mono HB1.out.size)); clear hb5
      go_wp2
      go_ret
      exact ⟨rfl, HB5.out⟩

theorem TextNames_walk (a b : ByteArray) (c : Int) (w : World) (hs : a.size ≤ maxLen) (hs' : b.size ≤ maxLen) (h0 : 0 ≤ c) (h1 : c ≤ 255) (ht : TabOk w) :
    Calls Tryd.prog 6 #[.string a, .string b, .int .u8 c] w (Gives w (.bool true)) := by
  by_cases hl : 100 < a.size ∨ 100 < b.size
  · exact TextNames_long a b c w hs hs' hl ht
  · obtain ⟨C, rfl⟩ : ∃ C : UInt8, c = (C.toNat : Int) := ⟨UInt8.ofNat c.toNat, by simp [UInt8.toNat_ofNat']; omega⟩
    rcases (show (C.toNat : Int) ≤ 47 ∨ (48 ≤ (C.toNat : Int) ∧ (C.toNat : Int) ≤ 57) ∨ (58 ≤ (C.toNat : Int) ∧ (C.toNat : Int) ≤ 64) ∨ (65 ≤ (C.toNat : Int) ∧ (C.toNat : Int) ≤ 90) ∨ (91 ≤ (C.toNat : Int) ∧ (C.toNat : Int) ≤ 94) ∨ (95 ≤ (C.toNat : Int) ∧ (C.toNat : Int) ≤ 95) ∨ (96 ≤ (C.toNat : Int) ∧ (C.toNat : Int) ≤ 96) ∨ (97 ≤ (C.toNat : Int) ∧ (C.toNat : Int) ≤ 122) ∨ 123 ≤ (C.toNat : Int) by omega) with h | h | h | h | h | h | h | h | h
    · exact TextNames_0 a b C w (by omega) (by omega) h0 h ht
    · exact TextNames_1 a b C w (by omega) (by omega) h.1 h.2 ht
    · exact TextNames_2 a b C w (by omega) (by omega) h.1 h.2 ht
    · exact TextNames_3 a b C w (by omega) (by omega) h.1 h.2 ht
    · exact TextNames_4 a b C w (by omega) (by omega) h.1 h.2 ht
    · exact TextNames_5 a b C w (by omega) (by omega) h.1 h.2 ht
    · exact TextNames_6 a b C w (by omega) (by omega) h.1 h.2 ht
    · exact TextNames_7 a b C w (by omega) (by omega) h.1 h.2 ht
    · exact TextNames_8 a b C w (by omega) (by omega) h h1 ht
end Go.Proofs.YtfmmdhmoogjnhaaDoor
