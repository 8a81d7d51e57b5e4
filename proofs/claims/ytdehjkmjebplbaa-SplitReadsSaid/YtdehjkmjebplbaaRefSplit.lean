/-
  For seats without shapes: contracts of the document's in, Fields and Whole (conchref1): whether a byte is in a text; the fields of a text; whether a text is one field, itself.
-/
import Derived.Test.YtdehjkmjebplbaaFieldsPlain
import Derived.Test.YtdehjkmjebplbaaSame
import Derived.Test.YtdehjkmjebplbaaBase
namespace Go.Proofs.Ytdehjkmjebplbaa
open Go.RowKit

theorem ofS_take_all (s : ByteArray) : s.data.toList.take s.size = s.data.toList := List.take_of_length_le (by simp)
theorem ofS_prefix (l : List UInt8) (k c : Nat) (h : ofS (l.take k) c = true) : ofS l c = true := by
  rw [ofS_iff] at h ⊢
  obtain ⟨b, hb, hc⟩ := h
  exact ⟨b, List.mem_of_mem_take hb, hc⟩
theorem byte_snoc (s : ByteArray) (k : Nat) (h : k < s.size) : s.data.toList.take (k + 1) = s.data.toList.take k ++ [s[k]] := by
  rw [List.take_add_one, List.getElem?_eq_getElem (by simpa using h)]
  rfl
theorem eqB_iff (s t : ByteArray) : (s.toList == t.toList) = true ↔ s = t := by
  rw [ByteArray.toList_eq, ByteArray.toList_eq, beq_iff_eq]
  obtain ⟨⟨a⟩⟩ := s
  obtain ⟨⟨b⟩⟩ := t
  simp

set_option maxHeartbeats 1000000 in
set_option maxRecDepth 100000 in
theorem refInAny_is (s : ByteArray) (hs : s.size ≤ 1048576) (c : Nat) (w : World) :
    Calls Try.prog 22 #[.string s, .int .u8 (c : Int)] w fun e w' => e = .returned (.bool (ofS s.data.toList c)) ∧ w = w' := by
  go_enter Try.func22, Try.ntmps22
  go_wp2
  go_loop [5] (fun i => ∃ k : Nat, k ≤ s.size ∧ i = .int .i64 k ∧ Hid (ofS (s.data.toList.take k) c = false)) (fun i => s.size - (intOf i).toNat)
  case atStart => exact ⟨0, Nat.zero_le _, rfl, Lib.hid (by simp [ofS])⟩
  case round =>
    obtain ⟨k, hks, rfl, HP⟩ := hrel
    by_cases hk : k < s.size
    · have hi0 : (0 : Int) ≤ (k : Int) := by omega
      have hi1 : (k : Int) < (s.size : Int) := by omega
      have HS : Hid (ofS (s.data.toList.take (k + 1)) c = decide (c = s[k].toNat)) := Lib.hid (by rw [byte_snoc s k hk, ofS_snoc]; unfold putS; rw [HP.out, Bool.false_or])
      by_cases hz : s[k].toNat = c
      · have HT : Hid (ofS s.data.toList c = true) := Lib.hid (ofS_prefix _ (k + 1) c (by rw [HS.out]; exact decide_eq_true hz.symm))
        have hz2 : ((s[k].toNat : Int) == (c : Int)) = true := by rw [hz]; simp
        clear hz HS
        go_wp2
        go_ret
        exact ⟨by rw [HT.out]; rfl, rfl⟩
      · have HZ := Lib.hid hz
        have hz2 : ((s[k].toNat : Int) == (c : Int)) = false := by rw [beq_eq_false_iff_ne]; omega
        clear hz
        go_wp2
        go_round
        case rel => exact ⟨k + 1, by omega, rfl, Lib.hid (by rw [HS.out]; exact decide_eq_false (Ne.symm HZ.out))⟩
        case measure => simp [intOf]; omega
    · have hk2 : k = s.size := by omega
      have HT : Hid (ofS s.data.toList c = false) := Lib.hid (by rw [← ofS_take_all s, ← hk2]; exact HP.out)
      go_wp2
      go_ret
      exact ⟨by rw [HT.out]; rfl, rfl⟩

set_option maxHeartbeats 2000000 in
set_option maxRecDepth 100000 in
theorem refFields_is (s t : ByteArray) (hs : s.size ≤ 1048576) (ht : t.size ≤ 1048576) (w : World) :
    Calls Try.prog 12 #[.string s, .string t] w (LinesLeft w (fieldsOf s.data.toList t.data.toList)) := by
  obtain ⟨i0, hi, hz0, hz1, hz2⟩ := info_parts info_str
  go_enter Try.func12, Try.ntmps12
  go_wp2
  go_loopw [5, 6, 7] (fun v b i wr => ∃ (k bn : Nat) (L : List (List UInt8)), bn ≤ k ∧ k ≤ s.size + 1 ∧ L.length ≤ k ∧ i = .int .i64 k ∧ b = .int .i64 bn ∧
      wr.ownsRow w.heap.size 9 1 v L.length (L.map strV) ∧ Below w.heap.size w wr ∧
      Hid ((k ≤ s.size → fieldsOf s.data.toList t.data.toList = L ++ fgo (ofS t.data.toList) (s.data.toList.drop k) ((s.data.toList.drop bn).take (k - bn))) ∧ (k = s.size + 1 → fieldsOf s.data.toList t.data.toList = L))) (fun _ _ i _ => s.size + 1 - (intOf i).toNat)
  case atStart => exact ⟨0, 0, [], Nat.le_refl _, Nat.zero_le _, Nat.le_refl _, rfl, rfl, World.ownsRow_nil _ _ _ _, Below.refl _ _, Lib.hid ⟨fun _ => by simp [fieldsOf], fun h => by omega⟩⟩
  case round =>
    obtain ⟨k, bn, L, hbk, hk, hL, rfl, rfl, hown, hbx, HR⟩ := hrel
    by_cases hle : k ≤ s.size
    · by_cases hlt : k < s.size
      · have HD := Lib.hid (drop_cons s k hlt)
        have hc1 := s[k].toNat_lt
        have HI := Lib.hid (refInAny_is t ht s[k].toNat)
        cases hf : ofS t.data.toList s[k].toNat with
        | false =>
          rw [hf] at HI
          have HF := Lib.hid hf
          clear hf
          have HT := Lib.hid (take_more s bn k hbk hlt)
          go_wp2_with fail
          refine (HI.out _).mono ?_
          rintro e w1 ⟨rfl, rfl⟩
          go_wp2
          go_roundw
          case rel => exact ⟨k + 1, bn, L, by omega, by omega, by omega, by go_num, rfl, hown, hbx, Lib.hid ⟨fun _ => by rw [HR.out.1 hle, HD.out, fgo_other HF.out, HT.out], fun h => by omega⟩⟩
          case measure => simp [intOf]; omega
        | true =>
          rw [hf] at HI
          have HF := Lib.hid hf
          clear hf
          by_cases hb : bn < k
          · have HE : Hid (((s.data.toList.drop bn).take (k - bn)).isEmpty = false) := Lib.hid (by simp; omega)
            go_wp2_with fail
            refine (HI.out _).mono ?_
            rintro e w1 ⟨rfl, rfl⟩
            go_wp2_with (at_builtin; refine wpList_append_own _ rfl _ _ 26 rfl w.heap.size 9 i0 (.string ByteArray.empty) 1 16 Try.underlying26 hi hz0 hz1 hz2 rfl (by decide) _ _ _ rfl (hown.alloc _) ⟨wr.heap.size, 0, none⟩ 1 1 [.string (s.extract bn k)] rfl rfl ?c1 ?c2 ?c3 ?c4 ?c5 ?_)
            case c1 =>
              intro j u hj
              match j, hj with
              | 0, hj => simp at hj; subst hj; simp [Addr.add]
            case c2 => intro u hu; simp at hu; subst hu; rfl
            case c3 => unfold maxLen; omega
            case c4 => omega
            case c5 => have := hbx.size; simp; omega
            intro v' w1 hown' hgrow _
            rw [extract_bytes] at hown'
            have R := rel_line (x := (s.data.toList.drop bn).take (k - bn)) hbx hown hown' hgrow
            clear hown' hgrow hown hbx
            go_wp2
            go_roundw
            case rel => exact ⟨k + 1, k + 1, L ++ [(s.data.toList.drop bn).take (k - bn)], Nat.le_refl _, by omega, by simp; omega, by go_num, by go_num, R.1, R.2, Lib.hid ⟨fun _ => by rw [HR.out.1 hle, HD.out, fgo_part HF.out HE.out]; simp, fun h => by omega⟩⟩
            case measure => simp [intOf]; omega
          · have HE : Hid (((s.data.toList.drop bn).take (k - bn)).isEmpty = true) := Lib.hid (by rw [show k - bn = 0 by omega]; simp)
            go_wp2_with fail
            refine (HI.out _).mono ?_
            rintro e w1 ⟨rfl, rfl⟩
            go_wp2
            go_roundw
            case rel => exact ⟨k + 1, k + 1, L, Nat.le_refl _, by omega, by omega, by go_num, by go_num, hown, hbx, Lib.hid ⟨fun _ => by rw [HR.out.1 hle, HD.out, fgo_skip HF.out HE.out]; simp, fun h => by omega⟩⟩
            case measure => simp [intOf]; omega
      · have HD : Hid (s.data.toList.drop k = []) := Lib.hid (List.drop_of_length_le (by simp; omega))
        by_cases hb : bn < k
        · have HE : Hid (((s.data.toList.drop bn).take (k - bn)).isEmpty = false) := Lib.hid (by simp; omega)
          go_wp2_with (at_builtin; refine wpList_append_own _ rfl _ _ 26 rfl w.heap.size 9 i0 (.string ByteArray.empty) 1 16 Try.underlying26 hi hz0 hz1 hz2 rfl (by decide) _ _ _ rfl (hown.alloc _) ⟨wr.heap.size, 0, none⟩ 1 1 [.string (s.extract bn k)] rfl rfl ?d1 ?d2 ?d3 ?d4 ?d5 ?_)
          case d1 =>
            intro j u hj
            match j, hj with
            | 0, hj => simp at hj; subst hj; simp [Addr.add]
          case d2 => intro u hu; simp at hu; subst hu; rfl
          case d3 => unfold maxLen; omega
          case d4 => omega
          case d5 => have := hbx.size; simp; omega
          intro v' w1 hown' hgrow _
          rw [extract_bytes] at hown'
          have R := rel_line (x := (s.data.toList.drop bn).take (k - bn)) hbx hown hown' hgrow
          clear hown' hgrow hown hbx
          go_wp2
          go_roundw
          case rel => exact ⟨k + 1, k + 1, L ++ [(s.data.toList.drop bn).take (k - bn)], Nat.le_refl _, by omega, by simp; omega, by go_num, by go_num, R.1, R.2, Lib.hid ⟨fun h => by omega, fun _ => by rw [HR.out.1 hle, HD.out]; simp only [fgo, HE.out]; rfl⟩⟩
          case measure => simp [intOf]; omega
        · have HE : Hid (((s.data.toList.drop bn).take (k - bn)).isEmpty = true) := Lib.hid (by rw [show k - bn = 0 by omega]; simp)
          go_wp2
          go_roundw
          case rel => exact ⟨k + 1, k + 1, L, Nat.le_refl _, by omega, by omega, by go_num, by go_num, hown, hbx, Lib.hid ⟨fun h => by omega, fun _ => by rw [HR.out.1 hle, HD.out]; simp only [fgo, HE.out, if_true, List.append_nil]⟩⟩
          case measure => simp [intOf]; omega
    · have hks : k = s.size + 1 := by omega
      have HL : Hid (fieldsOf s.data.toList t.data.toList = L) := Lib.hid (HR.out.2 hks)
      go_wp2
      go_ret
      exact ⟨_, rfl, by rw [HL.out]; exact hown, hbx⟩

theorem strV_same (x : List UInt8) (s : ByteArray) : ((⟨x.toArray⟩ : ByteArray).toList == s.toList) = decide ([x] = [s.data.toList]) := by
  rw [Bool.eq_iff_iff, decide_eq_true_iff]
  constructor
  · intro h
    have h1 := (eqB_iff ⟨x.toArray⟩ s).1 h
    rw [← h1]
  · intro h
    have h1 : x = s.data.toList := by simpa using h
    refine (eqB_iff ⟨x.toArray⟩ s).2 ?_
    rw [h1]

set_option maxHeartbeats 2000000 in
set_option maxRecDepth 100000 in
theorem refWhole_is (s t : ByteArray) (hs : s.size ≤ 1048576) (ht : t.size ≤ 1048576) (w : World) :
    Calls Try.prog 14 #[.string s, .string t] w (Gives w (.bool (wholeB s.data.toList t.data.toList))) := by
  have HF := Lib.hid (refFields_is s t hs ht)
  unfold wholeB
  generalize fieldsOf s.data.toList t.data.toList = xs at *
  go_enter Try.func14, Try.ntmps14
  go_wp2_with fail
  refine (HF.out _).mono ?_
  rintro e w1 ⟨v, rfl, hown, hb⟩
  obtain ⟨ao, cap, rfl, hlen, hrow⟩ := StrRow.of_owns hown
  clear hown HF
  by_cases h1 : xs.length = 1
  · obtain ⟨x, rfl⟩ := List.length_eq_one_iff.1 h1
    obtain ⟨g, rfl, hc⟩ := hrow (by simp)
    have c0 := hc 0 x rfl
    unfold strV at c0
    have HQ := Lib.hid (strV_same x s)
    generalize (⟨x.toArray⟩ : ByteArray) = X at *
    clear hc hrow h1
    simp only [List.length_cons, List.length_nil]
    go_wp2
    go_ret
    exact ⟨by rw [HQ.out]; rfl, hb⟩
  · have HN : Hid (decide (xs = [s.data.toList]) = false) := Lib.hid (decide_eq_false fun h => h1 (by rw [h]; rfl))
    have h2 : ((xs.length : Int) == 1) = false := by rw [beq_eq_false_iff_ne]; omega
    clear h1 hrow
    go_wp2
    go_ret
    exact ⟨by rw [HN.out]; rfl, hb⟩
end Go.Proofs.Ytdehjkmjebplbaa
