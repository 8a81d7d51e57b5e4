/-
  The contract of the document's Trim (conchref1).
-/
import Derived.Test.YtdehjkmjebplbaaRefSplit
import Derived.Test.YtdehjkmjebplbaaSplitPlain
namespace Go.Proofs.Ytdehjkmjebplbaa
open Go.RowKit

def strLen : Value → Nat | .string u => u.size | _ => 0
theorem emp_of_size {u : ByteArray} (h : u.size = 0) : u = ⟨#[]⟩ := by
  obtain ⟨⟨l⟩⟩ := u
  have : l = [] := List.eq_nil_of_length_eq_zero h
  rw [this]
theorem emp_false {u : ByteArray} (h : 0 < u.size) : u.toList.isEmpty = false := by
  rw [ByteArray.toList_eq]
  obtain ⟨⟨l⟩⟩ := u
  cases l with
  | nil => simp [ByteArray.size] at h
  | cons _ _ => rfl
theorem trimF_one {p : Nat → Bool} {u : ByteArray} (h : 0 < u.size) (hp : p u[0].toNat = true) : trimF p (u.extract 1 u.size).data.toList = trimF p u.data.toList := by
  have h0 := drop_cons u 0 h
  rw [List.drop_zero] at h0
  rw [extract_bytes]
  conv => rhs; rw [h0]
  show trimF p ((u.data.toList.drop 1).take (u.size - 1)) = _
  rw [List.take_of_length_le (by simp)]
  unfold trimF
  rw [List.dropWhile_cons, show inP p u[0] = true from hp]
  rfl
theorem trimF_stop {p : Nat → Bool} {u : ByteArray} (h : 0 < u.size) (hp : p u[0].toNat = false) : trimF p u.data.toList = u.data.toList := by
  have h0 := drop_cons u 0 h
  rw [List.drop_zero] at h0
  rw [h0]
  exact trimF_id (fun c hc => by injection hc with hc; rw [← hc]; exact hp)
theorem last_snocB {u : ByteArray} {k : Nat} (h : u.size = k + 1) (hk : k < u.size) : u.data.toList = (u.extract 0 k).data.toList ++ [u[k]] := by
  rw [extract_bytes]
  show _ = (u.data.toList.drop 0).take (k - 0) ++ [u[k]]
  rw [List.drop_zero, Nat.sub_zero, ← byte_snoc u k hk, List.take_of_length_le (by simp; omega)]
theorem trimE_one {p : Nat → Bool} {u : ByteArray} {k : Nat} (h : u.size = k + 1) (hk : k < u.size) (hp : p u[k].toNat = true) : trimE p (u.extract 0 k).data.toList = trimE p u.data.toList := by
  conv => rhs; rw [last_snocB h hk]
  rw [trimE_app _ [u[k]] (fun b hb => by rw [List.mem_singleton.1 hb]; exact hp)]
theorem trimE_stop {p : Nat → Bool} {u : ByteArray} {k : Nat} (h : u.size = k + 1) (hk : k < u.size) (hp : p u[k].toNat = false) : trimE p u.data.toList = u.data.toList := by
  rw [last_snocB h hk]
  exact trimE_id (fun c hc => by rw [List.getLast?_concat] at hc; injection hc with hc; rw [← hc]; exact hp)

set_option maxHeartbeats 4000000 in
set_option maxRecDepth 100000 in
theorem refTrim_is (s t : ByteArray) (hs : s.size ≤ 1048576) (ht : t.size ≤ 1048576) (w : World) :
    Calls Try.prog 15 #[.string s, .string t] w fun e w' => e = .returned (.string ⟨(trimP (ofS t.data.toList) s.data.toList).toArray⟩) ∧ w = w' := by
  have HI := fun c => Lib.hid (refInAny_is t ht c)
  obtain ⟨R, hR⟩ : ∃ R, trimP (ofS t.data.toList) s.data.toList = R := ⟨_, rfl⟩
  rw [hR]
  have HR := Lib.hid hR
  clear hR
  go_enter Try.func15, Try.ntmps15
  go_wp2
  go_loop [0] (fun x => ∃ u : ByteArray, u.size ≤ s.size ∧ x = .string u ∧ Hid (trimF (ofS t.data.toList) u.data.toList = trimF (ofS t.data.toList) s.data.toList)) strLen
  case atStart => exact ⟨s, Nat.le_refl _, rfl, Lib.hid rfl⟩
  case round =>
    obtain ⟨u, hu, rfl, HU⟩ := hrel
    by_cases hz : u.size = 0
    · have he := emp_of_size hz
      subst he
      have HF : Hid (trimE (ofS t.data.toList) (⟨#[]⟩ : ByteArray).data.toList = R) := Lib.hid (by rw [← HR.out]; unfold trimP; rw [← HU.out]; rfl)
      clear HU hz HR
      go_wp2
      go_loop [0] (fun x => ∃ u : ByteArray, u.size ≤ s.size ∧ x = .string u ∧ Hid (trimE (ofS t.data.toList) u.data.toList = R)) strLen
      case atStart => exact ⟨⟨#[]⟩, hu, rfl, HF⟩
      case round =>
        clear HF hu
        obtain ⟨u2, hu2, rfl, HU2⟩ := hrel
        by_cases hz2 : u2.size = 0
        · have he2 := emp_of_size hz2
          subst he2
          have HE : Hid (R = []) := Lib.hid (by rw [← HU2.out]; rfl)
          clear HU2 hz2 hu2
          go_wp2
          go_ret
          exact ⟨congrArg (fun x => Ending.returned (.string ⟨List.toArray x⟩)) HE.out.symm, rfl⟩
        · have hp2 : 0 < u2.size := by omega
          have he2 := emp_false hp2
          obtain ⟨k, hk⟩ : ∃ k, u2.size = k + 1 := ⟨u2.size - 1, by omega⟩
          have hkl : k < u2.size := by omega
          have EK : (u2.size : Int) - 1 = (k : Int) := by omega
          have hk0 : (0 : Int) ≤ (k : Int) := by omega
          have hk1 : (k : Int) < (u2.size : Int) := by omega
          have hk2 : (k : Int) ≤ (u2.size : Int) := by omega
          have HI2 := HI u2[k].toNat
          have H1 : Hid (ofS t.data.toList u2[k].toNat = true → trimE (ofS t.data.toList) (u2.extract 0 k).data.toList = R) := Lib.hid fun h => by rw [trimE_one hk hkl h]; exact HU2.out
          have H0 : Hid (ofS t.data.toList u2[k].toNat = false → (⟨R.toArray⟩ : ByteArray) = u2) := Lib.hid fun h => by rw [← HU2.out, trimE_stop hk hkl h]
          have HSz : Hid ((u2.extract 0 k).size < u2.size) := Lib.hid (by rw [extract_bytes]; show ((u2.data.toList.drop 0).take (k - 0)).toArray.size < _; simp; omega)
          have HK := Lib.hid hk
          clear HU2 hk hz2
          generalize ofS t.data.toList u2[k].toNat = z at *
          go_wp2_with fail
          refine (HI2.out _).mono ?_
          rintro ending w2 ⟨rfl, rfl⟩
          cases z with
          | false =>
            have HE := Lib.hid (H0.out rfl)
            clear H0 H1
            go_wp2
            go_ret
            exact ⟨congrArg (fun x => Ending.returned (.string x)) HE.out.symm, rfl⟩
          | true =>
            have HE := Lib.hid (H1.out rfl)
            clear H0 H1
            go_wp2
            go_round
            case rel => exact ⟨_, by have := HSz.out; omega, rfl, HE⟩
            case measure => exact HSz.out
    · have hp : 0 < u.size := by omega
      have he := emp_false hp
      have h00 : (0 : Int) < (u.size : Int) := by omega
      have h01 : (1 : Int) ≤ (u.size : Int) := by omega
      have HI1 := HI u[0].toNat
      have H1 : Hid (ofS t.data.toList u[0].toNat = true → trimF (ofS t.data.toList) (u.extract 1 u.size).data.toList = trimF (ofS t.data.toList) s.data.toList) := Lib.hid fun h => by rw [trimF_one hp h]; exact HU.out
      have H0 : Hid (ofS t.data.toList u[0].toNat = false → trimE (ofS t.data.toList) u.data.toList = R) := Lib.hid fun h => by rw [← HR.out]; unfold trimP; rw [← HU.out, trimF_stop hp h]
      have HSz : Hid ((u.extract 1 u.size).size < u.size) := Lib.hid (by rw [extract_bytes]; show ((u.data.toList.drop 1).take (u.size - 1)).toArray.size < _; simp; omega)
      clear HU hz HR
      generalize ofS t.data.toList u[0].toNat = z at *
      go_wp2_with fail
      refine (HI1.out _).mono ?_
      rintro ending w2 ⟨rfl, rfl⟩
      cases z with
      | true =>
        have HE := Lib.hid (H1.out rfl)
        clear H0 H1
        go_wp2
        go_round
        case rel => exact ⟨_, by have := HSz.out; omega, rfl, HE⟩
        case measure => exact HSz.out
      | false =>
        have HF := Lib.hid (H0.out rfl)
        clear H0 H1 HSz he h01 HI1
        go_wp2
        go_loop [0] (fun x => ∃ u : ByteArray, u.size ≤ s.size ∧ x = .string u ∧ Hid (trimE (ofS t.data.toList) u.data.toList = R)) strLen
        case atStart => exact ⟨u, hu, rfl, HF⟩
        case round =>
          clear HF hu
          obtain ⟨u2, hu2, rfl, HU2⟩ := hrel
          by_cases hz2 : u2.size = 0
          · have he2 := emp_of_size hz2
            subst he2
            have HE : Hid (R = []) := Lib.hid (by rw [← HU2.out]; rfl)
            clear HU2 hz2 hu2
            go_wp2
            go_ret
            exact ⟨congrArg (fun x => Ending.returned (.string ⟨List.toArray x⟩)) HE.out.symm, rfl⟩
          · have hp2 : 0 < u2.size := by omega
            have he2 := emp_false hp2
            obtain ⟨k, hk⟩ : ∃ k, u2.size = k + 1 := ⟨u2.size - 1, by omega⟩
            have hkl : k < u2.size := by omega
            have EK : (u2.size : Int) - 1 = (k : Int) := by omega
            have hk0 : (0 : Int) ≤ (k : Int) := by omega
            have hk1 : (k : Int) < (u2.size : Int) := by omega
            have hk2 : (k : Int) ≤ (u2.size : Int) := by omega
            have HI2 := HI u2[k].toNat
            have H1 : Hid (ofS t.data.toList u2[k].toNat = true → trimE (ofS t.data.toList) (u2.extract 0 k).data.toList = R) := Lib.hid fun h => by rw [trimE_one hk hkl h]; exact HU2.out
            have H0 : Hid (ofS t.data.toList u2[k].toNat = false → (⟨R.toArray⟩ : ByteArray) = u2) := Lib.hid fun h => by rw [← HU2.out, trimE_stop hk hkl h]
            have HSz : Hid ((u2.extract 0 k).size < u2.size) := Lib.hid (by rw [extract_bytes]; show ((u2.data.toList.drop 0).take (k - 0)).toArray.size < _; simp; omega)
            have HK := Lib.hid hk
            clear HU2 hk hz2
            generalize ofS t.data.toList u2[k].toNat = z at *
            go_wp2_with fail
            refine (HI2.out _).mono ?_
            rintro ending w2 ⟨rfl, rfl⟩
            cases z with
            | false =>
              have HE := Lib.hid (H0.out rfl)
              clear H0 H1
              go_wp2
              go_ret
              exact ⟨congrArg (fun x => Ending.returned (.string x)) HE.out.symm, rfl⟩
            | true =>
              have HE := Lib.hid (H1.out rfl)
              clear H0 H1
              go_wp2
              go_round
              case rel => exact ⟨_, by have := HSz.out; omega, rfl, HE⟩
              case measure => exact HSz.out
end Go.Proofs.Ytdehjkmjebplbaa
