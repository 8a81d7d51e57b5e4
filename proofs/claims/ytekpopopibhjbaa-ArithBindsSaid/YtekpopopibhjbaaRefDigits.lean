/-
  The contract of the document's Digits (conchref1): it returns the number's digits; the world is as it was.
-/
import Derived.Test.YtekpopopibhjbaaRefOne
namespace Go.Proofs.Ytekpopopibhjbaa
open Go.RowKit

theorem dec_big {u : Nat} (h : 9 < u) : Lib.decDigits u = Lib.decDigits (u / 10) ++ [UInt8.ofNat (48 + u % 10)] := by
  rw [Lib.decDigits, dif_neg (by omega)]
theorem dec_small {u : Nat} (h : ¬ 9 < u) : Lib.decDigits u = [UInt8.ofNat (48 + u)] := by
  rw [Lib.decDigits, dif_pos (by omega)]

/-- the ten digits, cut at one -/
theorem dig_slice (d : Nat) (h : d < 10) : ∃ D : ByteArray, D.data.toList = [UInt8.ofNat (48 + d)] ∧ ∀ W : World, (Instr.slice 9 (.string ⟨#[48, 49, 50, 51, 52, 53, 54, 55, 56, 57]⟩) (some (.int .u64 (d : Int))) (some (.int .u64 ((d : Int) + 1))) none).run Try.prog W = .ok (.string D) W := by
  rcases (show d = 0 ∨ d = 1 ∨ d = 2 ∨ d = 3 ∨ d = 4 ∨ d = 5 ∨ d = 6 ∨ d = 7 ∨ d = 8 ∨ d = 9 by omega) with rfl | rfl | rfl | rfl | rfl | rfl | rfl | rfl | rfl | rfl
  · exact ⟨⟨#[48]⟩, rfl, fun W => by kernel_rfl⟩
  · exact ⟨⟨#[49]⟩, rfl, fun W => by kernel_rfl⟩
  · exact ⟨⟨#[50]⟩, rfl, fun W => by kernel_rfl⟩
  · exact ⟨⟨#[51]⟩, rfl, fun W => by kernel_rfl⟩
  · exact ⟨⟨#[52]⟩, rfl, fun W => by kernel_rfl⟩
  · exact ⟨⟨#[53]⟩, rfl, fun W => by kernel_rfl⟩
  · exact ⟨⟨#[54]⟩, rfl, fun W => by kernel_rfl⟩
  · exact ⟨⟨#[55]⟩, rfl, fun W => by kernel_rfl⟩
  · exact ⟨⟨#[56]⟩, rfl, fun W => by kernel_rfl⟩
  · exact ⟨⟨#[57]⟩, rfl, fun W => by kernel_rfl⟩

theorem app_data (a b : ByteArray) : (a ++ b).data.toList = a.data.toList ++ b.data.toList := by
  rw [ByteArray.data_append, Array.toList_append]
theorem str_of {a : ByteArray} {l : List UInt8} (h : a.data.toList = l) : Value.string a = strV l := by
  rw [← h]; rfl

/-- the loop's two ways, for a number and what stands ahead of its digits -/
theorem dig_more {U u : Nat} {D acc : ByteArray} (h9 : 9 < u) (hD : D.data.toList = [UInt8.ofNat (48 + u % 10)]) (h : Lib.decDigits U = Lib.decDigits u ++ acc.data.toList) : Lib.decDigits U = Lib.decDigits (u / 10) ++ (D ++ acc).data.toList := by
  rw [h, dec_big h9, app_data, hD]; simp
theorem dig_last {U u : Nat} {D acc : ByteArray} (h9 : ¬ 9 < u) (hD : D.data.toList = [UInt8.ofNat (48 + u)]) (h : Lib.decDigits U = Lib.decDigits u ++ acc.data.toList) : (D ++ acc).data.toList = Lib.decDigits U := by
  rw [h, dec_small h9, app_data, hD]

set_option maxHeartbeats 1000000 in
theorem RDigits_pos (U : Nat) (h1 : U ≤ 9223372036854775807) (w : World) :
    Calls Try.prog 7 #[.int .i64 U] w fun e w' => e = .returned (strV (Lib.decDigits U)) ∧ w = w' := by
  have hn : ¬ (U : Int) < 0 := by omega
  have hn2 : decide ((U : Int) < 0) = false := decide_eq_false hn
  have HL := Lib.hid (dec_len U 19 (Nat.lt_of_le_of_lt h1 (by decide)))
  go_enter Try.func7, Try.ntmps7
  go_wp2
  go_loop [3, 4] (fun a b => ∃ (u : Nat) (acc : ByteArray), u ≤ U ∧ a = .int .u64 u ∧ b = .string acc ∧ Hid (Lib.decDigits U = Lib.decDigits u ++ acc.data.toList)) (fun a _ => (intOf a).toNat)
  case atStart => exact ⟨U, ByteArray.empty, Nat.le_refl _, rfl, rfl, Lib.hid (by simp)⟩
  case round =>
    obtain ⟨u, acc, hu, rfl, rfl, HR⟩ := hrel
    have hac : acc.size ≤ 20 := by
      have h2 := HL.out
      rw [HR.out, List.length_append] at h2
      have e1 : acc.data.toList.length = acc.size := by simp
      omega
    by_cases h9 : 9 < u
    · have hk0 : (0 : Int) ≤ (u : Int) % 10 := by omega
      have hk1 : (u : Int) % 10 < 10 := by omega
      obtain ⟨D, hD, hsl⟩ := dig_slice (u % 10) (by omega)
      rw [show ((u % 10 : Nat) : Int) = (u : Int) % 10 from by omega] at hsl
      have HD := Lib.hid (dig_more h9 hD HR.out)
      have hDs : D.size = 1 := by have := congrArg List.length hD; simpa using this
      have hDl : D.size ≤ 1 := by omega
      clear hD hDs
      go_wp2
      go_round
      case rel => exact ⟨u / 10, D ++ acc, by omega, by go_num, rfl, HD⟩
      case measure => simp [intOf]; omega
    · obtain ⟨D, hD, hsl⟩ := dig_slice u (by omega)
      have HD := Lib.hid (dig_last h9 hD HR.out)
      have hDs : D.size = 1 := by have := congrArg List.length hD; simpa using this
      have hDl : D.size ≤ 1 := by omega
      clear hD hDs
      go_wp2
      go_ret
      exact ⟨congrArg Ending.returned (str_of HD.out), rfl⟩

set_option maxHeartbeats 1000000 in
theorem RDigits_neg (U : Nat) (h0 : 0 < U) (h1 : U ≤ 9223372036854775808) (w : World) :
    Calls Try.prog 7 #[.int .i64 (-(U : Int))] w fun e w' => e = .returned (strV (45 :: Lib.decDigits U)) ∧ w = w' := by
  have hn : -(U : Int) < 0 := by omega
  have hn2 : decide (-(U : Int) < 0) = true := decide_eq_true hn
  have HL := Lib.hid (dec_len U 19 (Nat.lt_of_le_of_lt h1 (by decide)))
  obtain ⟨A, hA⟩ : ∃ A, IntKind.u64.wrap (-(U : Int)) = A := ⟨_, rfl⟩
  have hA2 : IntKind.u64.wrap (-A) = (U : Int) := by
    rw [← hA, IntKind.wrap_u64, IntKind.wrap_u64]; omega
  go_enter Try.func7, Try.ntmps7
  go_wp2
  go_loop [3, 4] (fun a b => ∃ (u : Nat) (acc : ByteArray), u ≤ U ∧ a = .int .u64 u ∧ b = .string acc ∧ Hid (Lib.decDigits U = Lib.decDigits u ++ acc.data.toList)) (fun a _ => (intOf a).toNat)
  case atStart => exact ⟨U, ByteArray.empty, Nat.le_refl _, rfl, rfl, Lib.hid (by simp)⟩
  case round =>
    obtain ⟨u, acc, hu, rfl, rfl, HR⟩ := hrel
    have hac : acc.size ≤ 20 := by
      have h2 := HL.out
      rw [HR.out, List.length_append] at h2
      have e1 : acc.data.toList.length = acc.size := by simp
      omega
    by_cases h9 : 9 < u
    · have hk0 : (0 : Int) ≤ (u : Int) % 10 := by omega
      have hk1 : (u : Int) % 10 < 10 := by omega
      obtain ⟨D, hD, hsl⟩ := dig_slice (u % 10) (by omega)
      rw [show ((u % 10 : Nat) : Int) = (u : Int) % 10 from by omega] at hsl
      have HD := Lib.hid (dig_more h9 hD HR.out)
      have hDs : D.size = 1 := by have := congrArg List.length hD; simpa using this
      have hDl : D.size ≤ 1 := by omega
      clear hD hDs
      go_wp2
      go_round
      case rel => exact ⟨u / 10, D ++ acc, by omega, by go_num, rfl, HD⟩
      case measure => simp [intOf]; omega
    · obtain ⟨D, hD, hsl⟩ := dig_slice u (by omega)
      have HD := Lib.hid (dig_last h9 hD HR.out)
      have hDs : D.size = 1 := by have := congrArg List.length hD; simpa using this
      have hDl : (D ++ acc).size ≤ 21 := by rw [ByteArray.size_append]; omega
      have hDl1 : D.size ≤ 1 := by omega
      clear hD hDs
      go_wp2
      go_ret
      refine ⟨congrArg Ending.returned (str_of ?_), rfl⟩
      rw [app_data, HD.out]; rfl

theorem RDigits_any (n : Int) (h0 : -9223372036854775808 ≤ n) (h1 : n ≤ 9223372036854775807) (w : World) :
    Calls Try.prog 7 #[.int .i64 n] w fun e w' => e = .returned (strV (Lib.itoa n)) ∧ w = w' := by
  by_cases hn : n < 0
  · obtain ⟨U, rfl⟩ : ∃ U : Nat, n = -(U : Int) := ⟨n.natAbs, by omega⟩
    have := RDigits_neg U (by omega) (by omega) w
    rw [Lib.itoa, if_pos hn, show (-(U : Int)).natAbs = U from by omega]
    exact this
  · obtain ⟨U, rfl⟩ := Int.eq_ofNat_of_zero_le (show 0 ≤ n by omega)
    have := RDigits_pos U (by omega) w
    rw [Lib.itoa, if_neg hn, Int.toNat_natCast]
    exact this
end Go.Proofs.Ytekpopopibhjbaa
