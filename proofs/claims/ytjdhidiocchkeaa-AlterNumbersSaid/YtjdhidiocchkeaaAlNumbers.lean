/-
  The walk of conchlaw5.AlterNumbers.
-/
import Derived.Test.YtjdhidiocchkeaaAlAwake
import Derived.Test.YtjdhidiocchkeaaShNone
import Derived.Test.YtjdhidiocchkeaaRefDigits
import Derived.Laws.BytesArg
namespace Go.Proofs.Ytjdhidiocchkeaa
open Go.RowKit

/-- one byte as a text -/
theorem conv_one (C : UInt8) : ∃ O : ByteArray, O.data.toList = [C] ∧ ∀ W : World, (convert 28 9 (.slice (some ⟨W.heap.size, 0, none⟩) 1 1)).run Try.prog (W.alloc (.cells #[.int .u8 (C.toNat : Int)] 5)) = .ok (.string O) (W.alloc (.cells #[.int .u8 (C.toNat : Int)] 5)) := by
  refine ⟨strOfNums [(C.toNat : Int)], by simp [strOfNums_data], fun W => ?_⟩
  refine run_convert_bytes_arg _ _ _ Try.underlying28 Try.underlying5 _ _ _ _ [(C.toNat : Int)] rfl ?_ _ Try.underlying9
  intro i hi
  obtain rfl : i = 0 := by have h1 : i < 1 := hi; omega
  simp

theorem dig_in (d : Nat) (h : d < 10) : UInt8.ofNat (48 + d) ∈ nums := by
  rcases (show d = 0 ∨ d = 1 ∨ d = 2 ∨ d = 3 ∨ d = 4 ∨ d = 5 ∨ d = 6 ∨ d = 7 ∨ d = 8 ∨ d = 9 by omega) with rfl | rfl | rfl | rfl | rfl | rfl | rfl | rfl | rfl | rfl <;> decide
theorem dec_in (u : Nat) : ∀ b ∈ Lib.decDigits u, b ∈ nums := by
  induction u using Nat.strongRecOn with
  | _ u ih =>
    intro b hb
    by_cases h : 9 < u
    · rw [dec_big h, List.mem_append, List.mem_singleton] at hb
      rcases hb with hb | rfl
      · exact ih _ (by omega) b hb
      · exact dig_in _ (by omega)
    · rw [dec_small h, List.mem_singleton] at hb
      subst hb
      exact dig_in _ (by omega)
theorem itoa_in (n : Int) : ∀ b ∈ Lib.itoa n, b ∈ nums := by
  intro b hb
  unfold Lib.itoa at hb
  split at hb
  · rcases List.mem_cons.1 hb with rfl | hb
    · decide
    · exact dec_in _ b hb
  · exact dec_in _ b hb
theorem itoa_ne (n : Int) : Lib.itoa n ≠ [] := by
  unfold Lib.itoa
  split
  · exact List.cons_ne_nil _ _
  · intro h
    have := dec_ne n.toNat
    rw [h] at this
    cases this
theorem num_ok : OkP numP := ofSh_ok _ _
theorem num_h (c : Nat) : numP.h c = true ↔ ∃ b ∈ nums, b.toNat = c := by
  show nz (ofS nums) c = true ↔ _
  rw [← ofS_iff]
  unfold nz
  constructor
  · intro h; simp only [Bool.and_eq_true] at h; exact h.1
  · intro h
    rw [h]
    obtain ⟨b, hb, rfl⟩ := (ofS_iff _ _).1 h
    have : b.toNat ≠ 0 := by
      simp only [nums, List.mem_cons, List.not_mem_nil, or_false] at hb
      rcases hb with h | h | h | h | h | h | h | h | h | h | h <;> subst h <;> decide
    simpa using this
theorem num_may (v : ByteArray) (n : Int) (hv : v.data.toList = Lib.itoa n) : mayB numP true v = true := by
  refine (may_iff num_ok v).2 ⟨fun h => (by cases h), fun h => ?_, fun c _ h => ?_⟩
  · rw [empB_list, hv] at h
    exact absurd h (itoa_ne n)
  · rw [hv] at h
    obtain ⟨b, hb, rfl⟩ := (ofS_iff _ _).1 h
    exact (num_h _).2 ⟨b, itoa_in n b hb, rfl⟩
theorem num_may_no : mayB numP true ⟨#[]⟩ = false := by
  unfold mayB numP ofSh
  rw [emp_nil]
  rfl
theorem num_split_no : splitB numP (litSh ⟨#[32, 9, 10]⟩) = false := by
  unfold splitB
  rw [sep_lit [9, 10] 32 (by decide)]
  refine (if_neg (show ¬ numP.e = true by decide)).trans ?_
  refine meet_not fun c _ h1 h2 => ?_
  obtain ⟨b, hb, rfl⟩ := (num_h _).1 h1
  obtain ⟨d, hd, he⟩ := (ofS_iff _ _).1 h2
  simp only [nums, List.mem_cons, List.not_mem_nil, or_false] at hb hd
  rcases hb with h | h | h | h | h | h | h | h | h | h | h <;> subst h <;> rcases hd with rfl | rfl | rfl <;> exact absurd he (by decide)
theorem num_split (O : ByteArray) (D : UInt8) (hO : O.data.toList = [D]) (hD : D ∈ nums) : splitB numP (litSh O) = true := by
  obtain rfl : O = ⟨#[D]⟩ := by
    obtain ⟨⟨l⟩⟩ := O
    simp only at hO
    subst hO
    rfl
  have h0 : D.toNat ≠ 0 := by
    simp only [nums, List.mem_cons, List.not_mem_nil, or_false] at hD
    rcases hD with h | h | h | h | h | h | h | h | h | h | h <;> subst h <;> decide
  have hk : keptB ⟨([D] : List UInt8).toArray⟩ = true := (kept_iff _).2 ⟨by show (1 : Nat) ≤ 64; decide, bfalse fun h => by
    obtain ⟨b, hb, he⟩ := (ofS_iff _ _).1 h
    obtain rfl : b = D := by simpa using hb
    exact h0 he⟩
  unfold splitB
  rw [sep_lit [] D hk]
  refine (if_neg (show ¬ numP.e = true by decide)).trans ?_
  exact (meet_iff _ _).2 ⟨D.toNat, D.toNat_lt, (num_h _).2 ⟨D, hD, rfl⟩, (ofS_iff _ _).2 ⟨D, by simp, rfl⟩⟩
theorem num_glob : globB numP = false := by
  unfold globB
  refine meet_not fun c _ h1 h2 => ?_
  obtain ⟨b, hb, rfl⟩ := (num_h _).1 h1
  obtain ⟨d, hd, he⟩ := (ofS_iff _ _).1 h2
  simp only [nums, signs, List.mem_cons, List.not_mem_nil, or_false] at hb hd
  rcases hb with h | h | h | h | h | h | h | h | h | h | h <;> subst h <;> rcases hd with rfl | rfl | rfl <;> exact absurd he (by decide)

set_option maxHeartbeats 8000000 in
set_option maxRecDepth 100000 in
theorem AlterNumbers_walk (n c : Int) (w : World) (n0 : -9223372036854775808 ≤ n) (n1 : n ≤ 9223372036854775807) (c0 : 0 ≤ c) (c1 : c ≤ 255) : Calls Try.prog 3 #[.int .i64 n, .int .u8 c] w (Gives w (.bool true)) := by
  obtain ⟨D, hDn, hDi⟩ : ∃ D : UInt8, D ∈ nums ∧ (48 : Int) + c % 10 = (D.toNat : Int) := ⟨UInt8.ofNat (48 + (c % 10).toNat), dig_in _ (by omega), by
    rw [UInt8.toNat_ofNat']
    omega⟩
  obtain ⟨O, hO, hcv⟩ := conv_one D
  obtain ⟨V, hV⟩ : ∃ V : ByteArray, V.data.toList = Lib.itoa n := ⟨⟨(Lib.itoa n).toArray⟩, rfl⟩
  have hsz : V.size ≤ 30 := by
    have := itoa_len n n0 n1
    rw [← hV] at this
    simpa using this
  have hOsz : O.size ≤ 1048576 := by
    have : O.size = O.data.toList.length := by simp
    rw [this, hO]; show (1 : Nat) ≤ 1048576; decide
  have HW := Lib.hid awake5_is
  have HN := Lib.hid Number_is
  have hD := RDigits_any n n0 n1
  rw [show strV (Lib.itoa n) = .string V from by rw [← hV]; rfl] at hD
  have HD := Lib.hid hD
  have h1 := May_is numP true V (by omega)
  have h2 := May_is numP true ⟨#[]⟩ (by decide)
  have h3 := May_is numP false ⟨#[]⟩ (by decide)
  have HL1 := Lib.hid (refLit_is ⟨#[32, 9, 10]⟩ (by decide))
  have HL2 := Lib.hid (refLit_is O hOsz)
  have h4 := MaySplit_is numP (litSh ⟨#[32, 9, 10]⟩) (Nat.le_trans (kept_len (by decide)) (by decide))
  have h5 := MaySplit_is numP (litSh O) (ok_len (litSh_ok O))
  have h6 := MayGlob_is numP
  have h7 := MayUnset_is numP
  rw [num_may V n hV] at h1
  rw [num_may_no] at h2
  rw [show mayB numP false ⟨#[]⟩ = false from rfl] at h3
  rw [num_split_no] at h4
  rw [num_split O D hO hDn] at h5
  rw [num_glob] at h6
  rw [show numP.u = false from rfl] at h7
  have H1 := Lib.hid h1
  have H2 := Lib.hid h2
  have H3 := Lib.hid h3
  have H4 := Lib.hid h4
  have H5 := Lib.hid h5
  have H6 := Lib.hid h6
  have H7 := Lib.hid h7
  clear h1 h2 h3 h4 h5 h6 h7 hD hV hO hsz hOsz
  generalize litSh ⟨#[32, 9, 10]⟩ = x1 at *
  generalize litSh O = x2 at *
  generalize numP = x at *
  simp only [shV] at HN H1 H2 H3 HL1 HL2 H4 H5 H6 H7
  go_enter Try.func3, Try.ntmps3
  go_wp2_with fail
  refine (HN.out _).mono ?_
  rintro e w1 ⟨rfl, hb1⟩
  have hX := ShAt.new w1 x
  have hbW := bel_alloc hb1 (.cells #[.bool x.u, .bool x.e, .int .u64 (wd x.h 0 : Nat), .int .u64 (wd x.h 1 : Nat), .int .u64 (wd x.h 2 : Nat), .int .u64 (wd x.h 3 : Nat), .bool x.k, .string x.l] 26)
  have hcv2 := hcv (w1.alloc (.cells #[.bool x.u, .bool x.e, .int .u64 (wd x.h 0 : Nat), .int .u64 (wd x.h 1 : Nat), .int .u64 (wd x.h 2 : Nat), .int .u64 (wd x.h 3 : Nat), .bool x.k, .string x.l] 26))
  rw [World.size_alloc] at hcv2
  clear hcv
  go_wp2
  clear hcv2
  have hX2 := hX.alloc (.cells #[.int .u8 (D.toNat : Int)] 5)
  have hbW2 := bel_alloc hbW (.cells #[.int .u8 (D.toNat : Int)] 5)
  obtain ⟨L0, L1, L2, L3, L4, L5, L6, L7⟩ := hX2.laters
  refine region_later (by kernel_rfl) (by kernel_rfl) ?_
  repeat (go_big_quiet_step (fail))
  go_big_quiet_step (exact later_same (HD.out _))
  repeat (go_big_quiet_step (fail))
  go_big_quiet_step (exact later (H1.out _))
  repeat (go_big_quiet_step (fail))
  go_big_quiet_step (exact later (H2.out _))
  repeat (go_big_quiet_step (fail))
  go_big_quiet_step (exact later (H3.out _))
  repeat (go_big_quiet_step (fail))
  go_big_quiet_step (exact later (HL1.out _))
  repeat (go_big_quiet_step (fail))
  go_big_quiet_step (exact later (H4.out _))
  repeat (go_big_quiet_step (fail))
  go_big_quiet_step (exact later (HL2.out _))
  repeat (go_big_quiet_step (fail))
  go_big_quiet_step (exact later (H5.out _))
  repeat (go_big_quiet_step (fail))
  go_big_quiet_step (exact later (H6.out _))
  repeat (go_big_quiet_step (fail))
  go_big_quiet_step (exact later (H7.out _))
  repeat (go_big_quiet_step (fail))
  go_big_quiet_step (exact later (HW.out _))
  repeat (go_big_quiet_step (fail))
  refine wpQuiet_nil ?_
  rintro _ ⟨y, rfl⟩
  go_wp2
  go_ret
  exact ⟨rfl, bel_step hbW2 y.below⟩
end Go.Proofs.Ytjdhidiocchkeaa
