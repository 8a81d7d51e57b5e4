/-
  conchlaw9.LexWords returns true, over package lex's contracts.
-/
import Derived.Test.YtgdaipgmlibpiaaLxFace
import Derived.Laws.BytesArg
namespace Go.Proofs.Ytgdaipgmlibpiaa
open Go.RowKit

theorem two_conv (c : Nat) : ∃ O : ByteArray, O.data.toList = [UInt8.ofNat c, 120] ∧ ∀ W : World, (convert 26 9 (.slice (some ⟨W.heap.size, 0, none⟩) 2 2)).run Try.prog (W.alloc (.cells #[.int .u8 (c : Int), .int .u8 120] 5)) = .ok (.string O) (W.alloc (.cells #[.int .u8 (c : Int), .int .u8 120] 5)) := by
  refine ⟨strOfNums [(c : Int), 120], by simp [strOfNums_data], fun W => ?_⟩
  refine run_convert_bytes_arg _ _ _ Try.underlying26 Try.underlying5 _ _ _ _ [(c : Int), 120] rfl ?_ _ Try.underlying9
  intro i hi
  have h1 : i < 2 := hi
  rcases (show i = 0 ∨ i = 1 by omega) with rfl | rfl
  · simp
  · simp
theorem ends_all : ((List.range 256).all fun c => endB c == ((opP [UInt8.ofNat c, 120] 0).isSome || (c == 32) || (c == 9))) = true := by kernel_rfl
theorem ends_of {c : Nat} (hc : c < 256) : endB c = ((opP [UInt8.ofNat c, 120] 0).isSome || (c == 32) || (c == 9)) := by
  have := (List.all_eq_true.1 ends_all) c (List.mem_range.2 hc)
  simpa using this
theorem words_res : (words.all fun x => resB x && !resB (x ++ [120])) = true := by kernel_rfl
theorem words_at {k : Nat} {x : List UInt8} (h : words[k]? = some x) : resB x = true ∧ resB (x ++ [120]) = false := by
  have := (List.all_eq_true.1 words_res) x (List.mem_of_getElem? h)
  simpa using this
theorem words_size {k : Nat} {x : List UInt8} (h : words[k]? = some x) : x.length ≤ 5 := by
  have key : (words.all fun x => decide (x.length ≤ 5)) = true := by kernel_rfl
  simpa using (List.all_eq_true.1 key) x (List.mem_of_getElem? h)
def wordsV : Array Value := (words.map strV).toArray
theorem wordsV_at {k : Nat} {x : List UInt8} (h : words[k]? = some x) : wordsV[k]? = some (strV x) := by
  unfold wordsV
  rw [List.getElem?_toArray, List.getElem?_map, h]
  rfl
theorem take_has {l x : List UInt8} {k : Nat} (h : words[k]? = some x) : (words.take (k + 1)).contains l = ((words.take k).contains l || (l == x)) := by
  rw [List.take_add_one, h]
  simp
  rw [show (l == x) = decide (l = x) from by by_cases hx : l = x <;> simp [hx], Bool.or_comm]

set_option maxHeartbeats 16000000 in
set_option maxRecDepth 100000 in
theorem LexWords_walk (F : LexFace) (c : Nat) (hc : c < 256) (s : ByteArray) (hs : s.size ≤ maxLen) (w : World) :
    Calls Try.prog 3 #[.int .u8 (c : Int), .string s] w (Gives w (.bool true)) := by
  have FA := Lib.hid (fun w => awake9_is F w)
  have HRs := Lib.hid (fun w => F.reserved s hs w)
  have HEn := Lib.hid (fun w => F.ends c hc w)
  have HF := Lib.hid F
  obtain ⟨O, hO, hconv⟩ := two_conv c
  have hOs : O.size = 2 := by
    have : O.data.toList.length = 2 := by rw [hO]; rfl
    simpa using this
  have HOp := Lib.hid (fun w => F.op O 0 (by omega) (by decide) (by decide) w)
  have HEo := ends_of hc
  rw [hO] at HOp
  obtain ⟨ov, hov⟩ : ∃ ov, opP [UInt8.ofNat c, 120] 0 = ov := ⟨_, rfl⟩
  rw [hov] at HOp HEo
  obtain ⟨U, hU⟩ : ∃ U : ByteArray, strV (ov.getD []) = .string U := ⟨_, rfl⟩
  obtain ⟨ok, hok⟩ : ∃ ok, ov.isSome = ok := ⟨_, rfl⟩
  simp only [lxV, hU, hok] at HOp HEo
  have HE2 := Lib.hid HEo
  clear hov hU hok hO hOs HEo
  have hb0 := bel_alloc (Below.refl _ w) (.cells wordsV 9)
  have hB0 := BlkAt.new w wordsV 9
  obtain ⟨w0, hw0⟩ : ∃ w0, w.alloc (.cells wordsV 9) = w0 := ⟨_, rfl⟩
  rw [hw0] at hb0 hB0
  have HW0 : Hid (w.alloc (.cells #[.string ⟨#[105, 102]⟩, .string ⟨#[116, 104, 101, 110]⟩, .string ⟨#[101, 108, 115, 101]⟩, .string ⟨#[101, 108, 105, 102]⟩, .string ⟨#[102, 105]⟩, .string ⟨#[119, 104, 105, 108, 101]⟩, .string ⟨#[117, 110, 116, 105, 108]⟩, .string ⟨#[100, 111]⟩, .string ⟨#[100, 111, 110, 101]⟩, .string ⟨#[102, 111, 114]⟩, .string ⟨#[99, 97, 115, 101]⟩, .string ⟨#[101, 115, 97, 99]⟩, .string ⟨#[105, 110]⟩, .string ⟨#[123]⟩, .string ⟨#[125]⟩, .string ⟨#[33]⟩] 9) = w0) := Lib.hid hw0
  obtain ⟨g, hg⟩ : ∃ g, w.heap.size = g := ⟨_, rfl⟩
  rw [hg] at hB0
  clear hw0
  have hcn0 : (0 : Int) ≤ (c : Int) := by omega
  have hcn1 : (c : Int) < 256 := by omega
  go_enter Try.func3, Try.ntmps3
  go_wp2
  rw [HW0.out]
  clear HW0
  generalize w.alloc (.cells wordsV 9) = w00 at *
  go_loopw [6, 7] (fun z i wr => ∃ k : Nat, k ≤ 16 ∧ z = .bool ((words.take k).contains s.data.toList) ∧ i = .int .i64 (k : Int) ∧ BlkAt wr g wordsV 9 ∧ Below w.heap.size w wr) (fun _ i _ => 16 - (intOf i).toNat)
  case atStart => exact ⟨0, by omega, rfl, rfl, hB0, hb0⟩
  case round =>
    clear hB0 hb0
    obtain ⟨k, hk, rfl, rfl, hB, hb⟩ := hrel
    by_cases hlt : k < 16
    · obtain ⟨x, hx⟩ : ∃ x, words[k]? = some x := ⟨words[k]'hlt, List.getElem?_eq_getElem _⟩
      obtain ⟨X, hX⟩ : ∃ X : ByteArray, (⟨x.toArray⟩ : ByteArray) = X := ⟨_, rfl⟩
      have hXd : X.data.toList = x := by rw [← hX]
      have hXs : X.size ≤ 5 := by
        have h1 := words_size hx
        have : X.data.toList.length ≤ 5 := by rw [hXd]; exact h1
        simpa using this
      have hcell : wordsV[k]? = some (.string X) := by rw [wordsV_at hx, strV, hX]
      have s120 : (⟨#[120]⟩ : ByteArray).size = 1 := rfl
      have R1 := Lib.hid (fun w => HF.out.res_at X (b := true) (by rw [hXd]; exact (words_at hx).1) (by unfold maxLen; omega) w)
      have R2 := Lib.hid (fun w => HF.out.res_at (X ++ ⟨#[120]⟩) (b := false) (by rw [ByteArray.data_append, Array.toList_append, hXd]; exact (words_at hx).2) (by rw [ByteArray.size_append, s120]; unfold maxLen; omega) w)
      have HN : Hid ((words.take (k + 1)).contains s.data.toList = ((words.take k).contains s.data.toList || (s.data.toList == x))) := Lib.hid (take_has hx)
      have hcat : ∀ W : World, (Op.stringOp .add X ⟨#[120]⟩).run Try.prog W = .ok (.string (X ++ ⟨#[120]⟩)) W := fun W => run_string_add_sum W _ _ (by rw [s120]; omega)
      have c0 := hB.cell k hcell
      have heq : (s.toList == X.toList) = (s.data.toList == x) := by rw [toList_data, toList_data, hXd]
      have hk0 : (0 : Int) ≤ (k : Int) := by omega
      have hk1 : (k : Int) < 16 := by omega
      clear hx hX hXd HRs HEn HOp HE2 HF
      generalize (words.take k).contains s.data.toList = z at *
      generalize (s.data.toList == x) = q at *
      cases z with
      | true =>
        clear heq
        go_wp2_with fail
        refine (R1.out _).mono ?_
        rintro e w1 ⟨rfl, hw1⟩
        have hB1 := hB.after hw1
        have hb1 := bel_step hb hw1
        clear R1 hw1 hB hb c0
        have c0 := hB1.cell k hcell
        go_wp2_with fail
        refine (R2.out _).mono ?_
        rintro e w2 ⟨rfl, hw2⟩
        have hB2 := hB1.after hw2
        have hb2 := bel_step hb1 hw2
        clear R2 hw2 hB1 hb1 c0
        go_wp2
        go_roundw
        case rel => exact ⟨k + 1, by omega, by rw [HN.out]; first | rfl | simp, by go_num, hB2, hb2⟩
        case measure => simp [intOf]; omega
      | false =>
        go_wp2_with fail
        refine (R1.out _).mono ?_
        rintro e w1 ⟨rfl, hw1⟩
        have hB1 := hB.after hw1
        have hb1 := bel_step hb hw1
        clear R1 hw1 hB hb c0
        have c0 := hB1.cell k hcell
        go_wp2_with fail
        refine (R2.out _).mono ?_
        rintro e w2 ⟨rfl, hw2⟩
        have hB2 := hB1.after hw2
        have hb2 := bel_step hb1 hw2
        clear R2 hw2 hB1 hb1 c0
        go_wp2
        go_roundw
        case rel => exact ⟨k + 1, by omega, by rw [HN.out]; first | rfl | simp, by go_num, hB2, hb2⟩
        case measure => simp [intOf]; omega
    · have hk16 : k = 16 := by omega
      subst hk16
      have HZ : Hid ((words.take 16).contains s.data.toList = resB s.data.toList) := Lib.hid rfl
      rw [HZ.out]
      clear HZ HF
      generalize resB s.data.toList = rs at *
      generalize endB c = eb at *
      cases ok with
      | true =>
        have hee : eb = true := by rw [HE2.out]; rfl
        subst hee
        clear HE2
        have hconv2 := hconv wr
        have hb2 := bel_alloc hb (.cells #[.int .u8 (c : Int), .int .u8 120] 5)
        clear hconv hb hB
        go_wp2_with fail
        refine (HOp.out _).mono ?_
        rintro e w1 ⟨rfl, hw1⟩
        have hb3 := bel_step hb2 hw1
        clear HOp hw1 hb2 hconv2
        go_wp2_with fail
        refine (HRs.out _).mono ?_
        rintro e w2 ⟨rfl, hw2⟩
        have hb4 := bel_step hb3 hw2
        clear HRs hw2 hb3
        go_wp2_with fail
        refine (HEn.out _).mono ?_
        rintro e w3 ⟨rfl, hw3⟩
        have hb5 := bel_step hb4 hw3
        clear HEn hw3 hb4
        go_wp2_with fail
        refine (FA.out _).mono ?_
        rintro e w4 ⟨rfl, hw4⟩
        have hb6 := bel_step hb5 hw4
        go_wp2
        go_ret
        exact ⟨rfl, hb6⟩
      | false =>
        by_cases h32 : c = 32
        · have b32 : ((c : Int) == 32) = true := by rw [h32]; rfl
          have hee : eb = true := by rw [HE2.out, h32]; rfl
          subst hee
          clear HE2 h32
          have hconv2 := hconv wr
          have hb2 := bel_alloc hb (.cells #[.int .u8 (c : Int), .int .u8 120] 5)
          clear hconv hb hB
          go_wp2_with fail
          refine (HOp.out _).mono ?_
          rintro e w1 ⟨rfl, hw1⟩
          have hb3 := bel_step hb2 hw1
          clear HOp hw1 hb2 hconv2
          go_wp2_with fail
          refine (HRs.out _).mono ?_
          rintro e w2 ⟨rfl, hw2⟩
          have hb4 := bel_step hb3 hw2
          clear HRs hw2 hb3
          go_wp2_with fail
          refine (HEn.out _).mono ?_
          rintro e w3 ⟨rfl, hw3⟩
          have hb5 := bel_step hb4 hw3
          clear HEn hw3 hb4
          go_wp2_with fail
          refine (FA.out _).mono ?_
          rintro e w4 ⟨rfl, hw4⟩
          have hb6 := bel_step hb5 hw4
          go_wp2
          go_ret
          exact ⟨rfl, hb6⟩
        · have b32 : ((c : Int) == 32) = false := by rw [beq_eq_false_iff_ne]; omega
          by_cases h9 : c = 9
          · have b9 : ((c : Int) == 9) = true := by rw [h9]; rfl
            have hee : eb = true := by rw [HE2.out, h9]; rfl
            subst hee
            clear HE2 h32 h9
            have hconv2 := hconv wr
            have hb2 := bel_alloc hb (.cells #[.int .u8 (c : Int), .int .u8 120] 5)
            clear hconv hb hB
            go_wp2_with fail
            refine (HOp.out _).mono ?_
            rintro e w1 ⟨rfl, hw1⟩
            have hb3 := bel_step hb2 hw1
            clear HOp hw1 hb2 hconv2
            go_wp2_with fail
            refine (HRs.out _).mono ?_
            rintro e w2 ⟨rfl, hw2⟩
            have hb4 := bel_step hb3 hw2
            clear HRs hw2 hb3
            go_wp2_with fail
            refine (HEn.out _).mono ?_
            rintro e w3 ⟨rfl, hw3⟩
            have hb5 := bel_step hb4 hw3
            clear HEn hw3 hb4
            go_wp2_with fail
            refine (FA.out _).mono ?_
            rintro e w4 ⟨rfl, hw4⟩
            have hb6 := bel_step hb5 hw4
            go_wp2
            go_ret
            exact ⟨rfl, hb6⟩
          · have b9 : ((c : Int) == 9) = false := by rw [beq_eq_false_iff_ne]; omega
            have hee : eb = false := by rw [HE2.out]; simp [h32, h9]
            subst hee
            clear HE2 h32 h9
            have hconv2 := hconv wr
            have hb2 := bel_alloc hb (.cells #[.int .u8 (c : Int), .int .u8 120] 5)
            clear hconv hb hB
            go_wp2_with fail
            refine (HOp.out _).mono ?_
            rintro e w1 ⟨rfl, hw1⟩
            have hb3 := bel_step hb2 hw1
            clear HOp hw1 hb2 hconv2
            go_wp2_with fail
            refine (HRs.out _).mono ?_
            rintro e w2 ⟨rfl, hw2⟩
            have hb4 := bel_step hb3 hw2
            clear HRs hw2 hb3
            go_wp2_with fail
            refine (HEn.out _).mono ?_
            rintro e w3 ⟨rfl, hw3⟩
            have hb5 := bel_step hb4 hw3
            clear HEn hw3 hb4
            go_wp2_with fail
            refine (FA.out _).mono ?_
            rintro e w4 ⟨rfl, hw4⟩
            have hb6 := bel_step hb5 hw4
            go_wp2
            go_ret
            exact ⟨rfl, hb6⟩
end Go.Proofs.Ytgdaipgmlibpiaa
