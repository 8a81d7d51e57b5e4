/-
  conchlaw9.LexSkips returns true, over package lex's contracts.
-/
import Derived.Test.YtgdaipgmlibpiaaLxFace
import Derived.Test.YtgdaipgmlibpiaaBits
import Derived.Test.YtgdaipgmlibpiaaInts
namespace Go.Proofs.Ytgdaipgmlibpiaa
open Go.RowKit

/-- blanks and joined lines -/
inductive Blk : List UInt8 → Prop
  | nil : Blk []
  | one (r) : Blk r → Blk (32 :: r)
  | tab (r) : Blk r → Blk (9 :: r)
  | join (r) : Blk r → Blk (92 :: 10 :: r)
theorem Blk.app {x y : List UInt8} (h : Blk x) (k : Blk y) : Blk (x ++ y) := by
  induction h with
  | nil => exact k
  | one r _ ih => exact .one _ ih
  | tab r _ ih => exact .tab _ ih
  | join r _ ih => exact .join _ ih
theorem blk_skip {x : List UInt8} (h : Blk x) (y : List UInt8) : skipGo (x ++ y) = x.length + skipGo y := by
  induction h with
  | nil => simp
  | one r _ ih => rw [List.cons_append, skip_blank (.inl rfl), ih, List.length_cons]; omega
  | tab r _ ih => rw [List.cons_append, skip_blank (.inr rfl), ih, List.length_cons]; omega
  | join r _ ih => rw [List.cons_append, List.cons_append, skip_join, ih, List.length_cons, List.length_cons]; omega
theorem com_all {x : List UInt8} (h : ∀ c ∈ x, c ≠ 10) (y : List UInt8) : comN (x ++ 10 :: y) = x.length := by
  induction x with
  | nil => exact com_stop y
  | cons c x ih =>
    rw [List.cons_append, com_more (h c (by simp)), ih (fun d hd => h d (by simp [hd])), List.length_cons]
    omega
theorem skipP_zero (l : List UInt8) : skipP l 0 = skipGo l := by
  unfold skipP atIn
  have : (min (max (0 : Int) 0) (l.length : Int)).toNat = 0 := by omega
  rw [this]
  simp
theorem skipP_neg (l : List UInt8) {a : Int} (h : a ≤ 0) : skipP l a = skipGo l := by
  unfold skipP atIn
  have : (min (max a 0) (l.length : Int)).toNat = 0 := by omega
  rw [this]
  simp
theorem skipP_past (l : List UInt8) {a : Int} (h : (l.length : Int) ≤ a) : skipP l a = l.length := by
  unfold skipP atIn
  have : (min (max a 0) (l.length : Int)).toNat = l.length := by omega
  rw [this, List.drop_of_length_le (Nat.le_refl _)]
  rfl
/-- passed over: blanks, then a comment -/
theorem skip_one {S C : List UInt8} (hS : Blk S) (hC : ∀ c ∈ C, c ≠ 10) (m : List UInt8) : skipGo (S ++ (35 :: C) ++ [10] ++ m) = S.length + (C.length + 1) := by
  have e : S ++ (35 :: C) ++ [10] ++ m = S ++ ((35 :: C) ++ 10 :: m) := by simp
  rw [e, blk_skip hS, List.cons_append, skip_com, ← List.cons_append, com_all (fun c hc => by
    rcases List.mem_cons.1 hc with rfl | h
    · decide
    · exact hC c h), List.length_cons]
theorem skip_x {S : List UInt8} (hS : Blk S) (m : List UInt8) : skipGo (S ++ [120] ++ m) = S.length := by
  have e : S ++ [120] ++ m = S ++ (120 :: m) := by simp
  rw [e, blk_skip hS, skip_else (by decide) (by decide) (by decide) (fun h => absurd h.1 (by decide))]
  rfl
theorem skip_blks {S : List UInt8} (hS : Blk S) : skipGo S = S.length := by
  have := blk_skip hS []
  rw [List.append_nil] at this
  rw [this]
  rfl

theorem cat_list (a b : ByteArray) : (a ++ b).data.toList = a.data.toList ++ b.data.toList := by
  rw [ByteArray.data_append, Array.toList_append]
theorem emp_sz : (⟨#[]⟩ : ByteArray).size = 0 := rfl

set_option maxHeartbeats 16000000 in
set_option maxRecDepth 100000 in
theorem LexSkips_walk (F : LexFace) (b0 : Option Addr) (n c0 : Nat) (f : Nat → Int) (cm mo : ByteArray) (w : World) (hI : IntRow w b0 n f) (hc : cm.size ≤ maxLen) (hm : mo.size ≤ maxLen) :
    Calls Try.prog 6 #[.slice b0 n c0, .string cm, .string mo] w (Gives w (.bool true)) := by
  have FA := Lib.hid (fun w => awake9_is F w)
  unfold maxLen at hc hm
  by_cases h1 : 60 < cm.size
  · have d1 : decide (60 < cm.size) = true := decide_eq_true h1
    go_enter Try.func6, Try.ntmps6
    go_wp2_with fail
    refine (FA.out _).mono ?_
    rintro e w1 ⟨rfl, hb⟩
    go_wp2
    go_ret
    exact ⟨rfl, hb⟩
  have d1 : decide (60 < cm.size) = false := decide_eq_false h1
  by_cases h2 : 60 < mo.size
  · have d2 : decide (60 < mo.size) = true := decide_eq_true h2
    go_enter Try.func6, Try.ntmps6
    go_wp2_with fail
    refine (FA.out _).mono ?_
    rintro e w1 ⟨rfl, hb⟩
    go_wp2
    go_ret
    exact ⟨rfl, hb⟩
  have d2 : decide (60 < mo.size) = false := decide_eq_false h2
  have hcs : cm.size ≤ 60 := by omega
  have hms : mo.size ≤ 60 := by omega
  have hb0 : Below w.heap.size w w := Below.refl _ _
  have HI := Lib.hid hI
  have HF := Lib.hid F
  clear h1 h2 hc hm hI
  go_enter Try.func6, Try.ntmps6
  go_wp2
  go_loopw [7, 8] (fun x i wr => ∃ (k : Nat) (S : ByteArray), k ≤ n ∧ k ≤ 20 ∧ S.size ≤ 2 * k ∧ x = .string S ∧ i = .int .i64 (k : Int) ∧ Below w.heap.size w wr ∧ Hid (Blk S.data.toList)) (fun _ i _ => 20 - (intOf i).toNat)
  case atStart => exact ⟨0, ⟨#[]⟩, Nat.zero_le _, Nat.zero_le _, by rw [emp_sz]; omega, rfl, rfl, hb0, Lib.hid .nil⟩
  case round =>
    clear hb0
    obtain ⟨k, S, hkn, hk20, hS, rfl, rfl, hb, HB⟩ := hrel
    by_cases hin : k < n ∧ k < 20
    · obtain ⟨hk1, hk2⟩ := hin
      have dk1 : decide ((k : Int) < (n : Int)) = true := decide_eq_true (by omega)
      have dk2 : decide ((k : Int) < 20) = true := decide_eq_true (by omega)
      have hk0 : (0 : Int) ≤ (k : Int) := by omega
      have hki : (k : Int) < (n : Int) := by omega
      obtain ⟨a, rfl, hal, hcl⟩ := HI.out.get hk1
      have c0' : wr.cell? (a.add k) = some (.int .i64 (f k)) := (World.cell?_of_block (hb.block _ (by rw [addI_block]; exact hal))).trans hcl
      obtain ⟨m0, m1⟩ := and_mask_le (f k) 8 (by decide) 255 (by decide)
      obtain ⟨M, hM⟩ : ∃ M : Nat, bits .and .i64 (f k) 255 = (M : Int) := ⟨(bits .and .i64 (f k) 255).toNat, by omega⟩
      clear m0 m1
      have c1' : (wr.alloc (.cells #[.string ⟨#[32]⟩, .string ⟨#[9]⟩, .string ⟨#[92, 10]⟩] 9)).cell? (a.add k) = some (.int .i64 (f k)) := (World.cell?_of_block ((bel_alloc (Below.refl _ wr) _).block _ (World.block_lt_of_cell? _ _ c0'))).trans c0'
      have hb2 := bel_alloc hb (.cells #[.string ⟨#[32]⟩, .string ⟨#[9]⟩, .string ⟨#[92, 10]⟩] 9)
      have hS40 : S.size ≤ 40 := by omega
      rcases (show M % 3 = 0 ∨ M % 3 = 1 ∨ M % 3 = 2 by omega) with hg | hg | hg
      · have hG : (M : Int) % 3 = 0 := by omega
        have HB2 : Hid (Blk (S ++ ⟨#[32]⟩ : ByteArray).data.toList) := Lib.hid (by rw [cat_list]; exact HB.out.app (.one _ .nil))
        have hsz : (S ++ ⟨#[32]⟩ : ByteArray).size = S.size + 1 := by rw [ByteArray.size_append]; rfl
        clear hg HB
        go_wp2
        go_roundw
        case rel => exact ⟨k + 1, S ++ ⟨#[32]⟩, by omega, by omega, by rw [hsz]; omega, rfl, by go_num, hb2, HB2⟩
        case measure => simp [intOf]; omega
      · have hG : (M : Int) % 3 = 1 := by omega
        have HB2 : Hid (Blk (S ++ ⟨#[9]⟩ : ByteArray).data.toList) := Lib.hid (by rw [cat_list]; exact HB.out.app (.tab _ .nil))
        have hsz : (S ++ ⟨#[9]⟩ : ByteArray).size = S.size + 1 := by rw [ByteArray.size_append]; rfl
        clear hg HB
        go_wp2
        go_roundw
        case rel => exact ⟨k + 1, S ++ ⟨#[9]⟩, by omega, by omega, by rw [hsz]; omega, rfl, by go_num, hb2, HB2⟩
        case measure => simp [intOf]; omega
      · have hG : (M : Int) % 3 = 2 := by omega
        have HB2 : Hid (Blk (S ++ ⟨#[92, 10]⟩ : ByteArray).data.toList) := Lib.hid (by rw [cat_list]; exact HB.out.app (.join _ .nil))
        have hsz : (S ++ ⟨#[92, 10]⟩ : ByteArray).size = S.size + 2 := by rw [ByteArray.size_append]; rfl
        clear hg HB
        go_wp2
        go_roundw
        case rel => exact ⟨k + 1, S ++ ⟨#[92, 10]⟩, by omega, by omega, by rw [hsz]; omega, rfl, by go_num, hb2, HB2⟩
        case measure => simp [intOf]; omega
    · by_cases hkn2 : k < n
      · have dk1 : decide ((k : Int) < (n : Int)) = true := decide_eq_true (by omega)
        have dk2 : decide ((k : Int) < 20) = false := decide_eq_false (by omega)
        have HSB := HB
        have hS40 : S.size ≤ 40 := by omega
        clear HI HB hin
        go_wp2

        go_loopw [9, 10] (fun x i wx => wx = wr ∧ ∃ (q : Nat) (C : ByteArray) (X : List UInt8), q ≤ cm.size ∧ x = .string C ∧ i = .int .i64 (q : Int) ∧ C.size ≤ q + 1 ∧ Hid (C.data.toList = 35 :: X ∧ ∀ c ∈ X, c ≠ 10)) (fun _ i _ => cm.size - (intOf i).toNat)
        case atStart => exact ⟨rfl, 0, ⟨#[35]⟩, [], Nat.zero_le _, rfl, rfl, Nat.le_refl _, Lib.hid ⟨rfl, fun c hc => by cases hc⟩⟩
        case round =>
          obtain ⟨rfl, q, C, X, hq, rfl, rfl, hC, HC⟩ := hrel
          by_cases hqs : q < cm.size
          · have hqi : (q : Int) < (cm.size : Int) := by omega
            have hq0 : (0 : Int) ≤ (q : Int) := by omega
            have hq1 : (q : Int) ≤ (q : Int) + 1 := by omega
            have hq2 : (q : Int) + 1 ≤ (cm.size : Int) := by omega
            have hy1 : (cm[q].toNat : Int) < 256 := by have := cm[q].toNat_lt; omega
            have hy0 : (0 : Int) ≤ (cm[q].toNat : Int) := by omega
            have hC61 : C.size ≤ 61 := by omega
            by_cases h10 : cm[q].toNat = 10
            · have b10 : ((cm[q].toNat : Int) != 10) = false := by rw [h10]; rfl
              clear h10
              go_wp2
              go_roundw
              case rel => exact ⟨by first | rfl | trivial, q + 1, C, X, by omega, rfl, by go_num, by omega, HC⟩
              case measure => simp [intOf]; omega
            · have b10 : ((cm[q].toNat : Int) != 10) = true := by simp only [bne_iff_ne, ne_eq]; omega
              obtain ⟨Y, hY⟩ : ∃ Y, cm.extract q (q + 1) = Y := ⟨_, rfl⟩
              have hYd : Y.data.toList = [cm[q]] := by
                rw [← hY, extract_bytes, drop_cons cm q hqs, show q + 1 - q = 1 by omega]
                rfl
              have hYs : Y.size = 1 := by
                have : Y.data.toList.length = 1 := by rw [hYd]; rfl
                simpa using this
              have HC2 : Hid ((C ++ Y : ByteArray).data.toList = 35 :: (X ++ [cm[q]]) ∧ ∀ c ∈ X ++ [cm[q]], c ≠ 10) := Lib.hid ⟨by rw [cat_list, HC.out.1, hYd]; rfl, fun c hc => by
                rcases List.mem_append.1 hc with h | h
                · exact HC.out.2 c h
                · rw [List.mem_singleton] at h
                  subst h
                  exact byte_ne (d := 10) h10⟩
              have hsz : (C ++ Y : ByteArray).size ≤ q + 1 + 1 := by rw [ByteArray.size_append, hYs]; omega
              clear h10 hYd HC
              go_wp2
              go_roundw
              case rel => exact ⟨by first | rfl | trivial, q + 1, C ++ Y, X ++ [cm[q]], by omega, by first | rfl | rw [hY], by go_num, hsz, HC2⟩
              case measure => simp [intOf]; omega
          · have dq : decide ((q : Int) < (cm.size : Int)) = false := decide_eq_false (by omega)
            have hC61 : C.size ≤ 61 := by omega
            have hSl : S.data.toList.length = S.size := by simp
            have hCl : C.data.toList.length = C.size := by simp
            have s10 : (⟨#[10]⟩ : ByteArray).size = 1 := rfl
            have s120 : (⟨#[120]⟩ : ByteArray).size = 1 := rfl
            have K1 : Hid (∀ w, Calls Try.prog 12 #[.string (S ++ C ++ ⟨#[10]⟩ ++ mo), .int .i64 0] w (Gives w (.int .i64 ((S.size : Int) + (C.size : Int))))) := Lib.hid (HF.out.skip_at _ 0 (n := S.size + C.size) (by
              rw [skipP_zero, cat_list, cat_list, cat_list, HC.out.1]
              have := skip_one (C := X) HSB.out HC.out.2 mo.data.toList
              rw [show (⟨#[10]⟩ : ByteArray).data.toList = [10] from rfl, this, hSl, ← hCl, HC.out.1, List.length_cons]) (by simp only [ByteArray.size_append, s10]; omega) (by decide) (by decide))
            have K2 : Hid (∀ w, Calls Try.prog 12 #[.string (S ++ ⟨#[120]⟩ ++ mo), .int .i64 0] w (Gives w (.int .i64 (S.size : Int)))) := Lib.hid (HF.out.skip_at _ 0 (n := S.size) (by
              rw [skipP_zero, cat_list, cat_list]
              have := skip_x HSB.out mo.data.toList
              rw [show (⟨#[120]⟩ : ByteArray).data.toList = [120] from rfl, this, hSl]) (by simp only [ByteArray.size_append, s120]; omega) (by decide) (by decide))
            have K3 : Hid (∀ w, Calls Try.prog 12 #[.string S, .int .i64 0] w (Gives w (.int .i64 (S.size : Int)))) := Lib.hid (HF.out.skip_at S 0 (n := S.size) (by rw [skipP_zero, skip_blks HSB.out, hSl]) (by omega) (by decide) (by decide))
            have K4 : Hid (∀ w, Calls Try.prog 12 #[.string S, .int .i64 (-5)] w (Gives w (.int .i64 (S.size : Int)))) := Lib.hid (HF.out.skip_at S (-5) (n := S.size) (by rw [skipP_neg _ (by decide), skip_blks HSB.out, hSl]) (by omega) (by decide) (by decide))
            have K5 : Hid (∀ w, Calls Try.prog 12 #[.string S, .int .i64 4611686018427387904] w (Gives w (.int .i64 (S.size : Int)))) := Lib.hid (HF.out.skip_at S 4611686018427387904 (n := S.size) (by rw [skipP_past _ (by rw [hSl]; omega), hSl]) (by omega) (by decide) (by decide))
            clear HC HSB HF hSl hCl
            have z1 : ∀ W : World, (Op.stringOp .add S C).run Try.prog W = .ok (.string (S ++ C)) W := fun W => run_string_add_sum W _ _ (by omega)
            have z2 : ∀ W : World, (Op.stringOp .add (S ++ C) ⟨#[10]⟩).run Try.prog W = .ok (.string (S ++ C ++ ⟨#[10]⟩)) W := fun W => run_string_add_sum W _ _ (by simp only [ByteArray.size_append, s10]; omega)
            have z3 : ∀ W : World, (Op.stringOp .add (S ++ C ++ ⟨#[10]⟩) mo).run Try.prog W = .ok (.string (S ++ C ++ ⟨#[10]⟩ ++ mo)) W := fun W => run_string_add_sum W _ _ (by simp only [ByteArray.size_append, s10]; omega)
            have z4 : ∀ W : World, (Op.stringOp .add S ⟨#[120]⟩).run Try.prog W = .ok (.string (S ++ ⟨#[120]⟩)) W := fun W => run_string_add_sum W _ _ (by rw [s120]; omega)
            have z5 : ∀ W : World, (Op.stringOp .add (S ++ ⟨#[120]⟩) mo).run Try.prog W = .ok (.string (S ++ ⟨#[120]⟩ ++ mo)) W := fun W => run_string_add_sum W _ _ (by simp only [ByteArray.size_append, s120]; omega)
            go_wp2_with fail
            refine (K1.out _).mono ?_
            rintro e v1 ⟨rfl, hv1⟩
            have hb := bel_step hb hv1
            clear K1 hv1
            go_wp2_with fail
            refine (K2.out _).mono ?_
            rintro e v2 ⟨rfl, hv2⟩
            have hb := bel_step hb hv2
            clear K2 hv2
            go_wp2_with fail
            refine (K3.out _).mono ?_
            rintro e v3 ⟨rfl, hv3⟩
            have hb := bel_step hb hv3
            clear K3 hv3
            go_wp2_with fail
            refine (K4.out _).mono ?_
            rintro e v4 ⟨rfl, hv4⟩
            have hb := bel_step hb hv4
            clear K4 hv4
            go_wp2_with fail
            refine (K5.out _).mono ?_
            rintro e v5 ⟨rfl, hv5⟩
            have hb := bel_step hb hv5
            clear K5 hv5
            go_wp2_with fail
            refine (FA.out _).mono ?_
            rintro e v6 ⟨rfl, hv6⟩
            have hb := bel_step hb hv6
            go_wp2
            go_ret
            exact ⟨rfl, hb⟩
      · have dk1 : decide ((k : Int) < (n : Int)) = false := decide_eq_false (by omega)
        have HSB := HB
        have hS40 : S.size ≤ 40 := by omega
        clear HI HB hin
        go_wp2

        go_loopw [9, 10] (fun x i wx => wx = wr ∧ ∃ (q : Nat) (C : ByteArray) (X : List UInt8), q ≤ cm.size ∧ x = .string C ∧ i = .int .i64 (q : Int) ∧ C.size ≤ q + 1 ∧ Hid (C.data.toList = 35 :: X ∧ ∀ c ∈ X, c ≠ 10)) (fun _ i _ => cm.size - (intOf i).toNat)
        case atStart => exact ⟨rfl, 0, ⟨#[35]⟩, [], Nat.zero_le _, rfl, rfl, Nat.le_refl _, Lib.hid ⟨rfl, fun c hc => by cases hc⟩⟩
        case round =>
          obtain ⟨rfl, q, C, X, hq, rfl, rfl, hC, HC⟩ := hrel
          by_cases hqs : q < cm.size
          · have hqi : (q : Int) < (cm.size : Int) := by omega
            have hq0 : (0 : Int) ≤ (q : Int) := by omega
            have hq1 : (q : Int) ≤ (q : Int) + 1 := by omega
            have hq2 : (q : Int) + 1 ≤ (cm.size : Int) := by omega
            have hy1 : (cm[q].toNat : Int) < 256 := by have := cm[q].toNat_lt; omega
            have hy0 : (0 : Int) ≤ (cm[q].toNat : Int) := by omega
            have hC61 : C.size ≤ 61 := by omega
            by_cases h10 : cm[q].toNat = 10
            · have b10 : ((cm[q].toNat : Int) != 10) = false := by rw [h10]; rfl
              clear h10
              go_wp2
              go_roundw
              case rel => exact ⟨by first | rfl | trivial, q + 1, C, X, by omega, rfl, by go_num, by omega, HC⟩
              case measure => simp [intOf]; omega
            · have b10 : ((cm[q].toNat : Int) != 10) = true := by simp only [bne_iff_ne, ne_eq]; omega
              obtain ⟨Y, hY⟩ : ∃ Y, cm.extract q (q + 1) = Y := ⟨_, rfl⟩
              have hYd : Y.data.toList = [cm[q]] := by
                rw [← hY, extract_bytes, drop_cons cm q hqs, show q + 1 - q = 1 by omega]
                rfl
              have hYs : Y.size = 1 := by
                have : Y.data.toList.length = 1 := by rw [hYd]; rfl
                simpa using this
              have HC2 : Hid ((C ++ Y : ByteArray).data.toList = 35 :: (X ++ [cm[q]]) ∧ ∀ c ∈ X ++ [cm[q]], c ≠ 10) := Lib.hid ⟨by rw [cat_list, HC.out.1, hYd]; rfl, fun c hc => by
                rcases List.mem_append.1 hc with h | h
                · exact HC.out.2 c h
                · rw [List.mem_singleton] at h
                  subst h
                  exact byte_ne (d := 10) h10⟩
              have hsz : (C ++ Y : ByteArray).size ≤ q + 1 + 1 := by rw [ByteArray.size_append, hYs]; omega
              clear h10 hYd HC
              go_wp2
              go_roundw
              case rel => exact ⟨by first | rfl | trivial, q + 1, C ++ Y, X ++ [cm[q]], by omega, by first | rfl | rw [hY], by go_num, hsz, HC2⟩
              case measure => simp [intOf]; omega
          · have dq : decide ((q : Int) < (cm.size : Int)) = false := decide_eq_false (by omega)
            have hC61 : C.size ≤ 61 := by omega
            have hSl : S.data.toList.length = S.size := by simp
            have hCl : C.data.toList.length = C.size := by simp
            have s10 : (⟨#[10]⟩ : ByteArray).size = 1 := rfl
            have s120 : (⟨#[120]⟩ : ByteArray).size = 1 := rfl
            have K1 : Hid (∀ w, Calls Try.prog 12 #[.string (S ++ C ++ ⟨#[10]⟩ ++ mo), .int .i64 0] w (Gives w (.int .i64 ((S.size : Int) + (C.size : Int))))) := Lib.hid (HF.out.skip_at _ 0 (n := S.size + C.size) (by
              rw [skipP_zero, cat_list, cat_list, cat_list, HC.out.1]
              have := skip_one (C := X) HSB.out HC.out.2 mo.data.toList
              rw [show (⟨#[10]⟩ : ByteArray).data.toList = [10] from rfl, this, hSl, ← hCl, HC.out.1, List.length_cons]) (by simp only [ByteArray.size_append, s10]; omega) (by decide) (by decide))
            have K2 : Hid (∀ w, Calls Try.prog 12 #[.string (S ++ ⟨#[120]⟩ ++ mo), .int .i64 0] w (Gives w (.int .i64 (S.size : Int)))) := Lib.hid (HF.out.skip_at _ 0 (n := S.size) (by
              rw [skipP_zero, cat_list, cat_list]
              have := skip_x HSB.out mo.data.toList
              rw [show (⟨#[120]⟩ : ByteArray).data.toList = [120] from rfl, this, hSl]) (by simp only [ByteArray.size_append, s120]; omega) (by decide) (by decide))
            have K3 : Hid (∀ w, Calls Try.prog 12 #[.string S, .int .i64 0] w (Gives w (.int .i64 (S.size : Int)))) := Lib.hid (HF.out.skip_at S 0 (n := S.size) (by rw [skipP_zero, skip_blks HSB.out, hSl]) (by omega) (by decide) (by decide))
            have K4 : Hid (∀ w, Calls Try.prog 12 #[.string S, .int .i64 (-5)] w (Gives w (.int .i64 (S.size : Int)))) := Lib.hid (HF.out.skip_at S (-5) (n := S.size) (by rw [skipP_neg _ (by decide), skip_blks HSB.out, hSl]) (by omega) (by decide) (by decide))
            have K5 : Hid (∀ w, Calls Try.prog 12 #[.string S, .int .i64 4611686018427387904] w (Gives w (.int .i64 (S.size : Int)))) := Lib.hid (HF.out.skip_at S 4611686018427387904 (n := S.size) (by rw [skipP_past _ (by rw [hSl]; omega), hSl]) (by omega) (by decide) (by decide))
            clear HC HSB HF hSl hCl
            have z1 : ∀ W : World, (Op.stringOp .add S C).run Try.prog W = .ok (.string (S ++ C)) W := fun W => run_string_add_sum W _ _ (by omega)
            have z2 : ∀ W : World, (Op.stringOp .add (S ++ C) ⟨#[10]⟩).run Try.prog W = .ok (.string (S ++ C ++ ⟨#[10]⟩)) W := fun W => run_string_add_sum W _ _ (by simp only [ByteArray.size_append, s10]; omega)
            have z3 : ∀ W : World, (Op.stringOp .add (S ++ C ++ ⟨#[10]⟩) mo).run Try.prog W = .ok (.string (S ++ C ++ ⟨#[10]⟩ ++ mo)) W := fun W => run_string_add_sum W _ _ (by simp only [ByteArray.size_append, s10]; omega)
            have z4 : ∀ W : World, (Op.stringOp .add S ⟨#[120]⟩).run Try.prog W = .ok (.string (S ++ ⟨#[120]⟩)) W := fun W => run_string_add_sum W _ _ (by rw [s120]; omega)
            have z5 : ∀ W : World, (Op.stringOp .add (S ++ ⟨#[120]⟩) mo).run Try.prog W = .ok (.string (S ++ ⟨#[120]⟩ ++ mo)) W := fun W => run_string_add_sum W _ _ (by simp only [ByteArray.size_append, s120]; omega)
            go_wp2_with fail
            refine (K1.out _).mono ?_
            rintro e v1 ⟨rfl, hv1⟩
            have hb := bel_step hb hv1
            clear K1 hv1
            go_wp2_with fail
            refine (K2.out _).mono ?_
            rintro e v2 ⟨rfl, hv2⟩
            have hb := bel_step hb hv2
            clear K2 hv2
            go_wp2_with fail
            refine (K3.out _).mono ?_
            rintro e v3 ⟨rfl, hv3⟩
            have hb := bel_step hb hv3
            clear K3 hv3
            go_wp2_with fail
            refine (K4.out _).mono ?_
            rintro e v4 ⟨rfl, hv4⟩
            have hb := bel_step hb hv4
            clear K4 hv4
            go_wp2_with fail
            refine (K5.out _).mono ?_
            rintro e v5 ⟨rfl, hv5⟩
            have hb := bel_step hb hv5
            clear K5 hv5
            go_wp2_with fail
            refine (FA.out _).mono ?_
            rintro e v6 ⟨rfl, hv6⟩
            have hb := bel_step hb hv6
            go_wp2
            go_ret
            exact ⟨rfl, hb⟩
end Go.Proofs.Ytgdaipgmlibpiaa
