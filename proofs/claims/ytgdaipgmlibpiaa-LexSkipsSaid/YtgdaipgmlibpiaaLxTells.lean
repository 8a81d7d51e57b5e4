/-
  conchlaw9.LexTells returns true, over package lex's contracts.
-/
import Derived.Test.YtgdaipgmlibpiaaLxFace
import Derived.Test.YtgdaipgmlibpiaaBits
namespace Go.Proofs.Ytgdaipgmlibpiaa
open Go.RowKit

/-- how many bytes up to the next quote -/
def quoN (l : List UInt8) : Nat := (l.takeWhile (fun b => b ≠ 39)).length
theorem quo_more {c : UInt8} {r : List UInt8} (h : c ≠ 39) : quoN (c :: r) = 1 + quoN r := by
  unfold quoN
  rw [List.takeWhile_cons, if_pos (by simpa using h), List.length_cons]
  omega
theorem quo_stop (r : List UInt8) : quoN (39 :: r) = 0 := by
  unfold quoN
  rw [List.takeWhile_cons, if_neg (by simp)]
  rfl
theorem quo_le (l : List UInt8) : quoN l ≤ l.length := (List.takeWhile_sublist _).length_le
theorem take_quo (l : List UInt8) : l.takeWhile (fun b => b ≠ 39) = l.take (quoN l) := by
  unfold quoN
  induction l with
  | nil => rfl
  | cons c l ih =>
    by_cases h : c = 39
    · subst h; simp
    · rw [List.takeWhile_cons, if_pos (by simpa using h), List.length_cons, List.take_succ_cons, ← ih]
theorem quo_has (l : List UInt8) : l.contains 39 = decide (quoN l < l.length) := by
  induction l with
  | nil => rfl
  | cons c l ih =>
    by_cases h : c = 39
    · subst h; rw [quo_stop]; simp
    · rw [quo_more h, List.contains_cons, ih, List.length_cons]
      have : (39 == c) = false := by rw [beq_eq_false_iff_ne]; exact fun e => h e.symm
      rw [this, Bool.false_or]
      exact decide_eq_decide.2 (by omega)
theorem sing_yes {l r : List UInt8} {n : Nat} (h : l.drop n = 39 :: r) (hq : quoN r < r.length) : singP l (n : Int) = some (r.take (quoN r), n + 1 + quoN r + 1) := by
  unfold singP
  rw [if_pos (by omega), Int.toNat_natCast, h]
  have h2 : singT (39 :: r) = some (r.take (quoN r)) := by
    show (if r.contains 39 then some (r.takeWhile (fun b => b ≠ 39)) else none) = _
    rw [quo_has, decide_eq_true hq, if_pos rfl, take_quo]
  rw [h2]
  simp only [Option.map_some, List.length_take, Option.some.injEq, Prod.mk.injEq, true_and]
  omega
theorem sing_open {l r : List UInt8} {n : Nat} (h : l.drop n = 39 :: r) (hq : ¬ quoN r < r.length) : singP l (n : Int) = none := by
  unfold singP
  rw [if_pos (by omega), Int.toNat_natCast, h]
  have h2 : singT (39 :: r) = none := by
    show (if r.contains 39 then some (r.takeWhile (fun b => b ≠ 39)) else none) = _
    rw [quo_has, decide_eq_false hq]
    rfl
  rw [h2]
  rfl
theorem sing_else {l r : List UInt8} {n : Nat} {c : UInt8} (h : l.drop n = c :: r) (hc : c ≠ 39) : singP l (n : Int) = none := by
  unfold singP
  rw [if_pos (by omega), Int.toNat_natCast, h]
  have h2 : singT (c :: r) = none := by
    unfold singT
    split
    · rename_i h'; injection h' with h' _; exact absurd h' hc
    · rfl
  rw [h2]
  rfl
theorem sing_out {l : List UInt8} {n : Nat} (h : l.length ≤ n) : singP l (n : Int) = none := by
  unfold singP
  rw [if_pos (by omega), Int.toNat_natCast, List.drop_of_length_le h]
  rfl
theorem sing_neg {l : List UInt8} {a : Int} (h : a < 0) : singP l a = none := by
  unfold singP
  rw [if_neg (by omega)]
theorem byte_neQ {c d : UInt8} (h : ¬ c.toNat = d.toNat) : c ≠ d := fun e => h (by rw [e])

set_option maxHeartbeats 16000000 in
set_option maxRecDepth 100000 in
theorem LexTells_walk (F : LexFace) (s : ByteArray) (at_ : Int) (c : Nat) (w : World) (hs : s.size ≤ maxLen) (h0 : -9223372036854775808 ≤ at_) (h1 : at_ ≤ 9223372036854775807) (hc : c < 256) :
    Calls Try.prog 4 #[.string s, .int .i64 at_, .int .u8 (c : Int)] w (Gives w (.bool true)) := by
  have FA := Lib.hid (fun w => awake9_is F w)
  have HR := Lib.hid (fun w => F.reserved s hs w)
  unfold maxLen at hs
  by_cases h300 : 300 < s.size
  · have d300 : decide (300 < s.size) = true := decide_eq_true h300
    go_enter Try.func4, Try.ntmps4
    go_wp2_with fail
    refine (FA.out _).mono ?_
    rintro e w1 ⟨rfl, hb⟩
    go_wp2
    go_ret
    exact ⟨rfl, hb⟩
  have d300 : decide (300 < s.size) = false := decide_eq_false h300
  have HE := Lib.hid (fun w => F.ends c hc w)
  have HE2 := Lib.hid (fun w => refEnds_is c w)
  have HR2 := Lib.hid (fun w => refReserved_is s w)
  have HF := Lib.hid F
  have hsz : s.size ≤ 300 := by omega
  have hb0 : Below w.heap.size w w := Below.refl _ _
  clear hs h300
  go_enter Try.func4, Try.ntmps4
  go_wp2
  go_loopw [1, 7] (fun x i wr => ∃ (k : Nat) (a : Int), k ≤ 2 ∧ x = .int .i64 a ∧ i = .int .i64 (k : Int) ∧ -9223372036854775808 ≤ a ∧ a ≤ 9223372036854775807 ∧ Below w.heap.size w wr) (fun _ i _ => 2 - (intOf i).toNat)
  case atStart => exact ⟨0, at_, by omega, rfl, rfl, h0, h1, hb0⟩
  case round =>
    clear h0 h1 hb0
    obtain ⟨k, a, hk, rfl, rfl, h0, h1, hb⟩ := hrel
    by_cases hk2 : k < 2
    · have dk : decide ((k : Int) < 2) = true := decide_eq_true (by omega)
      have HO := Lib.hid (fun w => HF.out.op s a (by omega) h0 h1 w)
      have HO2 := Lib.hid (fun w => refOp_is s a w (by omega))
      have HS := Lib.hid (fun w => HF.out.skip s a (by omega) h0 h1 w)
      have HS2 := Lib.hid (fun w => refSkip_is s a w (by omega))
      have HI := Lib.hid (fun w => HF.out.single s a (by omega) h0 h1 w)
      clear HE HE2 HR HR2 FA
      obtain ⟨ov, hov⟩ : ∃ ov, opP s.data.toList a = ov := ⟨_, rfl⟩
      obtain ⟨sk, hsk⟩ : ∃ sk, skipP s.data.toList a = sk := ⟨_, rfl⟩
      rw [hov] at HO HO2
      rw [hsk] at HS HS2
      clear hov hsk
      obtain ⟨O, hO⟩ : ∃ O : ByteArray, strV (ov.getD []) = .string O := ⟨_, rfl⟩
      obtain ⟨ob, hob⟩ : ∃ ob, ov.isSome = ob := ⟨_, rfl⟩
      simp only [lxV, hO, hob] at HO HO2
      clear hO hob
      go_wp2_with fail
      refine (HO.out _).mono ?_
      rintro e w1 ⟨rfl, hw1⟩
      have hb := bel_step hb hw1
      clear HO hw1
      go_wp2_with fail
      refine (HO2.out _).mono ?_
      rintro e w2 ⟨rfl, rfl⟩
      clear HO2
      go_wp2_with fail
      refine (HS.out _).mono ?_
      rintro e w3 ⟨rfl, hw3⟩
      have hb := bel_step hb hw3
      clear HS hw3
      go_wp2_with fail
      refine (HS2.out _).mono ?_
      rintro e w4 ⟨rfl, rfl⟩
      clear HS2
      obtain ⟨m0, m1⟩ := and_mask_le a 16 (by decide) 65535 (by decide)
      obtain ⟨M, hM⟩ : ∃ M : Nat, bits .and .i64 a 65535 = (M : Int) := ⟨(bits .and .i64 a 65535).toNat, by omega⟩
      have hM5 : M ≤ 65535 := by omega
      obtain ⟨G, hG⟩ : ∃ G : Nat, (M : Int) % ((s.size : Int) + 1) = (G : Int) := ⟨M % (s.size + 1), by simp⟩
      have hG5 : G ≤ 65535 := by
        have h1 : M % (s.size + 1) ≤ M := Nat.mod_le _ _
        have h2 : ((M % (s.size + 1) : Nat) : Int) = (G : Int) := by rw [← hG]; simp
        omega
      clear m0 m1
      by_cases ha : a < 0
      · have HI := Lib.hid (HF.out.single_none s a (sing_neg ha) (by omega) h0 h1)
        have da : decide (0 ≤ a) = false := decide_eq_false (by omega)
        go_wp2_with fail
        refine (HI.out _).mono ?_
        rintro e w5 ⟨rfl, hw5⟩
        have hb := bel_step hb hw5
        clear HI hw5
        go_wp2
        go_roundw
        case rel => exact ⟨k + 1, (G : Int), by omega, by first | rfl | exact congrArg (Value.int IntKind.i64) hG, by go_num, by omega, by omega, hb⟩
        case measure => simp [intOf]; omega
      obtain ⟨n, rfl⟩ := Int.eq_ofNat_of_zero_le (show 0 ≤ a by omega)
      have da : decide ((0 : Int) ≤ (n : Int)) = true := decide_eq_true (by omega)
      have hn0 : (0 : Int) ≤ (n : Int) := by omega
      clear ha
      by_cases hns : s.size ≤ n
      · have HI := Lib.hid (HF.out.single_none s n (sing_out (by simpa using hns)) (by omega) h0 h1)
        have dn : decide ((n : Int) < (s.size : Int)) = false := decide_eq_false (by omega)
        go_wp2_with fail
        refine (HI.out _).mono ?_
        rintro e w5 ⟨rfl, hw5⟩
        have hb := bel_step hb hw5
        clear HI hw5
        go_wp2
        go_roundw
        case rel => exact ⟨k + 1, (G : Int), by omega, by first | rfl | exact congrArg (Value.int IntKind.i64) hG, by go_num, by omega, by omega, hb⟩
        case measure => simp [intOf]; omega
      have hlt : n < s.size := by omega
      have hn1 : (n : Int) < (s.size : Int) := by omega
      have dn : decide ((n : Int) < (s.size : Int)) = true := decide_eq_true hn1
      have hdc := drop_cons s n hlt
      have hx1 : (s[n].toNat : Int) < 256 := by have := s[n].toNat_lt; omega
      have hx0 : (0 : Int) ≤ (s[n].toNat : Int) := by omega
      by_cases h39 : s[n].toNat = 39
      · have b39 : ((s[n].toNat : Int) == 39) = true := by rw [h39]; rfl
        have hd2 : s.data.toList.drop n = 39 :: s.data.toList.drop (n + 1) := by rw [hdc, UInt8.toNat_inj.1 (show s[n].toNat = (39 : UInt8).toNat from h39)]
        have hql := quo_le (s.data.toList.drop (n + 1))
        have hrl : (s.data.toList.drop (n + 1)).length = s.size - (n + 1) := by simp
        obtain ⟨E, hE⟩ : ∃ E, n + 1 + quoN (s.data.toList.drop (n + 1)) = E := ⟨_, rfl⟩
        have hEs : E ≤ s.size := by omega
        have hnE : n + 1 ≤ E := by omega
        by_cases hfound : E < s.size
        · have HI : Hid (∀ w, Calls Try.prog 14 #[.string s, .int .i64 (n : Int)] w (Gives w (.tuple #[.string (s.extract (n + 1) E), .int .i64 ((E + 1 : Nat) : Int), .bool true]))) := Lib.hid (by
            have h2 := HF.out.single_some s n (sing_yes hd2 (by omega)) (by omega) h0 h1
            rw [hE] at h2
            have h3 : (⟨((s.data.toList.drop (n + 1)).take (quoN (s.data.toList.drop (n + 1)))).toArray⟩ : ByteArray) = s.extract (n + 1) E := by
              rw [extract_bytes, show E - (n + 1) = quoN (s.data.toList.drop (n + 1)) by omega]
            rw [h3] at h2
            exact h2)
          have HEE := Lib.hid hE
          obtain ⟨X, hX⟩ : ∃ X, s.extract (n + 1) E = X := ⟨_, rfl⟩
          rw [hX] at HI
          have HXX := Lib.hid hX
          clear hE hql hrl hd2 hdc h39 hX
          go_wp2_with fail
          refine (HI.out _).mono ?_
          rintro e w5 ⟨rfl, hw5⟩
          have hb := bel_step hb hw5
          clear HI hw5
          go_wp2
          go_loopw [15, 16, 17, 18] (fun x y z i wx => wx = w5 ∧ ((∃ q : Nat, n + 1 ≤ q ∧ q ≤ E ∧ x = .string ⟨#[]⟩ ∧ y = .int .i64 0 ∧ z = .bool false ∧ i = .int .i64 (q : Int) ∧ Hid (q + quoN (s.data.toList.drop q) = E)) ∨ (x = .string X ∧ y = .int .i64 ((E : Int) + 1) ∧ z = .bool true ∧ i = .int .i64 ((E : Int) + 1)))) (fun _ _ _ i _ => s.size + 1 - (intOf i).toNat)
          case atStart => exact ⟨rfl, .inl ⟨n + 1, Nat.le_refl _, hnE, rfl, rfl, rfl, by go_num, HEE⟩⟩
          case round =>
            clear HEE
            obtain ⟨rfl, ⟨q, hq1, hq2, rfl, rfl, rfl, rfl, HQ⟩ | ⟨rfl, rfl, rfl, rfl⟩⟩ := hrel
            · have hqs : q < s.size := by omega
              have hdq := drop_cons s q hqs
              have hy1 : (s[q].toNat : Int) < 256 := by have := s[q].toNat_lt; omega
              have hy0 : (0 : Int) ≤ (s[q].toNat : Int) := by omega
              have hq0 : (0 : Int) ≤ (q : Int) := by omega
              have hqi : (q : Int) < (s.size : Int) := by omega
              have hnq : (n : Int) + 1 ≤ (q : Int) := by omega
              have hqle : (q : Int) ≤ (s.size : Int) := by omega
              have hn10 : (0 : Int) ≤ (n : Int) + 1 := by omega
              by_cases hq39 : s[q].toNat = 39
              · have bq : ((s[q].toNat : Int) == 39) = true := by rw [hq39]; rfl
                have hqE : q = E := by
                  have h2 := HQ.out
                  rw [hdq, UInt8.toNat_inj.1 (show s[q].toNat = (39 : UInt8).toNat from hq39), quo_stop] at h2
                  omega
                subst hqE
                clear HQ hdq hq39
                go_wp2
                try rw [HXX.out]
                go_roundw
                case rel => exact ⟨by first | rfl | trivial, .inr ⟨by first | rfl | rw [HXX.out], by go_num, rfl, by go_num⟩⟩
                case measure => simp [intOf]; omega
              · have bq : ((s[q].toNat : Int) == 39) = false := by rw [beq_eq_false_iff_ne]; omega
                have HQ2 : Hid ((q + 1) + quoN (s.data.toList.drop (q + 1)) = E) := Lib.hid (by rw [← HQ.out, hdq, quo_more (byte_neQ (d := 39) hq39)]; omega)
                have hqE : q ≠ E := by
                  have h2 := HQ.out
                  rw [hdq, quo_more (byte_neQ (d := 39) hq39)] at h2
                  omega
                clear HQ hdq hq39
                go_wp2
                go_roundw
                case rel => exact ⟨by first | rfl | trivial, .inl ⟨q + 1, by omega, by omega, rfl, rfl, rfl, by go_num, HQ2⟩⟩
                case measure => simp [intOf]; omega
            · clear HXX
              by_cases hEl : E + 1 < s.size
              · have dE : decide ((E : Int) + 1 < (s.size : Int)) = true := decide_eq_true (by omega)
                go_wp2
                go_roundw
                case rel => exact ⟨k + 1, (G : Int), by omega, by first | rfl | exact congrArg (Value.int IntKind.i64) hG, by go_num, by omega, by omega, hb⟩
                case measure => simp [intOf]; omega
              · have dE : decide ((E : Int) + 1 < (s.size : Int)) = false := decide_eq_false (by omega)
                go_wp2
                go_roundw
                case rel => exact ⟨k + 1, (G : Int), by omega, by first | rfl | exact congrArg (Value.int IntKind.i64) hG, by go_num, by omega, by omega, hb⟩
                case measure => simp [intOf]; omega
        · have HI := Lib.hid (HF.out.single_none s n (sing_open hd2 (by omega)) (by omega) h0 h1)
          have HEE := Lib.hid hE
          have hES : E = s.size := by omega
          clear hE hql hrl hd2 hdc h39
          go_wp2_with fail
          refine (HI.out _).mono ?_
          rintro e w5 ⟨rfl, hw5⟩
          have hb := bel_step hb hw5
          clear HI hw5
          go_wp2
          go_loopw [15, 16, 17, 18] (fun x y z i wx => wx = w5 ∧ (∃ q : Nat, n + 1 ≤ q ∧ q ≤ s.size ∧ x = .string ⟨#[]⟩ ∧ y = .int .i64 0 ∧ z = .bool false ∧ i = .int .i64 (q : Int) ∧ Hid (q + quoN (s.data.toList.drop q) = E))) (fun _ _ _ i _ => s.size + 1 - (intOf i).toNat)
          case atStart => exact ⟨rfl, ⟨n + 1, Nat.le_refl _, by omega, rfl, rfl, rfl, by go_num, HEE⟩⟩
          case round =>
            clear HEE
            obtain ⟨rfl, q, hq1, hq2, rfl, rfl, rfl, rfl, HQ⟩ := hrel
            by_cases hqs : q < s.size
            · have hdq := drop_cons s q hqs
              have hy1 : (s[q].toNat : Int) < 256 := by have := s[q].toNat_lt; omega
              have hy0 : (0 : Int) ≤ (s[q].toNat : Int) := by omega
              have hq0 : (0 : Int) ≤ (q : Int) := by omega
              have hqi : (q : Int) < (s.size : Int) := by omega
              have hq39 : ¬ s[q].toNat = 39 := fun hq39 => by
                have h2 := HQ.out
                rw [hdq, UInt8.toNat_inj.1 (show s[q].toNat = (39 : UInt8).toNat from hq39), quo_stop] at h2
                omega
              have bq : ((s[q].toNat : Int) == 39) = false := by rw [beq_eq_false_iff_ne]; omega
              have HQ2 : Hid ((q + 1) + quoN (s.data.toList.drop (q + 1)) = E) := Lib.hid (by rw [← HQ.out, hdq, quo_more (byte_neQ (d := 39) hq39)]; omega)
              clear HQ hdq hq39
              go_wp2
              go_roundw
              case rel => exact ⟨by first | rfl | trivial, q + 1, by omega, by omega, rfl, rfl, rfl, by go_num, HQ2⟩
              case measure => simp [intOf]; omega
            · have dq : decide ((q : Int) < (s.size : Int)) = false := decide_eq_false (by omega)
              clear HQ
              go_wp2
              go_roundw
              case rel => exact ⟨k + 1, (G : Int), by omega, by first | rfl | exact congrArg (Value.int IntKind.i64) hG, by go_num, by omega, by omega, hb⟩
              case measure => simp [intOf]; omega
      · have b39 : ((s[n].toNat : Int) == 39) = false := by rw [beq_eq_false_iff_ne]; omega
        have HI := Lib.hid (HF.out.single_none s n (sing_else hdc (byte_neQ (d := 39) h39)) (by omega) h0 h1)
        clear hdc h39
        go_wp2_with fail
        refine (HI.out _).mono ?_
        rintro e w5 ⟨rfl, hw5⟩
        have hb := bel_step hb hw5
        clear HI hw5
        go_wp2
        go_roundw
        case rel => exact ⟨k + 1, (G : Int), by omega, by first | rfl | exact congrArg (Value.int IntKind.i64) hG, by go_num, by omega, by omega, hb⟩
        case measure => simp [intOf]; omega
    · have dk : decide ((k : Int) < 2) = false := decide_eq_false (by omega)
      clear HF h0 h1
      generalize endB c = eb at *
      generalize resB s.data.toList = rb at *
      go_wp2_with fail
      refine (HE.out _).mono ?_
      rintro e w1 ⟨rfl, hw1⟩
      have hb := bel_step hb hw1
      clear HE hw1
      go_wp2_with fail
      refine (HE2.out _).mono ?_
      rintro e w2 ⟨rfl, rfl⟩
      clear HE2
      go_wp2_with fail
      refine (HR.out _).mono ?_
      rintro e w3 ⟨rfl, hw3⟩
      have hb := bel_step hb hw3
      clear HR hw3
      go_wp2_with fail
      refine (HR2.out _).mono ?_
      rintro e w4 ⟨rfl, rfl⟩
      clear HR2
      go_wp2_with fail
      refine (FA.out _).mono ?_
      rintro e w5 ⟨rfl, hw5⟩
      have hb := bel_step hb hw5
      go_wp2
      go_ret
      exact ⟨rfl, hb⟩
end Go.Proofs.Ytgdaipgmlibpiaa
