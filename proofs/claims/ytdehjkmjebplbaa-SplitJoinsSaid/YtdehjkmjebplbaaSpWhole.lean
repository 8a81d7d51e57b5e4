/-
  conchlaw7.SplitWhole returns true at any two texts.
-/
import Derived.Test.YtdehjkmjebplbaaSpTells
namespace Go.Proofs.Ytdehjkmjebplbaa
open Go.RowKit

/-- has it such a byte? -/
def someB (p : Nat → Bool) (l : List UInt8) : Bool := l.any (inP p)
theorem someB_snoc (p : Nat → Bool) (l : List UInt8) (c : UInt8) : someB p (l ++ [c]) = (someB p l || inP p c) := by simp [someB]
theorem whole_some (l t : List UInt8) (h : l.isEmpty = false) : wholeB l t = !someB (ofS t) l := by
  have := whole_iff (p := ofS t) l
  unfold wholeB fieldsOf someB
  rw [this, h, Bool.not_false, Bool.true_and, List.all_eq_not_any_not]
  congr 2
  funext c
  simp
theorem fgo_len {p : Nat → Bool} : ∀ (l cur : List UInt8), ∀ f ∈ fgo p l cur, f.length ≤ cur.length + l.length
  | [], cur, f, hf => by
    cases hc : cur.isEmpty with
    | true => simp [fgo, hc] at hf
    | false =>
      simp only [fgo, hc, Bool.false_eq_true, if_false, List.mem_singleton] at hf
      subst hf
      simp
  | c :: l, cur, f, hf => by
    cases hd : p c.toNat with
    | false =>
      rw [fgo_other hd] at hf
      have := fgo_len l (cur ++ [c]) f hf
      simp at this ⊢
      omega
    | true =>
      cases hc : cur.isEmpty with
      | true =>
        rw [fgo_skip hd hc] at hf
        have := fgo_len l [] f hf
        simp at this ⊢
        omega
      | false =>
        rw [fgo_part hd hc] at hf
        rcases List.mem_cons.1 hf with h1 | h1
        · subst h1; simp
        · have := fgo_len l [] f h1
          simp at this ⊢
          omega
theorem field_whole {s t f : List UInt8} (h : f ∈ fieldsOf s t) : wholeB f t = true ∧ f.length ≤ s.length := by
  have h1 := fgo_mem (p := ofS t) s [] (fun b hb => by cases hb) f h
  have h2 := fgo_len (p := ofS t) s [] f h
  exact ⟨whole_of h1.1 (fun b hb => h1.2 b hb), by simpa using h2⟩
theorem some_row {t : List UInt8} {q : Nat} {c : UInt8} {A : Bool} (hq : t[q]? = some c) {d : UInt8} : (A || ofS (t.take (q + 1)) d.toNat) = ((A || ofS (t.take q) d.toNat) || decide (d.toNat = c.toNat)) := by
  rw [List.take_add_one, hq]
  show (A || ofS (t.take q ++ [c]) d.toNat) = _
  rw [ofS_snoc]
  unfold putS
  rw [Bool.or_assoc]

set_option maxHeartbeats 8000000 in
set_option maxRecDepth 100000 in
theorem SplitWhole_walk (s t : ByteArray) (w : World) (hs : s.size ≤ maxLen) (ht : t.size ≤ maxLen) :
    Calls Try.prog 5 #[.string s, .string t] w (Gives w (.bool true)) := by
  by_cases hl : 300 < s.size
  · unfold maxLen at hs ht
    have hl2 : decide (300 < s.size) = true := decide_eq_true hl
    go_enter Try.func5, Try.ntmps5
    go_wp2_with fail
    refine (awake7_is _).mono ?_
    rintro e w2 ⟨rfl, hb2⟩
    go_wp2
    go_ret
    exact ⟨rfl, hb2⟩
  by_cases hm : 60 < t.size
  · unfold maxLen at hs ht
    have hl2 : decide (300 < s.size) = false := decide_eq_false hl
    have hm2 : decide (60 < t.size) = true := decide_eq_true hm
    go_enter Try.func5, Try.ntmps5
    go_wp2_with fail
    refine (awake7_is _).mono ?_
    rintro e w2 ⟨rfl, hb2⟩
    go_wp2
    go_ret
    exact ⟨rfl, hb2⟩
  have hl2 : decide (300 < s.size) = false := decide_eq_false hl
  have hm2 : decide (60 < t.size) = false := decide_eq_false hm
  have hl1 : s.size ≤ 300 := by omega
  have hm1 : t.size ≤ 60 := by omega
  clear hs ht hl hm
  go_enter Try.func5, Try.ntmps5
  go_wp2
  go_loopw [0, 1, 5] (fun x y i wr => ∃ (u v : ByteArray) (k : Nat), k ≤ 2 ∧ u.size ≤ 300 ∧ v.size ≤ 60 ∧ x = .string u ∧ y = .string v ∧ i = .int .i64 (k : Int) ∧ Below w.heap.size w wr) (fun _ _ i _ => 2 - (intOf i).toNat)
  case atStart => exact ⟨s, t, 0, by omega, hl1, hm1, rfl, rfl, rfl, Below.refl _ _⟩
  case round =>
    clear hl1 hm1 hl2 hm2
    obtain ⟨u, v, r, hr, hu, hv, rfl, rfl, rfl, hb⟩ := hrel
    by_cases hr2 : r < 2
    · have hri : (r : Int) < 2 := by omega
      have F1 := Lib.hid (splitFields_is u v (by omega) (by omega))
      have G1 := Lib.hid (splitWhole_is u v (by omega) (by omega))
      have T1 := Lib.hid (tame7_is u (by omega))
      have hT9 := tame7_size u
      generalize tame7 u = T at *
      go_wp2
      go_loopw [6, 7] (fun b i wr => ∃ k : Nat, k ≤ u.size ∧ b = .bool (someB (ofS v.data.toList) (u.data.toList.take k)) ∧ i = .int .i64 (k : Int) ∧ Below w.heap.size w wr) (fun _ i _ => u.size - (intOf i).toNat)
      case atStart => exact ⟨0, Nat.zero_le _, rfl, rfl, hb⟩
      case round =>
        clear hb
        obtain ⟨k, hk, rfl, rfl, hb⟩ := hrel
        by_cases hku : k < u.size
        · have hki : (k : Int) < (u.size : Int) := by omega
          have hk0 : (0 : Int) ≤ (k : Int) := by omega
          have HS : Hid (someB (ofS v.data.toList) (u.data.toList.take (k + 1)) = (someB (ofS v.data.toList) (u.data.toList.take k) || ofS v.data.toList u[k].toNat)) := Lib.hid (by rw [byte_snoc u k hku, someB_snoc]; rfl)
          generalize someB (ofS v.data.toList) (u.data.toList.take k) = A at *
          go_wp2
          go_loopw [6, 8] (fun b i wr => ∃ q : Nat, q ≤ v.size ∧ b = .bool (A || ofS (v.data.toList.take q) u[k].toNat) ∧ i = .int .i64 (q : Int) ∧ Below w.heap.size w wr) (fun _ i _ => v.size - (intOf i).toNat)
          case atStart => exact ⟨0, Nat.zero_le _, by simp [ofS], rfl, hb⟩
          case round =>
            clear hb
            obtain ⟨q, hq, rfl, rfl, hb⟩ := hrel
            by_cases hqv : q < v.size
            · have hqi : (q : Int) < (v.size : Int) := by omega
              have hq0 : (0 : Int) ≤ (q : Int) := by omega
              have HQ : Hid ((A || ofS (v.data.toList.take (q + 1)) u[k].toNat) = ((A || ofS (v.data.toList.take q) u[k].toNat) || decide (u[k].toNat = v[q].toNat))) := Lib.hid (some_row (List.getElem?_eq_getElem (by simpa using hqv)))
              generalize (A || ofS (v.data.toList.take q) u[k].toNat) = B at *
              have HB : Hid (((u[k].toNat : Int) == (v[q].toNat : Int)) = decide (u[k].toNat = v[q].toNat)) := Lib.hid (by rw [Bool.eq_iff_iff, decide_eq_true_eq, beq_iff_eq]; omega)
              rw [← HB.out] at HQ
              clear HB
              cases B with
              | true =>
                go_wp2
                go_quiet (fail)
                go_wp2
                go_roundw
                case rel => exact ⟨q + 1, by omega, by rw [HQ.out]; rfl, by go_num, bel_drewN hb _⟩
                case measure => simp [intOf]; omega
              | false =>
                go_wp2
                go_quiet (fail)
                go_wp2
                go_roundw
                case rel => exact ⟨q + 1, by omega, by rw [HQ.out]; rfl, by go_num, bel_drewN hb _⟩
                case measure => simp [intOf]; omega
            · have hqi : decide ((q : Int) < (v.size : Int)) = false := decide_eq_false (by omega)
              have hqi2 : decide (q < v.size) = false := decide_eq_false hqv
              have HV : Hid (v.data.toList.take q = v.data.toList) := Lib.hid (List.take_of_length_le (by simp; omega))
              rw [HV.out]
              rw [← HS.out]
              clear HV
              clear HS
              obtain ⟨B, hB⟩ : ∃ B, someB (ofS v.data.toList) (u.data.toList.take (k + 1)) = B := ⟨_, rfl⟩
              have HB2 := Lib.hid hB
              rw [hB]
              clear hB
              go_wp2
              go_roundw
              case rel => exact ⟨k + 1, by omega, by rw [HB2.out], by go_num, hb⟩
              case measure => simp [intOf]; omega
        · have hki : decide ((k : Int) < (u.size : Int)) = false := decide_eq_false (by omega)
          have hki2 : decide (k < u.size) = false := decide_eq_false hku
          have HV : Hid (u.data.toList.take k = u.data.toList) := Lib.hid (List.take_of_length_le (by simp; omega))
          rw [HV.out]
          clear HV
          have HM : Hid (∀ f ∈ fieldsOf u.data.toList v.data.toList, wholeB f v.data.toList = true ∧ f.length ≤ 300) := Lib.hid fun f hf => ⟨(field_whole hf).1, by have := (field_whole hf).2; simp at this; omega⟩
          by_cases hz : u.size = 0
          · have he := emp_of_size hz
            subst he
            have HW : Hid (wholeB (⟨#[]⟩ : ByteArray).data.toList v.data.toList = false) := Lib.hid rfl
            rw [HW.out] at G1
            clear HW hz
            rw [show someB (ofS v.data.toList) (⟨#[]⟩ : ByteArray).data.toList = false from rfl]
            generalize fieldsOf (⟨#[]⟩ : ByteArray).data.toList v.data.toList = fs at *
            go_wp2_with fail
            refine (G1.out _).mono ?_
            rintro e w1 ⟨rfl, hb1⟩
            have hb2 := bel_step hb hb1
            clear hb hb1 G1
            go_wp2_with fail
            refine (F1.out _).mono ?_
            rintro e w2 ⟨v2, rfl, hown, hb3⟩
            have hR := StrRow.of_owns hown
            have hb4 := bel_step hb2 hb3
            clear hb2 hb3 hown F1
            obtain ⟨ao, cap, rfl, hlen, hrow⟩ := id hR
            unfold maxLen at hlen
            clear hrow
            obtain ⟨NF, hNF⟩ : ∃ NF, fs.length = NF := ⟨_, rfl⟩
            have HNF := Lib.hid hNF
            rw [hNF] at hR hlen
            simp only [hNF]
            clear hNF
            go_wp2
            go_loopw [10] (fun i wr => ∃ j : Nat, j ≤ NF ∧ i = .int .i64 (j : Int) ∧ StrRow wr (.slice ao NF cap) fs ∧ Below w.heap.size w wr) (fun i _ => NF - (intOf i).toNat)
            case atStart => exact ⟨0, Nat.zero_le _, rfl, hR, hb4⟩
            case round =>
              clear hR hb4
              obtain ⟨j, hj, rfl, hR, hb⟩ := hrel
              by_cases hjn : j < NF
              · have hji : (j : Int) < (NF : Int) := by omega
                have hj0 : (0 : Int) ≤ (j : Int) := by omega
                obtain ⟨x, hx⟩ : ∃ x, fs[j]? = some x := ⟨_, List.getElem?_eq_getElem (by have := HNF.out; omega)⟩
                obtain ⟨ao', cap', he', _, hrow⟩ := id hR
                obtain ⟨g, hg, hcell⟩ := hrow (by have := HNF.out; omega)
                injection he' with he1 he2 he3
                rw [← he1] at hg
                subst hg
                have c0 := hcell j x hx
                unfold strV at c0
                have hxw := HM.out x (List.mem_of_getElem? hx)
                obtain ⟨X, hX⟩ : ∃ X : ByteArray, (⟨x.toArray⟩ : ByteArray) = X := ⟨_, rfl⟩
                rw [hX] at c0
                have hXd : X.data.toList = x := by rw [← hX]
                have hXs : X.size ≤ 300 := by rw [← hX]; exact hxw.2
                have W1 := Lib.hid (Whole_at X v true (by omega) (by omega) (by rw [hXd]; exact hxw.1))
                clear hcell hrow hxw hX hXd hx he1 he2 he3
                go_wp2_with fail
                refine (W1.out _).mono ?_
                rintro e w3 ⟨rfl, hb5⟩
                have hR2 := hR.after hb5
                have hb6 := bel_step hb hb5
                clear hb hb5 hR c0 W1
                go_wp2
                go_roundw
                case rel => exact ⟨j + 1, by omega, by go_num, hR2, hb6⟩
                case measure => simp [intOf]; omega
              · have hji : decide ((j : Int) < (NF : Int)) = false := decide_eq_false (by omega)
                have hji2 : decide (j < NF) = false := decide_eq_false hjn
                go_wp2_with fail
                refine (T1.out _).mono ?_
                rintro e w3 ⟨rfl, rfl⟩
                clear T1 hR
                go_wp2
                go_roundw
                case rel => exact ⟨T, ⟨#[32, 58]⟩, r + 1, by omega, by omega, by decide, rfl, rfl, by go_num, hb⟩
                case measure => simp [intOf]; omega
          · have hp : 0 < u.size := by omega
            have he := emp_false hp
            have HE : Hid (u.data.toList.isEmpty = false) := Lib.hid (by rw [← toList_data]; exact he)
            rw [whole_some _ _ HE.out] at G1
            generalize someB (ofS v.data.toList) u.data.toList = B at *
            clear hz
            generalize fieldsOf u.data.toList v.data.toList = fs at *
            go_wp2_with fail
            refine (G1.out _).mono ?_
            rintro e w1 ⟨rfl, hb1⟩
            have hb2 := bel_step hb hb1
            clear hb hb1 G1
            go_wp2_with fail
            refine (F1.out _).mono ?_
            rintro e w2 ⟨v2, rfl, hown, hb3⟩
            have hR := StrRow.of_owns hown
            have hb4 := bel_step hb2 hb3
            clear hb2 hb3 hown F1
            obtain ⟨ao, cap, rfl, hlen, hrow⟩ := id hR
            unfold maxLen at hlen
            clear hrow
            obtain ⟨NF, hNF⟩ : ∃ NF, fs.length = NF := ⟨_, rfl⟩
            have HNF := Lib.hid hNF
            rw [hNF] at hR hlen
            simp only [hNF]
            clear hNF
            go_wp2
            go_loopw [10] (fun i wr => ∃ j : Nat, j ≤ NF ∧ i = .int .i64 (j : Int) ∧ StrRow wr (.slice ao NF cap) fs ∧ Below w.heap.size w wr) (fun i _ => NF - (intOf i).toNat)
            case atStart => exact ⟨0, Nat.zero_le _, rfl, hR, hb4⟩
            case round =>
              clear hR hb4
              obtain ⟨j, hj, rfl, hR, hb⟩ := hrel
              by_cases hjn : j < NF
              · have hji : (j : Int) < (NF : Int) := by omega
                have hj0 : (0 : Int) ≤ (j : Int) := by omega
                obtain ⟨x, hx⟩ : ∃ x, fs[j]? = some x := ⟨_, List.getElem?_eq_getElem (by have := HNF.out; omega)⟩
                obtain ⟨ao', cap', he', _, hrow⟩ := id hR
                obtain ⟨g, hg, hcell⟩ := hrow (by have := HNF.out; omega)
                injection he' with he1 he2 he3
                rw [← he1] at hg
                subst hg
                have c0 := hcell j x hx
                unfold strV at c0
                have hxw := HM.out x (List.mem_of_getElem? hx)
                obtain ⟨X, hX⟩ : ∃ X : ByteArray, (⟨x.toArray⟩ : ByteArray) = X := ⟨_, rfl⟩
                rw [hX] at c0
                have hXd : X.data.toList = x := by rw [← hX]
                have hXs : X.size ≤ 300 := by rw [← hX]; exact hxw.2
                have W1 := Lib.hid (Whole_at X v true (by omega) (by omega) (by rw [hXd]; exact hxw.1))
                clear hcell hrow hxw hX hXd hx he1 he2 he3
                go_wp2_with fail
                refine (W1.out _).mono ?_
                rintro e w3 ⟨rfl, hb5⟩
                have hR2 := hR.after hb5
                have hb6 := bel_step hb hb5
                clear hb hb5 hR c0 W1
                go_wp2
                go_roundw
                case rel => exact ⟨j + 1, by omega, by go_num, hR2, hb6⟩
                case measure => simp [intOf]; omega
              · have hji : decide ((j : Int) < (NF : Int)) = false := decide_eq_false (by omega)
                have hji2 : decide (j < NF) = false := decide_eq_false hjn
                go_wp2_with fail
                refine (T1.out _).mono ?_
                rintro e w3 ⟨rfl, rfl⟩
                clear T1 hR
                go_wp2
                go_roundw
                case rel => exact ⟨T, ⟨#[32, 58]⟩, r + 1, by omega, by omega, by decide, rfl, rfl, by go_num, hb⟩
                case measure => simp [intOf]; omega
    · have hri : decide ((r : Int) < 2) = false := decide_eq_false (by omega)
      have hri2 : decide (r < 2) = false := decide_eq_false hr2
      go_wp2_with fail
      refine (awake7_is _).mono ?_
      rintro e w2 ⟨rfl, hb2⟩
      have hb3 := bel_step hb hb2
      clear hb hb2
      go_wp2
      go_ret
      exact ⟨rfl, hb3⟩
end Go.Proofs.Ytdehjkmjebplbaa
