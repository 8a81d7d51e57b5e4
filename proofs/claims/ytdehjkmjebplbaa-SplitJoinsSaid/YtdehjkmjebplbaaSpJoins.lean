/-
  conchlaw7.SplitJoins returns true at any three texts.
-/
import Derived.Test.YtdehjkmjebplbaaSpWhole
namespace Go.Proofs.Ytdehjkmjebplbaa
open Go.RowKit

/-- a row that was made: none, or a block's first cells -/
def RowIn (w : World) (x : Value) (xs : List (List UInt8)) : Prop :=
  (x = .slice none 0 0 ∧ xs = []) ∨ ∃ g cap, x = .slice (some ⟨g, 0, none⟩) xs.length cap ∧ ∀ (j : Nat) (y : List UInt8), xs[j]? = some y → w.cell? ⟨g, j, none⟩ = some (strV y)
theorem RowIn.of_owns {w : World} {base : Nat} {v : Value} {xs : List (List UInt8)} (h : w.ownsRow base 9 1 v xs.length (xs.map strV)) : RowIn w v xs := by
  rcases id h.2 with ⟨h1, h2⟩ | ⟨g, cap, cur, h1, h2, h3, h4, h5, h6, h7⟩
  · exact .inl ⟨h1, List.eq_nil_of_length_eq_zero h2⟩
  · refine .inr ⟨g, cap, h1, fun j y hj => ?_⟩
    have hl : j < xs.length := (List.getElem?_eq_some_iff.1 hj).1
    have ho : w.ownsRow base 9 1 (.slice (some ⟨g, 0, none⟩) xs.length cap) xs.length (xs.map strV) := h1 ▸ h
    rw [ho.cellAt j (by omega), List.getElem?_map, hj]; rfl
theorem RowIn.after {w w' : World} {v : Value} {xs : List (List UInt8)} (h : RowIn w v xs) (hb : Below w.heap.size w w') : RowIn w' v xs := by
  rcases h with h | ⟨g, cap, h1, h2⟩
  · exact .inl h
  · refine .inr ⟨g, cap, h1, fun j y hj => ?_⟩
    have c := h2 j y hj
    have hq := hb.block g (World.block_lt_of_cell? w _ c)
    rw [← c]
    simp only [World.cell?, hq]
theorem append_row {w : World} {base : Nat} {v : Value} {L : List (List UInt8)} (hown : w.ownsRow base 9 1 v L.length (L.map strV)) {x : Value} {xs : List (List UInt8)} (hx : RowIn w x xs) (hn : L.length + xs.length ≤ 100000) (hbase : base ≤ w.heap.size) :
    ∃ v' w', (Builtin.append_ #[26, 26] 26 #[v, x]).run Try.prog w = .ok v' w' ∧ w'.ownsRow base 9 1 v' (L ++ xs).length ((L ++ xs).map strV) ∧ Below base w w' := by
  obtain ⟨i0, hi, hz0, hz1, hz2⟩ := info_parts info_str
  rcases hx with ⟨rfl, rfl⟩ | ⟨g, cap, rfl, hc⟩
  · refine ⟨v, w, run_append_owned_none (P := Try.prog) (w := w) base 26 26 9 i0 1 Try.underlying26 hi v _ _ hown, ?_, Below.refl _ _⟩
    rw [List.append_nil]
    exact hown
  · obtain ⟨v', w', h1, h2, h3, _⟩ := run_append_own (P := Try.prog) w base 26 26 9 i0 (.string ByteArray.empty) 1 16 Try.underlying26 hi hz0 hz1 hz2 rfl (by decide) v _ _ hown ⟨g, 0, none⟩ xs.length cap (xs.map strV) (by simp) (fun j u hj => by
      rw [List.getElem?_map] at hj
      cases hq : xs[j]? with
      | none => rw [hq] at hj; cases hj
      | some y =>
        rw [hq] at hj
        injection hj with hj
        have := hc j y hq
        rw [← hj, ← this]
        have hadd : (⟨g, 0, none⟩ : Addr).add j = ⟨g, j, none⟩ := by unfold Addr.add; split <;> simp_all
        rw [hadd]) (fun u hu => by
      obtain ⟨y, _, rfl⟩ := List.mem_map.1 hu
      rfl) (by unfold maxLen; omega) (by omega) hbase
    refine ⟨v', w', h1, ?_, (Below.refl base w).grown h3 hbase (fun k hk => (hown.lt k hk).1)⟩
    rw [List.length_append, List.map_append]
    exact h2
theorem wpList_append_run {P : Program} {ops : Array Oper} {rest : List Oper} {o : Oper} {a : Act} {w : World} {Q : Exit → Act → World → Prop} (hw : Region.wanted o (yielded ops a.tmps) = true) (s x : Operand) (t : TypeId)
    (ho : o.op = .call { callee := .builtin .append, args := #[s, x], argTypes := #[t, t] }) (v xv v' : Value) (w' : World) (hs : a.eval s = v) (hx : a.eval x = xv)
    (hr : (Builtin.append_ #[t, t] o.type #[v, xv]).run P w = .ok v' w') (h : wpList P ops Q rest (a.put o.dst v') w') : wpList P ops Q (o :: rest) a w := by
  simp only [wpList, hw, if_true]
  unfold Oper.wp execOp
  simp only [ho, resolve, invoke, builtin, Sem.run_bind, Sem.run_pure, Result.andThen_ok, List.map_toArray, List.map_cons, List.map_nil, hs, hx, hr]
  exact .inl h
theorem fgo_count {p : Nat → Bool} : ∀ (l cur : List UInt8), (fgo p l cur).length ≤ cur.length + l.length
  | [], cur => by
    cases cur with
    | nil => simp [fgo]
    | cons _ _ => simp [fgo]
  | c :: l, cur => by
    cases hd : p c.toNat with
    | false =>
      rw [fgo_other hd]
      have := fgo_count (p := p) l (cur ++ [c])
      simp at this ⊢
      omega
    | true =>
      have h0 := fgo_count (p := p) l []
      cases hc : cur.isEmpty with
      | true => rw [fgo_skip hd hc]; simp at h0 ⊢; omega
      | false =>
        rw [fgo_part hd hc]
        cases cur with
        | nil => simp at hc
        | cons _ _ => simp at h0 ⊢; omega

def joinT (c : UInt8) (xs : List (List UInt8)) : List UInt8 := xs.flatMap fun x => c :: (x ++ [c])
theorem join_step (c : UInt8) (fs : List (List UInt8)) (j : Nat) (x : List UInt8) (h : fs[j]? = some x) (T BY X : ByteArray) (hT : T.data.toList = joinT c (fs.take j)) (hB : BY.data.toList = [c]) (hX : X.data.toList = x) : (T ++ BY ++ X ++ BY).data.toList = joinT c (fs.take (j + 1)) := by
  rw [List.take_add_one, h]
  simp only [ByteArray.data_append, Array.toList_append, hT, hB, hX, joinT, Option.toList, List.flatMap_append, List.flatMap_cons, List.flatMap_nil]
  simp
theorem join_all {p : Nat → Bool} (l : List UInt8) (c : UInt8) (hc : inP p c = true) : fgo p (joinT c (fgo p l [])) [] = fgo p l [] := joined c hc _ (fun x hx => fgo_mem l [] (fun b hb => by cases hb) x hx)
theorem first_byte (t : ByteArray) (h : 0 < t.size) : (t.extract 0 1).data.toList = [t[0]] := by
  rw [extract_bytes]
  show (t.data.toList.drop 0).take 1 = _
  rw [drop_cons t 0 h]
  rfl
theorem first_in (t : ByteArray) (h : 0 < t.size) : inP (ofS t.data.toList) t[0] = true := by
  unfold inP
  rw [ofS_iff]
  have h0 := drop_cons t 0 h
  rw [List.drop_zero] at h0
  exact ⟨t[0], by rw [h0]; simp, rfl⟩
theorem joins_two (a b t : List UInt8) (c : UInt8) (hc : inP (ofS t) c = true) : fieldsOf (a ++ [c] ++ b) t = fieldsOf a t ++ fieldsOf b t := by
  unfold fieldsOf
  rw [List.append_assoc, List.singleton_append]
  exact fgo_split a [] c b hc

set_option maxHeartbeats 8000000 in
set_option maxRecDepth 100000 in
theorem SplitJoins_walk (a b t : ByteArray) (w : World) (ha : a.size ≤ maxLen) (hb : b.size ≤ maxLen) (ht : t.size ≤ maxLen) :
    Calls Try.prog 6 #[.string a, .string b, .string t] w (Gives w (.bool true)) := by
  by_cases h1 : 200 < a.size
  · unfold maxLen at ha hb ht
    have d1 : decide (200 < a.size) = true := decide_eq_true h1
    go_enter Try.func6, Try.ntmps6
    go_wp2_with fail
    refine (awake7_is _).mono ?_
    rintro e w2 ⟨rfl, hb2⟩
    go_wp2
    go_ret
    exact ⟨rfl, hb2⟩
  have d1 : decide (200 < a.size) = false := decide_eq_false h1
  by_cases h2 : 200 < b.size
  · unfold maxLen at ha hb ht
    have d2 : decide (200 < b.size) = true := decide_eq_true h2
    go_enter Try.func6, Try.ntmps6
    go_wp2_with fail
    refine (awake7_is _).mono ?_
    rintro e w2 ⟨rfl, hb2⟩
    go_wp2
    go_ret
    exact ⟨rfl, hb2⟩
  have d2 : decide (200 < b.size) = false := decide_eq_false h2
  by_cases h3 : t.size = 0
  · have he := emp_of_size h3
    subst he
    clear h3
    unfold maxLen at ha hb
    go_enter Try.func6, Try.ntmps6
    go_wp2_with fail
    refine (awake7_is _).mono ?_
    rintro e w2 ⟨rfl, hb2⟩
    go_wp2
    go_ret
    exact ⟨rfl, hb2⟩
  have d3 : ((t.size : Int) == 0) = false := by rw [beq_eq_false_iff_ne]; omega
  by_cases h4 : 60 < t.size
  · unfold maxLen at ha hb ht
    have d4 : decide (60 < t.size) = true := decide_eq_true h4
    go_enter Try.func6, Try.ntmps6
    go_wp2_with fail
    refine (awake7_is _).mono ?_
    rintro e w2 ⟨rfl, hb2⟩
    go_wp2
    go_ret
    exact ⟨rfl, hb2⟩
  have d4 : decide (60 < t.size) = false := decide_eq_false h4
  have ha1 : a.size ≤ 200 := by omega
  have hb1 : b.size ≤ 200 := by omega
  have ht1 : t.size ≤ 60 := by omega
  have hp : 0 < t.size := by omega
  have hpi : (1 : Int) ≤ (t.size : Int) := by omega
  clear ha hb ht h1 h2 h3 h4
  have HC := Lib.hid (first_in t hp)
  obtain ⟨BY, hBY⟩ : ∃ BY, t.extract 0 1 = BY := ⟨_, rfl⟩
  have HBd : Hid (BY.data.toList = [t[0]]) := Lib.hid (by rw [← hBY]; exact first_byte t hp)
  have hBs : BY.size ≤ 1 := by
    have h := HBd.out
    have h2 := congrArg List.length h
    simp at h2
    omega
  have HBY := Lib.hid hBY
  clear hBY
  generalize t[0] = c at *
  have F1 := Lib.hid (splitFields_is a t (by omega) (by omega))
  have F2 := Lib.hid (splitFields_is b t (by omega) (by omega))
  have F4 := Lib.hid (Fields_at (a ++ BY ++ b) t (fieldsOf a.data.toList t.data.toList ++ fieldsOf b.data.toList t.data.toList) (by rw [ByteArray.size_append, ByteArray.size_append]; omega) (by omega) (by
    rw [ByteArray.data_append, ByteArray.data_append, Array.toList_append, Array.toList_append, HBd.out]
    exact joins_two _ _ _ c HC.out))
  obtain ⟨R, hR⟩ : ∃ R : ByteArray, trimP (ofS t.data.toList) a.data.toList = R.data.toList := ⟨⟨(trimP (ofS t.data.toList) a.data.toList).toArray⟩, rfl⟩
  have hRs : R.size ≤ a.size := by
    have h1 := trimP_len (p := ofS t.data.toList) a.data.toList
    rw [hR] at h1
    simpa using h1
  have G1 := Lib.hid (Trim_at a t R (by omega) (by omega) hR)
  have F5 := Lib.hid (Fields_at R t (fieldsOf a.data.toList t.data.toList) (by omega) (by omega) (by rw [← hR]; exact fields_trim _))
  have F3 : Hid (∀ T : ByteArray, T.size ≤ 1048576 → T.data.toList = joinT c (fieldsOf a.data.toList t.data.toList) → ∀ w, Calls Try.prog 11 #[.string T, .string t] w (LinesLeft w (fieldsOf a.data.toList t.data.toList))) := Lib.hid fun T hT he => Fields_at T t _ hT (by omega) (by rw [he]; exact join_all _ c HC.out)
  have hcx : (fieldsOf a.data.toList t.data.toList).length ≤ 200 := by
    have := fgo_count (p := ofS t.data.toList) a.data.toList []
    simp at this
    exact Nat.le_trans this ha1
  have hcy : (fieldsOf b.data.toList t.data.toList).length ≤ 200 := by
    have := fgo_count (p := ofS t.data.toList) b.data.toList []
    simp at this
    exact Nat.le_trans this hb1
  have HM : Hid (∀ f ∈ fieldsOf a.data.toList t.data.toList, f.length ≤ 200) := Lib.hid fun f hf => by
    have := (field_whole hf).2
    simp at this
    omega
  clear hR hp HC
  generalize fieldsOf a.data.toList t.data.toList = xs at *
  generalize fieldsOf b.data.toList t.data.toList = ys at *
  go_enter Try.func6, Try.ntmps6
  go_wp2_with fail
  rw [HBY.out]
  clear HBY
  refine (F1.out _).mono ?_
  rintro e w1 ⟨vx, rfl, hownx, hb1'⟩
  have hX1 := RowIn.of_owns hownx
  have hS1 := StrRow.of_owns hownx
  clear hownx F1
  go_wp2_with fail
  refine (F2.out _).mono ?_
  rintro e w2 ⟨vy, rfl, howny, hb2'⟩
  have hX2 := hX1.after hb2'
  have hS2 := hS1.after hb2'
  have HY2 := Lib.hid (RowIn.of_owns howny)
  have hbw := bel_step hb1' hb2'
  clear howny F2 hX1 hS1 hb1' hb2'
  obtain ⟨ao, cap, rfl, _, hrow⟩ := id hS2
  clear hrow
  obtain ⟨NF, hNF⟩ : ∃ NF, xs.length = NF := ⟨_, rfl⟩
  have HNF := Lib.hid hNF
  rw [hNF] at hX2 hS2 hcx
  simp only [hNF]
  clear hNF
  have HX2 := Lib.hid hX2
  have HS2 := Lib.hid hS2
  clear hX2 hS2
  go_wp2
  go_loop [10, 11] (fun x i => ∃ (T : ByteArray) (j : Nat), j ≤ NF ∧ T.size ≤ 202 * j ∧ x = .string T ∧ i = .int .i64 (j : Int) ∧ Hid (T.data.toList = joinT c (xs.take j))) (fun _ i => NF - (intOf i).toNat)
  case atStart => exact ⟨⟨#[]⟩, 0, Nat.zero_le _, Nat.le_refl _, rfl, rfl, Lib.hid rfl⟩
  case round =>
    obtain ⟨T, j, hj, hTs, rfl, rfl, HT⟩ := hrel
    by_cases hjn : j < NF
    · have hji : (j : Int) < (NF : Int) := by omega
      have hj0 : (0 : Int) ≤ (j : Int) := by omega
      obtain ⟨x, hx⟩ : ∃ x, xs[j]? = some x := ⟨_, List.getElem?_eq_getElem (by have := HNF.out; omega)⟩
      obtain ⟨ao', cap', he', _, hrow⟩ := HS2.out
      obtain ⟨g, hg, hcell⟩ := hrow (by have := HNF.out; omega)
      injection he' with he1 he2 he3
      rw [← he1] at hg
      subst hg
      have c0 := hcell j x hx
      unfold strV at c0
      have hxl := HM.out x (List.mem_of_getElem? hx)
      obtain ⟨X, hX⟩ : ∃ X : ByteArray, (⟨x.toArray⟩ : ByteArray) = X := ⟨_, rfl⟩
      rw [hX] at c0
      have hXd : X.data.toList = x := by rw [← hX]
      have hXs : X.size ≤ 200 := by rw [← hX]; exact hxl
      have HT2 := Lib.hid (join_step c xs j x hx T BY X HT.out HBd.out hXd)
      have hTm : T.size ≤ 100000 := by omega
      have hTm2 : (T ++ BY).size ≤ 100001 := by rw [ByteArray.size_append]; omega
      have hTm3 : (T ++ BY ++ X).size ≤ 100201 := by rw [ByteArray.size_append, ByteArray.size_append]; omega
      have HTm4 : Hid ((T ++ BY ++ X ++ BY).size ≤ 202 * (j + 1)) := Lib.hid (by rw [ByteArray.size_append, ByteArray.size_append, ByteArray.size_append]; omega)
      clear hcell hrow hxl hX hXd hx he1 he2 he3
      go_wp2
      go_round
      case rel => exact ⟨_, j + 1, by omega, HTm4.out, rfl, by go_num, HT2⟩
      case measure => simp [intOf]; omega
    · have hji : decide ((j : Int) < (NF : Int)) = false := decide_eq_false (by omega)
      have hji2 : decide (j < NF) = false := decide_eq_false hjn
      have F6 := Lib.hid (F3.out T (by omega) (by rw [HT.out, List.take_of_length_le (by have := HNF.out; omega)]))
      have hm1 : (a ++ BY).size ≤ 1000 := by rw [ByteArray.size_append]; omega
      clear F3 HT HM
      go_wp2_with fail
      refine (F6.out _).mono ?_
      rintro e w3 ⟨v3, rfl, hown3, hb3⟩
      have HR3 := Lib.hid (StrRow.of_owns hown3)
      have hS3 := HS2.out.after hb3
      have hX3 := HX2.out.after hb3
      have hY3 := HY2.out.after hb3
      have hbw3 := bel_step hbw hb3
      clear hown3 hb3 hbw HS2 HX2 HY2 F6
      go_wp2_with fail
      refine (SameTexts_yes _ _ xs _ HR3.out hS3).mono ?_
      rintro e w4 ⟨rfl, hb4⟩
      have hS4 := hS3.after hb4
      have hX4 := hX3.after hb4
      have hY4 := hY3.after hb4
      have hbw4 := bel_step hbw3 hb4
      clear hb4 hbw3 hS3 hX3 hY3 HR3
      go_wp2_with fail
      refine (F4.out _).mono ?_
      rintro e w5 ⟨v5, rfl, hown5, hb5⟩
      have hR5 := StrRow.of_owns hown5
      have hS5 := hS4.after hb5
      have hX5 := hX4.after hb5
      have hY5 := hY4.after hb5
      have hbw5 := bel_step hbw4 hb5
      clear hb5 hbw4 hS4 hX4 hY4 hown5 F4
      have hba := bel_alloc (Below.refl w5.heap.size w5) (.cells #[] 9)
      have hX6 := hX5.after hba
      obtain ⟨v7, w7, r7, hown7, hb7⟩ := append_row (base := w5.heap.size) (L := []) (World.ownsRow_lit w5 #[] 0 (Nat.le_refl _) (Nat.zero_le _) rfl) hX6 (by have := HNF.out; simp; omega) (by simp)
      have hb7' : Below w5.heap.size w5 w7 := hba.trans hb7
      have hY7 := hY5.after hb7'
      obtain ⟨v8, w8, r8, hown8, hb8⟩ := append_row hown7 hY7 (by have := HNF.out; simp; omega) hb7'.size
      have hb8' : Below w5.heap.size w5 w8 := hb7'.trans hb8
      have hR8 := hR5.after hb8'
      have hS8 := hS5.after hb8'
      have hA8 := StrRow.of_owns hown8
      rw [List.nil_append] at hA8
      have hbw8 := bel_step hbw5 hb8'
      have HR8 := Lib.hid hR8
      have HA8 := Lib.hid hA8
      have HS8 := Lib.hid hS8
      clear hR5 hS5 hX5 hY5 hbw5 hX6 hown7 hb7 hb7' hY7 hown8 hb8 hb8' hba hR8 hS8 hA8
      have HR7 := Lib.hid r7
      have HRR8 := Lib.hid r8
      clear r7 r8
      go_wp2_with (at_builtin; first | (refine wpList_append_run rfl _ _ 26 rfl _ _ _ _ rfl rfl HR7.out ?_) | (refine wpList_append_run rfl _ _ 26 rfl _ _ _ _ rfl rfl HRR8.out ?_))
      refine (SameTexts_yes _ _ (xs ++ ys) _ HR8.out HA8.out).mono ?_
      rintro e w9 ⟨rfl, hb9⟩
      have HS9 := Lib.hid (HS8.out.after hb9)
      have hbw9 := bel_step hbw8 hb9
      clear hb9 hbw8 HS8 HR8 HA8 HR7 HRR8
      go_wp2_with fail
      refine (G1.out _).mono ?_
      rintro e w10 ⟨rfl, hb10⟩
      have HS10 := Lib.hid (HS9.out.after hb10)
      have hbw10 := bel_step hbw9 hb10
      clear hb10 hbw9 HS9 G1
      go_wp2_with fail
      refine (F5.out _).mono ?_
      rintro e w11 ⟨v11, rfl, hown11, hb11⟩
      have HR11 := Lib.hid (StrRow.of_owns hown11)
      have HS11 := Lib.hid (HS10.out.after hb11)
      have hbw11 := bel_step hbw10 hb11
      clear hb11 hbw10 HS10 F5 hown11
      go_wp2_with fail
      refine (SameTexts_yes _ _ xs _ HR11.out HS11.out).mono ?_
      rintro e w12 ⟨rfl, hb12⟩
      have hbw12 := bel_step hbw11 hb12
      clear hb12 hbw11 HR11 HS11
      go_wp2_with fail
      refine (awake7_is _).mono ?_
      rintro e w13 ⟨rfl, hb13⟩
      have hbw13 := bel_step hbw12 hb13
      clear hb13 hbw12
      go_wp2
      go_ret
      exact ⟨rfl, hbw13⟩
end Go.Proofs.Ytdehjkmjebplbaa
