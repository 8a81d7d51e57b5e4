/-
  conchlaw7.SplitReads returns true at any text, any number.
-/
import Derived.Test.YtdehjkmjebplbaaSpTells
import Derived.Test.YtdehjkmjebplbaaSameOff
import Derived.Test.YtdehjkmjebplbaaHead
namespace Go.Proofs.Ytdehjkmjebplbaa
open Go.RowKit

theorem own_parts {w : World} {base : Nat} {v : Value} {xs : List (List UInt8)} (h : w.ownsRow base 9 1 v xs.length (xs.map strV)) :
    ∃ (ao : Option Addr) (cap : Nat), v = .slice ao xs.length cap ∧ xs.length ≤ cap ∧ cap ≤ maxLen ∧ (0 < xs.length → ∃ g, ao = some ⟨g, 0, none⟩ ∧ ∀ (j : Nat) (x : List UInt8), xs[j]? = some x → w.cell? ⟨g, j, none⟩ = some (strV x)) := by
  rcases id h.2 with ⟨h1, h2⟩ | ⟨g, cap, cur, h1, h2, h3, h4, h5, h6, h7⟩
  · exact ⟨none, 0, by rw [h1, h2], by omega, by unfold maxLen; omega, fun hp => by omega⟩
  · refine ⟨_, cap, h1, h4, h5, fun hp => ⟨g, rfl, fun j x hj => ?_⟩⟩
    have hl : j < xs.length := (List.getElem?_eq_some_iff.1 hj).1
    have ho : w.ownsRow base 9 1 (.slice (some ⟨g, 0, none⟩) xs.length cap) xs.length (xs.map strV) := h1 ▸ h
    rw [ho.cellAt j (by omega), List.getElem?_map, hj]; rfl
theorem wordsP_small {p : Nat → Bool} : ∀ (n : Nat) (l x : List UInt8), x ∈ wordsP p n l → x.length ≤ l.length
  | 0, l, x, h => by
    rw [wordsP, List.mem_singleton] at h
    rw [h]
    exact trimP_len l
  | n + 1, l, x, h => by
    rw [wordsP_next] at h
    have h0 := next_len p l
    rcases List.mem_cons.1 h with h1 | h1
    · rw [h1]; omega
    · have := wordsP_small n _ x h1
      omega
theorem wpOp_want {P : Program} {ops : Array Oper} {Q : Exit → Act → World → Prop} {i : Nat} {o : Oper} {K : Act → World → Prop} {a : Act} {w : World} (hi : ops[i]? = some o) (hg : Region.wanted o (yielded ops a.tmps) = true) (h : o.wp P a w K Q) : wpOp P ops Q i K a w := by
  unfold wpOp
  simp only [hi]
  rw [if_pos hg]
  exact .inl h

set_option maxHeartbeats 8000000 in
set_option maxRecDepth 100000 in
theorem SplitReads_walk (s : ByteArray) (n : Int) (w : World) (hs : s.size ≤ maxLen) :
    Calls Try.prog 7 #[.string s, .int .i64 n] w (Gives w (.bool true)) := by
  by_cases hl : 200 < s.size
  · unfold maxLen at hs
    go_enter Try.func7, Try.ntmps7
    go_wp2_with fail
    refine (awake7_is _).mono ?_
    rintro e w2 ⟨rfl, hb2⟩
    go_wp2
    go_ret
    exact ⟨rfl, hb2⟩
  have hl2 : decide (200 < s.size) = false := decide_eq_false hl
  have hl1 : s.size ≤ 200 := by omega
  clear hs hl
  have T1 := Lib.hid (tame7_is s (by omega))
  have hT9 := tame7_size s
  generalize tame7 s = T at *
  obtain ⟨d1, d2⟩ := and_mask_le n 3 (by decide) 7 (by decide)
  obtain ⟨D, hD⟩ : ∃ D : Nat, bits .and .i64 n 7 = (D : Int) := ⟨(bits .and .i64 n 7).toNat, by omega⟩
  have hD7 : D ≤ 7 := by omega
  clear d1 d2
  obtain ⟨N, hN⟩ : ∃ N, D + 1 = N := ⟨_, rfl⟩
  have EN : (D : Int) + 1 = (N : Int) := by omega
  have ED : (N : Int) - 1 = (D : Int) := by omega
  have HN := Lib.hid hN
  have hwn : wordsN (N : Int) - 1 = D := by unfold wordsN; omega
  clear hN
  have F1 := Lib.hid (Words_at T ⟨#[32, 58]⟩ (N : Int) (wordsP (ofS [32, 58]) D T.data.toList) (by omega) (by decide) (by rw [hwn]))
  have F2 := Lib.hid (splitFields_is T ⟨#[32, 58]⟩ (by omega) (by decide))
  clear hwn
  have HWl : Hid ((wordsP (ofS [32, 58]) D T.data.toList).length = N) := Lib.hid (by rw [words_len]; exact HN.out)
  have HWf : Hid (∀ i, i < D → (wordsP (ofS [32, 58]) D T.data.toList)[i]? = some ((fieldsOf T.data.toList [32, 58]).getD i [])) := Lib.hid fun i hi => words_first D _ i hi
  obtain ⟨x, hx1, hx2, hx3⟩ := words_last (p := ofS [32, 58]) D T.data.toList
  have hxs : x.length ≤ 1000 := by
    have h1 := wordsP_small (p := ofS [32, 58]) D T.data.toList x (List.mem_of_getElem? hx1)
    simp at h1
    omega
  obtain ⟨X, hX⟩ : ∃ X : ByteArray, X.data.toList = x := ⟨⟨x.toArray⟩, rfl⟩
  have hXs : X.size ≤ 1000 := by
    have h1 : X.data.toList.length = x.length := by rw [hX]
    simp at h1
    omega
  have G1 := Lib.hid (Trim_at X ⟨#[32, 58]⟩ X (by omega) (by decide) (by rw [hX]; exact hx2))
  have F3 := Lib.hid (Fields_at X ⟨#[32, 58]⟩ ((fieldsOf T.data.toList [32, 58]).drop D) (by omega) (by decide) (by rw [hX]; exact hx3))
  have HXc : Hid ((wordsP (ofS [32, 58]) D T.data.toList)[D]? = some x) := Lib.hid hx1
  have HXV : Hid (strV x = .string X) := Lib.hid (strV_str X x hX).symm
  clear hX hx1 hx2 hx3 hxs
  rw [show (⟨#[32, 58]⟩ : ByteArray).data.toList = [32, 58] from rfl] at F2
  generalize wordsP (ofS [32, 58]) D T.data.toList = ws at *
  generalize fieldsOf T.data.toList [32, 58] = fs at *
  go_enter Try.func7, Try.ntmps7
  go_wp2_with fail
  refine (T1.out _).mono ?_
  rintro e w0 ⟨rfl, rfl⟩
  clear T1
  go_wp2_with fail
  refine (F1.out _).mono ?_
  rintro e w1 ⟨vl, rfl, hownl, hb1⟩
  have hS1 := StrRow.of_owns hownl
  clear hownl F1
  go_wp2_with fail
  refine (F2.out _).mono ?_
  rintro e w2 ⟨vf, rfl, hownf, hb2⟩
  have hS2 := hS1.after hb2
  have hb3 := bel_step hb1 hb2
  clear hb1 hb2 hS1 F2
  obtain ⟨ao, cap, rfl, hlw, hrow⟩ := hS2
  obtain ⟨g, rfl, hcl⟩ := hrow (by have := HWl.out; have := HN.out; omega)
  obtain ⟨af, cf, rfl, hfc, hfm, hrf⟩ := own_parts hownf
  clear hrow hownf hlw
  have HCL := Lib.hid hcl
  have HRF := Lib.hid hrf
  clear hcl hrf
  obtain ⟨NF, hNF⟩ : ∃ NF, fs.length = NF := ⟨_, rfl⟩
  have HNF := Lib.hid hNF
  rw [hNF] at hfc
  simp only [hNF]
  rw [HWl.out]
  clear hNF
  unfold maxLen at hfm
  have hN1 : N ≤ 8 := by have := HN.out; omega
  go_wp2
  go_loop [7] (fun i => ∃ k : Nat, k ≤ D ∧ i = .int .i64 (k : Int)) (fun i => D - (intOf i).toNat)
  case atStart => exact ⟨0, Nat.zero_le _, rfl⟩
  case round =>
    obtain ⟨k, hk, rfl⟩ := hrel
    by_cases hkd : k < D
    · have hki : (k : Int) + 1 < (N : Int) := by have := HN.out; omega
      have hk0 : (0 : Int) ≤ (k : Int) := by omega
      have hkn : (k : Int) < (N : Int) := by omega
      have hc1 := HWf.out k hkd
      by_cases hkf : k < NF
      · have hkfi : (k : Int) < (NF : Int) := by omega
        obtain ⟨gf, rfl, hcf⟩ := HRF.out (by have := HNF.out; omega)
        obtain ⟨y, hy⟩ : ∃ y, fs[k]? = some y := ⟨_, List.getElem?_eq_getElem (by have := HNF.out; omega)⟩
        rw [List.getD_eq_getElem?_getD, hy, Option.getD_some] at hc1
        have c1 := HCL.out k y hc1
        have c2 := hcf k y hy
        unfold strV at c1 c2
        generalize (⟨y.toArray⟩ : ByteArray) = Y at *
        clear hc1 hcf hy
        go_wp2
        go_round
        case rel => exact ⟨k + 1, by omega, by go_num⟩
        case measure => simp [intOf]; omega
      · have hkfi : decide ((k : Int) < (NF : Int)) = false := decide_eq_false (by omega)
        have hkfi2 : decide (k < NF) = false := decide_eq_false hkf
        have hzn : fs[k]? = none := List.getElem?_eq_none (by have := HNF.out; omega)
        rw [List.getD_eq_getElem?_getD, hzn, Option.getD_none] at hc1
        have c1 := HCL.out k [] hc1
        rw [show strV [] = .string ⟨#[]⟩ from rfl] at c1
        clear hc1 hzn
        go_wp2
        go_round
        case rel => exact ⟨k + 1, by omega, by go_num⟩
        case measure => simp [intOf]; omega
    · have hkD : D = k := by omega
      subst hkD
      have hD0 : (0 : Int) ≤ (D : Int) := by omega
      have hDN : (D : Int) < (N : Int) := by omega
      have c0 := HCL.out D x HXc.out
      rw [HXV.out] at c0
      clear HCL HXc HXV HWf hkd hk
      by_cases hnf : N ≤ NF
      · have hnfi : (N : Int) ≤ (NF : Int) := by omega
        have hDf : (D : Int) ≤ (NF : Int) := by omega
        have hDl : D < NF := by have := HN.out; omega
        have hDc : (D : Int) ≤ (cf : Int) := by omega
        obtain ⟨gf, rfl, hcf⟩ := HRF.out (by have := HNF.out; omega)
        have HO : Hid (StrOff w2 (.slice (some ⟨gf, D, none⟩) (NF - D) (cf - D)) (fs.drop D)) := Lib.hid ⟨_, _, by rw [List.length_drop, HNF.out], by rw [List.length_drop, HNF.out]; unfold maxLen; omega, fun _ => ⟨gf, D, rfl, fun j y hj => hcf (D + j) y (by rw [List.getElem?_drop] at hj; exact hj)⟩⟩
        clear hcf HRF
        have hne : cf ≠ D := by omega
        go_wp2
        have hb3D : Below w.heap.size w w2.drew := bel_drew hb3
        refine region_head 18 ?A1 (by kernel_rfl) (by kernel_rfl) (by kernel_rfl) (by decide) (by kernel_rfl) ?hQ1 ?head1 ?tail1
        case hQ1 =>
          intro c a d v w1 h
          cases d <;> exact h
        case head1 =>
          intro x1
          simp only [List.take_succ_cons, List.take_zero]
          have L0 : ∀ y : Later x1.at_, y.at_.cell? ⟨g, D, none⟩ = some (.string X) := fun y => by
            have q1 : w2.drew.cell? ⟨g, D, none⟩ = some (.string X) := c0
            exact (World.cell?_of_block ((bel_step x1.below y.below).block g (World.block_lt_of_cell? _ _ q1))).trans q1
          repeat (go_big_quiet_step (fail))
          go_big_quiet_step (exact later (G1.out _))
          repeat (go_big_quiet_step (fail))
          refine wpQuiet_nil ?_
          rfl
        case tail1 =>
          change wpAnyU _ _ _ _ _ (7 + 1) _ _ _
          refine wpAnyU_all (rs := [18, 19]) (by kernel_rfl) (by decide) ?_
          intro w3 h3 i hi
          simp only [List.mem_cons, List.not_mem_nil, or_false] at hi
          rcases hi with rfl | rfl
          · refine wpOp_want rfl rfl ?_
            go_simp
            refine (F3.out _).mono ?_
            rintro e w4 ⟨v4, rfl, hown4, hb4⟩
            have h4 : Gr w2.drew w4 := Gr.trans h3 hb4
            refine ⟨h4, ?_⟩
            refine wpAnyU_all (rs := [19]) (by kernel_rfl) (by decide) ?_
            intro w5 h5 i hi
            simp only [List.mem_cons, List.not_mem_nil, or_false] at hi
            subst hi
            refine wpOp_want rfl rfl ?_
            go_simp
            refine ⟨Gr.trans h4 h5, ?_⟩
            refine wpAnyU_all (rs := [20]) (by kernel_rfl) (by decide) ?_
            intro w6 h6 i hi
            simp only [List.mem_cons, List.not_mem_nil, or_false] at hi
            subst hi
            have h6' : Gr w4 w6 := Gr.trans h5 h6
            have hR6 := (StrRow.of_owns hown4).after h6'
            have hG6 : Gr w2.drew w6 := Gr.trans h4 h6'
            have hO6 := HO.out.after hG6.undrew
            clear h3 hown4 hb4 h4 h5 h6 h6'
            refine wpOp_want rfl rfl ?_
            go_simp
            refine (SameTexts_off _ _ (fs.drop D) (fs.drop D) _ hR6 hO6).mono ?_
            rw [decide_eq_true rfl]
            rintro e w7 ⟨rfl, q7, rfl⟩
            refine ⟨Gr.trans hG6 (bel_drewN (Below.refl _ _) q7), ?_⟩
            refine wpAnyU_all (rs := [21]) (by kernel_rfl) (by decide) ?_
            intro w8 h8 i hi
            simp only [List.mem_cons, List.not_mem_nil, or_false] at hi
            subst hi
            have hG8 : Gr w2.drew w8 := Gr.trans (Gr.trans hG6 (bel_drewN (Below.refl _ _) q7)) h8
            clear h8 hR6 hO6 hG6
            refine wpOp_want rfl rfl ?_
            go_simp
            try (refine ⟨hG8, ?_⟩)
            refine wpAnyU_all (rs := [22]) (by kernel_rfl) (by decide) ?_
            intro w9 h9 i hi
            simp only [List.mem_cons, List.not_mem_nil, or_false] at hi
            subst hi
            have hG9 : Gr w2.drew w9 := Gr.trans hG8 h9
            clear h9 hG8
            refine wpOp_want rfl rfl ?_
            go_simp
            try (refine ⟨hG9, ?_⟩)
            refine wpAnyU_all (rs := [23]) (by kernel_rfl) (by decide) ?_
            intro w10 h10 i hi
            simp only [List.mem_cons, List.not_mem_nil, or_false] at hi
            subst hi
            have hG10 : Gr w2.drew w10 := Gr.trans hG9 h10
            clear h10 hG9
            refine wpOp_want rfl rfl ?_
            go_simp
            refine (awake7_is _).mono ?_
            rintro e w11 ⟨rfl, hb11⟩
            have hG11 : Gr w2.drew w11 := Gr.trans hG10 hb11
            refine ⟨hG11, ?_⟩
            clear hG10 hb11
            refine wpAnyU_all (rs := [24]) (by kernel_rfl) (by decide) ?_
            intro w12 h12 i hi
            simp only [List.mem_cons, List.not_mem_nil, or_false] at hi
            subst hi
            have hG12 : Gr w2.drew w12 := Gr.trans hG11 h12
            clear h12 hG11
            refine wpOp_want rfl rfl ?_
            go_simp
            try (refine ⟨hG12, ?_⟩)
            refine wpAnyU_all (rs := [25]) (by kernel_rfl) (by decide) ?_
            intro w13 h13 i hi
            simp only [List.mem_cons, List.not_mem_nil, or_false] at hi
            subst hi
            have hG13 : Gr w2.drew w13 := Gr.trans hG12 h13
            clear h13 hG12
            refine wpOp_want rfl rfl ?_
            go_simp
            try (refine ⟨hG13, ?_⟩)
            refine wpAnyU_done (by kernel_rfl) ?_
            intro w14 h14
            have hB := bel_step hb3D (Gr.trans hG13 h14)
            clear h14 hG13
            go_wp2
            go_ret
            exact ⟨rfl, hB⟩
          · refine wpOp_want rfl rfl ?_
            go_simp
            try (refine ⟨h3, ?_⟩)
            refine wpAnyU_all (rs := [18]) (by kernel_rfl) (by decide) ?_
            intro w4' h4' i hi
            simp only [List.mem_cons, List.not_mem_nil, or_false] at hi
            subst hi
            refine wpOp_want rfl rfl ?_
            go_simp
            refine (F3.out _).mono ?_
            rintro e w4 ⟨v4, rfl, hown4, hb4⟩
            have h4 : Gr w2.drew w4 := Gr.trans (Gr.trans h3 h4') hb4
            refine ⟨h4, ?_⟩
            refine wpAnyU_all (rs := [20]) (by kernel_rfl) (by decide) ?_
            intro w6 h6 i hi
            simp only [List.mem_cons, List.not_mem_nil, or_false] at hi
            subst hi
            have hR6 := (StrRow.of_owns hown4).after h6
            have hG6 : Gr w2.drew w6 := Gr.trans h4 h6
            have hO6 := HO.out.after hG6.undrew
            clear h3 h4' hown4 hb4 h4 h6
            refine wpOp_want rfl rfl ?_
            go_simp
            refine (SameTexts_off _ _ (fs.drop D) (fs.drop D) _ hR6 hO6).mono ?_
            rw [decide_eq_true rfl]
            rintro e w7 ⟨rfl, q7, rfl⟩
            refine ⟨Gr.trans hG6 (bel_drewN (Below.refl _ _) q7), ?_⟩
            refine wpAnyU_all (rs := [21]) (by kernel_rfl) (by decide) ?_
            intro w8 h8 i hi
            simp only [List.mem_cons, List.not_mem_nil, or_false] at hi
            subst hi
            have hG8 : Gr w2.drew w8 := Gr.trans (Gr.trans hG6 (bel_drewN (Below.refl _ _) q7)) h8
            clear h8 hR6 hO6 hG6
            refine wpOp_want rfl rfl ?_
            go_simp
            try (refine ⟨hG8, ?_⟩)
            refine wpAnyU_all (rs := [22]) (by kernel_rfl) (by decide) ?_
            intro w9 h9 i hi
            simp only [List.mem_cons, List.not_mem_nil, or_false] at hi
            subst hi
            have hG9 : Gr w2.drew w9 := Gr.trans hG8 h9
            clear h9 hG8
            refine wpOp_want rfl rfl ?_
            go_simp
            try (refine ⟨hG9, ?_⟩)
            refine wpAnyU_all (rs := [23]) (by kernel_rfl) (by decide) ?_
            intro w10 h10 i hi
            simp only [List.mem_cons, List.not_mem_nil, or_false] at hi
            subst hi
            have hG10 : Gr w2.drew w10 := Gr.trans hG9 h10
            clear h10 hG9
            refine wpOp_want rfl rfl ?_
            go_simp
            refine (awake7_is _).mono ?_
            rintro e w11 ⟨rfl, hb11⟩
            have hG11 : Gr w2.drew w11 := Gr.trans hG10 hb11
            refine ⟨hG11, ?_⟩
            clear hG10 hb11
            refine wpAnyU_all (rs := [24]) (by kernel_rfl) (by decide) ?_
            intro w12 h12 i hi
            simp only [List.mem_cons, List.not_mem_nil, or_false] at hi
            subst hi
            have hG12 : Gr w2.drew w12 := Gr.trans hG11 h12
            clear h12 hG11
            refine wpOp_want rfl rfl ?_
            go_simp
            try (refine ⟨hG12, ?_⟩)
            refine wpAnyU_all (rs := [25]) (by kernel_rfl) (by decide) ?_
            intro w13 h13 i hi
            simp only [List.mem_cons, List.not_mem_nil, or_false] at hi
            subst hi
            have hG13 : Gr w2.drew w13 := Gr.trans hG12 h13
            clear h13 hG12
            refine wpOp_want rfl rfl ?_
            go_simp
            try (refine ⟨hG13, ?_⟩)
            refine wpAnyU_done (by kernel_rfl) ?_
            intro w14 h14
            have hB := bel_step hb3D (Gr.trans hG13 h14)
            clear h14 hG13
            go_wp2
            go_ret
            exact ⟨rfl, hB⟩
      · have hnfi : decide ((N : Int) ≤ (NF : Int)) = false := decide_eq_false (by omega)
        have hnfi2 : decide (N ≤ NF) = false := decide_eq_false hnf
        have HDn : Hid (fs.drop D = []) := Lib.hid (List.drop_of_length_le (by have := HNF.out; have := HN.out; omega))
        have HO : Hid (StrOff w2 (.slice none 0 0) (fs.drop D)) := Lib.hid (by rw [HDn.out]; exact ⟨none, 0, rfl, by unfold maxLen; simp, fun h => by simp at h⟩)
        clear HRF HDn
        go_wp2
        have hb3D : Below w.heap.size w w2.drew := bel_drew hb3
        refine region_head 18 ?A2 (by kernel_rfl) (by kernel_rfl) (by kernel_rfl) (by decide) (by kernel_rfl) ?hQ2 ?head2 ?tail2
        case hQ2 =>
          intro c a d v w1 h
          cases d <;> exact h
        case head2 =>
          intro x1
          simp only [List.take_succ_cons, List.take_zero]
          have L0 : ∀ y : Later x1.at_, y.at_.cell? ⟨g, D, none⟩ = some (.string X) := fun y => by
            have q1 : w2.drew.cell? ⟨g, D, none⟩ = some (.string X) := c0
            exact (World.cell?_of_block ((bel_step x1.below y.below).block g (World.block_lt_of_cell? _ _ q1))).trans q1
          repeat (go_big_quiet_step (fail))
          go_big_quiet_step (exact later (G1.out _))
          repeat (go_big_quiet_step (fail))
          refine wpQuiet_nil ?_
          rfl
        case tail2 =>
          change wpAnyU _ _ _ _ _ (7 + 1) _ _ _
          refine wpAnyU_all (rs := [18, 19]) (by kernel_rfl) (by decide) ?_
          intro w3 h3 i hi
          simp only [List.mem_cons, List.not_mem_nil, or_false] at hi
          rcases hi with rfl | rfl
          · refine wpOp_want rfl rfl ?_
            go_simp
            refine (F3.out _).mono ?_
            rintro e w4 ⟨v4, rfl, hown4, hb4⟩
            have h4 : Gr w2.drew w4 := Gr.trans h3 hb4
            refine ⟨h4, ?_⟩
            refine wpAnyU_all (rs := [19]) (by kernel_rfl) (by decide) ?_
            intro w5 h5 i hi
            simp only [List.mem_cons, List.not_mem_nil, or_false] at hi
            subst hi
            refine wpOp_want rfl rfl ?_
            go_simp
            refine ⟨Gr.trans h4 h5, ?_⟩
            refine wpAnyU_all (rs := [20]) (by kernel_rfl) (by decide) ?_
            intro w6 h6 i hi
            simp only [List.mem_cons, List.not_mem_nil, or_false] at hi
            subst hi
            have h6' : Gr w4 w6 := Gr.trans h5 h6
            have hR6 := (StrRow.of_owns hown4).after h6'
            have hG6 : Gr w2.drew w6 := Gr.trans h4 h6'
            have hO6 := HO.out.after hG6.undrew
            clear h3 hown4 hb4 h4 h5 h6 h6'
            refine wpOp_want rfl rfl ?_
            go_simp
            refine (SameTexts_off _ _ (fs.drop D) (fs.drop D) _ hR6 hO6).mono ?_
            rw [decide_eq_true rfl]
            rintro e w7 ⟨rfl, q7, rfl⟩
            refine ⟨Gr.trans hG6 (bel_drewN (Below.refl _ _) q7), ?_⟩
            refine wpAnyU_all (rs := [21]) (by kernel_rfl) (by decide) ?_
            intro w8 h8 i hi
            simp only [List.mem_cons, List.not_mem_nil, or_false] at hi
            subst hi
            have hG8 : Gr w2.drew w8 := Gr.trans (Gr.trans hG6 (bel_drewN (Below.refl _ _) q7)) h8
            clear h8 hR6 hO6 hG6
            refine wpOp_want rfl rfl ?_
            go_simp
            try (refine ⟨hG8, ?_⟩)
            refine wpAnyU_all (rs := [22]) (by kernel_rfl) (by decide) ?_
            intro w9 h9 i hi
            simp only [List.mem_cons, List.not_mem_nil, or_false] at hi
            subst hi
            have hG9 : Gr w2.drew w9 := Gr.trans hG8 h9
            clear h9 hG8
            refine wpOp_want rfl rfl ?_
            go_simp
            try (refine ⟨hG9, ?_⟩)
            refine wpAnyU_all (rs := [23]) (by kernel_rfl) (by decide) ?_
            intro w10 h10 i hi
            simp only [List.mem_cons, List.not_mem_nil, or_false] at hi
            subst hi
            have hG10 : Gr w2.drew w10 := Gr.trans hG9 h10
            clear h10 hG9
            refine wpOp_want rfl rfl ?_
            go_simp
            refine (awake7_is _).mono ?_
            rintro e w11 ⟨rfl, hb11⟩
            have hG11 : Gr w2.drew w11 := Gr.trans hG10 hb11
            refine ⟨hG11, ?_⟩
            clear hG10 hb11
            refine wpAnyU_all (rs := [24]) (by kernel_rfl) (by decide) ?_
            intro w12 h12 i hi
            simp only [List.mem_cons, List.not_mem_nil, or_false] at hi
            subst hi
            have hG12 : Gr w2.drew w12 := Gr.trans hG11 h12
            clear h12 hG11
            refine wpOp_want rfl rfl ?_
            go_simp
            try (refine ⟨hG12, ?_⟩)
            refine wpAnyU_all (rs := [25]) (by kernel_rfl) (by decide) ?_
            intro w13 h13 i hi
            simp only [List.mem_cons, List.not_mem_nil, or_false] at hi
            subst hi
            have hG13 : Gr w2.drew w13 := Gr.trans hG12 h13
            clear h13 hG12
            refine wpOp_want rfl rfl ?_
            go_simp
            try (refine ⟨hG13, ?_⟩)
            refine wpAnyU_done (by kernel_rfl) ?_
            intro w14 h14
            have hB := bel_step hb3D (Gr.trans hG13 h14)
            clear h14 hG13
            go_wp2
            go_ret
            exact ⟨rfl, hB⟩
          · refine wpOp_want rfl rfl ?_
            go_simp
            try (refine ⟨h3, ?_⟩)
            refine wpAnyU_all (rs := [18]) (by kernel_rfl) (by decide) ?_
            intro w4' h4' i hi
            simp only [List.mem_cons, List.not_mem_nil, or_false] at hi
            subst hi
            refine wpOp_want rfl rfl ?_
            go_simp
            refine (F3.out _).mono ?_
            rintro e w4 ⟨v4, rfl, hown4, hb4⟩
            have h4 : Gr w2.drew w4 := Gr.trans (Gr.trans h3 h4') hb4
            refine ⟨h4, ?_⟩
            refine wpAnyU_all (rs := [20]) (by kernel_rfl) (by decide) ?_
            intro w6 h6 i hi
            simp only [List.mem_cons, List.not_mem_nil, or_false] at hi
            subst hi
            have hR6 := (StrRow.of_owns hown4).after h6
            have hG6 : Gr w2.drew w6 := Gr.trans h4 h6
            have hO6 := HO.out.after hG6.undrew
            clear h3 h4' hown4 hb4 h4 h6
            refine wpOp_want rfl rfl ?_
            go_simp
            refine (SameTexts_off _ _ (fs.drop D) (fs.drop D) _ hR6 hO6).mono ?_
            rw [decide_eq_true rfl]
            rintro e w7 ⟨rfl, q7, rfl⟩
            refine ⟨Gr.trans hG6 (bel_drewN (Below.refl _ _) q7), ?_⟩
            refine wpAnyU_all (rs := [21]) (by kernel_rfl) (by decide) ?_
            intro w8 h8 i hi
            simp only [List.mem_cons, List.not_mem_nil, or_false] at hi
            subst hi
            have hG8 : Gr w2.drew w8 := Gr.trans (Gr.trans hG6 (bel_drewN (Below.refl _ _) q7)) h8
            clear h8 hR6 hO6 hG6
            refine wpOp_want rfl rfl ?_
            go_simp
            try (refine ⟨hG8, ?_⟩)
            refine wpAnyU_all (rs := [22]) (by kernel_rfl) (by decide) ?_
            intro w9 h9 i hi
            simp only [List.mem_cons, List.not_mem_nil, or_false] at hi
            subst hi
            have hG9 : Gr w2.drew w9 := Gr.trans hG8 h9
            clear h9 hG8
            refine wpOp_want rfl rfl ?_
            go_simp
            try (refine ⟨hG9, ?_⟩)
            refine wpAnyU_all (rs := [23]) (by kernel_rfl) (by decide) ?_
            intro w10 h10 i hi
            simp only [List.mem_cons, List.not_mem_nil, or_false] at hi
            subst hi
            have hG10 : Gr w2.drew w10 := Gr.trans hG9 h10
            clear h10 hG9
            refine wpOp_want rfl rfl ?_
            go_simp
            refine (awake7_is _).mono ?_
            rintro e w11 ⟨rfl, hb11⟩
            have hG11 : Gr w2.drew w11 := Gr.trans hG10 hb11
            refine ⟨hG11, ?_⟩
            clear hG10 hb11
            refine wpAnyU_all (rs := [24]) (by kernel_rfl) (by decide) ?_
            intro w12 h12 i hi
            simp only [List.mem_cons, List.not_mem_nil, or_false] at hi
            subst hi
            have hG12 : Gr w2.drew w12 := Gr.trans hG11 h12
            clear h12 hG11
            refine wpOp_want rfl rfl ?_
            go_simp
            try (refine ⟨hG12, ?_⟩)
            refine wpAnyU_all (rs := [25]) (by kernel_rfl) (by decide) ?_
            intro w13 h13 i hi
            simp only [List.mem_cons, List.not_mem_nil, or_false] at hi
            subst hi
            have hG13 : Gr w2.drew w13 := Gr.trans hG12 h13
            clear h13 hG12
            refine wpOp_want rfl rfl ?_
            go_simp
            try (refine ⟨hG13, ?_⟩)
            refine wpAnyU_done (by kernel_rfl) ?_
            intro w14 h14
            have hB := bel_step hb3D (Gr.trans hG13 h14)
            clear h14 hG13
            go_wp2
            go_ret
            exact ⟨rfl, hB⟩
end Go.Proofs.Ytdehjkmjebplbaa
