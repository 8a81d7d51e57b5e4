/-
  The walk of conchlaw6.PatLive. (By wip/tools/gen_patlive.py.)
-/
import Derived.Test.YtmpneifjjnfckaaPatPlainW
namespace Go.Proofs.Ytmpneifjjnfckaa
open Go.RowKit

def hasB (m t : List UInt8) (k : Nat) : Bool := (List.range k).any fun i => decide ((t.drop i).take m.length = m)
theorem hasB_succ (m t : List UInt8) (k : Nat) : hasB m t (k + 1) = (hasB m t k || decide ((t.drop k).take m.length = m)) := by
  unfold hasB
  rw [List.range_succ, List.any_append]
  simp
theorem liv_row (N : Nat) (f g : Nat → Bool) (h : ∀ j, f j = g j) (i : Nat) : livB ((List.range N).map f) i = (decide (i < N) && g i) := by
  unfold livB
  rw [List.getD_eq_getElem?_getD, List.getElem?_map]
  by_cases hi : i < N
  · rw [List.getElem?_range hi]
    simp [hi, h]
  · rw [List.getElem?_eq_none (by simp; omega)]
    simp [hi]
theorem has_pat {m t : List UInt8} {v : List Bool} {k : Nat} (h0 : livB v 0 = true) (h1 : livB v (m.length + 1) = true) (hv : ∀ i, i ≠ 0 → i ≠ m.length + 1 → livB v i = false) (hk : t.length < k + m.length) : patB (42 :: (m ++ [42])) v t = hasB m t k := by
  rw [Bool.eq_iff_iff, pat_two h0 h1 hv]
  unfold hasB
  rw [List.any_eq_true]
  constructor
  · rintro ⟨a, b, rfl⟩
    refine ⟨a.length, List.mem_range.2 (by simp at hk; omega), decide_eq_true ?_⟩
    rw [List.append_assoc, List.drop_left, List.take_left]
  · rintro ⟨i, _, h⟩
    have h := of_decide_eq_true h
    refine ⟨t.take i, (t.drop i).drop m.length, ?_⟩
    have e1 := List.take_append_drop m.length (t.drop i)
    rw [h] at e1
    rw [List.append_assoc, e1, List.take_append_drop]

set_option maxHeartbeats 8000000 in
set_option maxRecDepth 100000 in
theorem PatLive_walk (a m b t : ByteArray) (w : World) : Calls Try.prog 3 #[.string a, .string m, .string b, .string t] w (Gives w (.bool true)) := by
  have HW := Lib.hid awake6_is
  go_enter Try.func3, Try.ntmps3
  by_cases ha : a.size ≤ 30
  · by_cases hb : b.size ≤ 30
    · by_cases hm : m.size ≤ 30
      · by_cases ht : t.size ≤ 30
        · obtain ⟨N, hN, hN1⟩ : ∃ N : Nat, (m.size : Int) + 2 = (N : Int) ∧ N = m.size + 2 := ⟨m.size + 2, by omega, rfl⟩
          have hN8 : N ≤ 1048577 := by omega
          have hN7 : 2 ≤ N := by omega
          have HNN := Lib.hid hN1
          clear hN1
          have hmk := make_bools N hN8
          obtain ⟨X, hX⟩ : ∃ X, (⟨#[42]⟩ : ByteArray) ++ m ++ ⟨#[42]⟩ = X := ⟨_, rfl⟩
          have HX : Hid (X.data.toList = 42 :: (m.data.toList ++ [42])) := Lib.hid (by rw [← hX]; simp [ByteArray.data_append])
          have hXs : X.size ≤ 32 := by
            rw [← hX, ByteArray.size_append, ByteArray.size_append]
            show 1 + m.size + 1 ≤ 32
            omega
          have hA1 := BlkAt.new w (rowV N fun _ => false) 4
          have hA2 := hA1.alloc (.cells #[.string X, .slice (some ⟨w.heap.size, 0, none⟩) N N] 25)
          have hP2 := BlkAt.new_at (w.alloc (.cells (rowV N fun _ => false) 4)) #[.string X, .slice (some ⟨w.heap.size, 0, none⟩) N N] 25 (w.heap.size + 1) (by simp)
          have hb2 := bel_alloc (bel_alloc (Below.refl w.heap.size w) (.cells (rowV N fun _ => false) 4)) (.cells #[.string X, .slice (some ⟨w.heap.size, 0, none⟩) N N] 25)
          obtain ⟨U, hU⟩ : ∃ U, (w.alloc (.cells (rowV N fun _ => false) 4)).alloc (.cells #[.string X, .slice (some ⟨w.heap.size, 0, none⟩) N N] 25) = U := ⟨_, rfl⟩
          rw [hU] at hA2 hP2 hb2
          have HU := Lib.hid hU
          clear hU hA1
          go_upto_region 4 with fail
          rw [HU.out]
          clear HU hmk
          obtain ⟨n1, hn1, hn19⟩ : ∃ n1 : Nat, (m.size : Int) + 1 = (n1 : Int) ∧ n1 = m.size + 1 := ⟨m.size + 1, by omega, rfl⟩
          have i0 : (0 : Int) < (N : Int) := by omega
          have i1 : (n1 : Int) < (N : Int) := by omega
          have HN1 := Lib.hid hn19
          clear hn19
          have cP := hP2.cell 1 (v := .slice (some ⟨w.heap.size, 0, none⟩) N N) rfl
          have cA := hA2.cell 0 (rowV_get (N := N) (by omega))
          have fA := hA2.frozen 0
          have hn0 : n1 ≠ 0 := by omega
          have hA4 := hA2.set 0 (.bool true)
          rw [rowV_set] at hA4
          have cB := hA4.drew.cell n1 (rowV_get (N := N) (by omega))
          have fB := hA4.drew.frozen n1
          have hA5 := hA4.set n1 (.bool true)
          rw [rowV_set] at hA5
          have hP5 := (hP2.far (a := ⟨w.heap.size, 0, none⟩) (by show w.heap.size + 1 ≠ w.heap.size; omega) (.bool true)).far (a := ⟨w.heap.size, n1, none⟩) (by show w.heap.size + 1 ≠ w.heap.size; omega) (.bool true)
          have hb5 := bel_set (bel_set hb2 ⟨w.heap.size, 0, none⟩ (Nat.le_refl _) (.bool true)) ⟨w.heap.size, n1, none⟩ (Nat.le_refl _) (.bool true)
          clear hA4
          go_region
          clear cP cA fA cB fB hA2 hP2 hb2
          replace hA5 := hA5.drew
          replace hP5 := hP5.drew
          replace hb5 := bel_drew hb5
          obtain ⟨W5, hW5⟩ : ∃ W5, ((U.setCell ⟨w.heap.size, 0, none⟩ (.bool true)).setCell ⟨w.heap.size, n1, none⟩ (.bool true)).drew = W5 := ⟨_, rfl⟩
          rw [hW5] at hA5 hP5 hb5 ⊢
          clear hW5
          have hL5 := row_live hA5 (by unfold maxLen; omega)
          obtain ⟨V, hV⟩ : ∃ V, (List.range N).map (fun j => if j = n1 then true else if j = 0 then true else false) = V := ⟨_, rfl⟩
          rw [hV] at hL5
          have HVi : Hid (∀ i, livB V i = (decide (i < N) && (decide (i = n1) || decide (i = 0)))) := Lib.hid (fun i => by rw [← hV]; refine liv_row N _ (fun j => decide (j = n1) || decide (j = 0)) (fun j => ?_) i; by_cases h1 : j = n1 <;> by_cases h2 : j = 0 <;> simp [h1, h2])
          have HV0 : Hid (livB V 0 = true) := Lib.hid (by rw [HVi.out]; simp; omega)
          have HV1 : Hid (livB V (m.data.toList.length + 1) = true) := Lib.hid (by rw [HVi.out, len_list, HN1.out, HNN.out]; simp)
          have HVn : Hid (∀ i, i ≠ 0 → i ≠ m.data.toList.length + 1 → livB V i = false) := Lib.hid (fun i h0 h1 => by rw [len_list] at h1; rw [HVi.out, HN1.out, decide_eq_false h0, decide_eq_false h1]; simp)
          clear hV HVi hA5
          go_wp2
          go_loop [10, 11] (fun g z => ∃ k : Nat, k ≤ t.size + 1 ∧ z = .int .i64 (k : Int) ∧ g = .bool (hasB m.data.toList t.data.toList k)) (fun _ z => t.size + 1 - (intOf z).toNat)
          case atStart => exact ⟨0, Nat.zero_le _, rfl, rfl⟩
          case round =>
            obtain ⟨k, hk9, rfl, rfl⟩ := hrel
            by_cases hk : k + m.size ≤ t.size
            · have HS : Hid (hasB m.data.toList t.data.toList (k + 1) = (hasB m.data.toList t.data.toList k || decide ((t.data.toList.drop k).take m.data.toList.length = m.data.toList))) := Lib.hid (hasB_succ _ _ _)
              cases hg : hasB m.data.toList t.data.toList k with
              | true =>
                have HG : Hid (hasB m.data.toList t.data.toList (k + 1) = true) := Lib.hid (by rw [HS.out, hg]; rfl)
                clear hg HS
                go_wp2
                go_round
                case rel => exact ⟨k + 1, by omega, by go_num, by rw [HG.out]⟩
                case measure => simp [intOf]; omega
              | false =>
                obtain ⟨e, he, he9⟩ : ∃ e : Nat, (k : Int) + (m.size : Int) = (e : Int) ∧ e = k + m.size := ⟨k + m.size, by omega, rfl⟩
                have i0 : (0 : Int) ≤ (k : Int) := by omega
                have i1 : (k : Int) ≤ (e : Int) := by omega
                have i2 : (e : Int) ≤ (t.size : Int) := by omega
                obtain ⟨y, hy⟩ : ∃ y, ((t.extract k e).toList == m.toList) = y := ⟨_, rfl⟩
                have HG : Hid (hasB m.data.toList t.data.toList (k + 1) = y) := Lib.hid (by
                  rw [HS.out, hg, Bool.false_or, ← hy, ← str_eq, extract_bytes, he9, len_list, show k + m.size - k = m.size by omega])
                have HE9 := Lib.hid he9
                clear hg HS he9
                go_wp2
                go_round
                case rel => exact ⟨k + 1, by omega, by go_num, by rw [HG.out]⟩
                case measure => simp [intOf]; omega
            · have HH : Hid (hasB m.data.toList t.data.toList k = patB X.data.toList V t.data.toList) := Lib.hid (by
                rw [HX.out]
                refine (has_pat HV0.out HV1.out HVn.out ?_).symm
                rw [len_list, len_list]; omega)
              have m1 := patMatch_is X (by omega) (.slice (some ⟨w.heap.size, 0, none⟩) N N) V (a ++ m ++ b) (by rw [ByteArray.size_append, ByteArray.size_append]; omega)
              rw [show patB X.data.toList V (a ++ m ++ b).data.toList = true from by
                rw [HX.out]
                exact (pat_two HV0.out HV1.out HVn.out).2 ⟨a.data.toList, b.data.toList, by simp [ByteArray.data_append]⟩] at m1
              have m2 := patMatch_is X (by omega) (.slice (some ⟨w.heap.size, 0, none⟩) N N) V t (by omega)
              rw [← HH.out] at m2
              have m3 := patActive_is X (by omega) (.slice (some ⟨w.heap.size, 0, none⟩) N N) V
              rw [show actB X.data.toList V = true from by rw [HX.out]; exact act_two HV0.out] at m3
              have m4 := fun w => patActive_is m (by omega) (.slice none 0 0) [] w ⟨none, 0, rfl, Nat.zero_le _, fun j x h => (by cases h)⟩
              rw [show actB m.data.toList [] = false from act_dead (fun i => rfl)] at m4
              unfold patV at m1 m2 m3 m4
              generalize hasB m.data.toList t.data.toList k = g at *
              have g0 : (g == g) = true := by cases g <;> rfl
              have M1 := Lib.hid m1
              have M2 := Lib.hid m2
              have M3 := Lib.hid m3
              have M4 := Lib.hid m4
              clear m1 m2 m3 m4 HH
              have d0 := hP5.cell 0 (v := .string X) rfl
              have d1 := hP5.cell 1 (v := .slice (some ⟨w.heap.size, 0, none⟩) N N) rfl
              go_wp2_with fail
              clear d0 d1
              refine (M1.out _ hL5).mono ?_
              rintro e x5 ⟨rfl, j5⟩
              have hP6 := hP5.after j5
              have hL6 := hL5.after j5
              have hb6 := bel_step hb5 j5
              clear hP5 hL5 hb5 j5
              have d0 := hP6.cell 0 (v := .string X) rfl
              have d1 := hP6.cell 1 (v := .slice (some ⟨w.heap.size, 0, none⟩) N N) rfl
              go_wp2_with fail
              clear d0 d1
              refine (M2.out _ hL6).mono ?_
              rintro e x6 ⟨rfl, j6⟩
              have hP7 := hP6.after j6
              have hL7 := hL6.after j6
              have hb7 := bel_step hb6 j6
              clear hP6 hL6 hb6 j6
              have d0 := hP7.cell 0 (v := .string X) rfl
              have d1 := hP7.cell 1 (v := .slice (some ⟨w.heap.size, 0, none⟩) N N) rfl
              go_wp2_with fail
              clear d0 d1
              refine (M3.out _ hL7).mono ?_
              rintro e x7 ⟨rfl, j7⟩
              have hP8 := hP7.after j7
              have hL8 := hL7.after j7
              have hb8 := bel_step hb7 j7
              clear hP7 hL7 hb7 j7
              go_wp2_with fail
              refine (M4.out _).mono ?_
              rintro e x8 ⟨rfl, j8⟩
              have hb9 := bel_step hb8 j8
              clear hb8 j8
              go_wp2_with fail
              refine (HW.out _).mono ?_
              rintro e v9 ⟨rfl, j9⟩
              go_wp2
              go_ret
              exact ⟨rfl, bel_step hb9 j9⟩
        · go_wp2_with fail
          refine (HW.out _).mono ?_
          rintro e v9 ⟨rfl, j9⟩
          go_wp2
          go_ret
          exact ⟨rfl, j9⟩
      · go_wp2_with fail
        refine (HW.out _).mono ?_
        rintro e v9 ⟨rfl, j9⟩
        go_wp2
        go_ret
        exact ⟨rfl, j9⟩
    · go_wp2_with fail
      refine (HW.out _).mono ?_
      rintro e v9 ⟨rfl, j9⟩
      go_wp2
      go_ret
      exact ⟨rfl, j9⟩
  · go_wp2_with fail
    refine (HW.out _).mono ?_
    rintro e v9 ⟨rfl, j9⟩
    go_wp2
    go_ret
    exact ⟨rfl, j9⟩
end Go.Proofs.Ytmpneifjjnfckaa
