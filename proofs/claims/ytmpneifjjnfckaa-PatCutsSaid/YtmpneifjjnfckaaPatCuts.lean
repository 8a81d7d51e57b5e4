/-
  The walk of conchlaw6.PatCuts. (By wip/tools/gen_patcuts.py.)
-/
import Derived.Test.YtmpneifjjnfckaaPatPlainW
import Derived.Test.YtmpneifjjnfckaaPatCutsPlain
import Derived.Test.YtmpneifjjnfckaaPatSmall
namespace Go.Proofs.Ytmpneifjjnfckaa
open Go.RowKit

theorem bytes_same {a b : ByteArray} (h : a.data.toList = b.data.toList) : a = b := by
  obtain ⟨⟨x⟩⟩ := a
  obtain ⟨⟨y⟩⟩ := b
  simp only at h
  subst h
  rfl

set_option maxHeartbeats 32000000 in
set_option maxRecDepth 100000 in
theorem PatCuts_walk (raw t : ByteArray) (w : World) : Calls Try.prog 8 #[.string raw, .string t] w (Gives w (.bool true)) := by
  have HW := Lib.hid awake6_is
  go_enter Try.func8, Try.ntmps8
  by_cases hr : raw.size ≤ 60
  · by_cases ht : t.size ≤ 60
    · have HT := Lib.hid (tame6_is raw w (by omega))
      go_wp2_with fail
      refine HT.out.mono ?_
      rintro e w1 ⟨⟨T, rfl, hT9⟩, rfl⟩
      have HR := Lib.hid (patRaw_is T (by omega))
      go_wp2_with fail
      refine (HR.out _).mono ?_
      rintro e z1 ⟨L1, v1, rfl, hL1, _, j1, _⟩
      obtain ⟨a1, p1, hLL, hl9, _⟩ := id hL1
      subst hLL
      unfold patV
      have HLt := Lib.hid (letters6_is t z1 (by omega))
      go_wp2_with fail
      refine HLt.out.mono ?_
      rintro e z2 ⟨⟨S, rfl, hS9⟩, rfl⟩
      have hP2 := BlkAt.new z1 #[.string T, (.slice a1 v1.length p1)] 25
      have hb2 := bel_alloc j1 (.cells #[.string T, (.slice a1 v1.length p1)] 25)
      have hL2 := hL1.after (bel_alloc (Below.refl z1.heap.size z1) (.cells #[.string T, (.slice a1 v1.length p1)] 25))
      obtain ⟨U, hU⟩ : ∃ U, z1.alloc (.cells #[.string T, (.slice a1 v1.length p1)] 25) = U := ⟨_, rfl⟩
      obtain ⟨bp, hbp⟩ : ∃ bp, z1.heap.size = bp := ⟨_, rfl⟩
      rw [hU] at hP2 hb2 hL2
      rw [hbp] at hP2
      have HU := Lib.hid hU
      clear hU hL1 j1 HT HR HLt
      go_upto_region 4 with fail
      rw [HU.out]
      clear HU hbp
      have q1 := patCut_is T (by omega) (.slice a1 v1.length p1) v1 S (by omega) true false
      have q2 := patCut_is T (by omega) (.slice a1 v1.length p1) v1 S (by omega) true true
      have q3 := patCut_is T (by omega) (.slice a1 v1.length p1) v1 S (by omega) false false
      have q4 := patCut_is T (by omega) (.slice a1 v1.length p1) v1 S (by omega) false true
      have hF := fr_of (patB T.data.toList v1) S.data.toList
      have hE := en_of (patB T.data.toList v1) S.data.toList
      generalize cutB (patB T.data.toList v1) S.data.toList true false = lA at *
      generalize cutB (patB T.data.toList v1) S.data.toList true true = lB at *
      generalize cutB (patB T.data.toList v1) S.data.toList false false = lC at *
      generalize cutB (patB T.data.toList v1) S.data.toList false true = lD at *
      obtain ⟨A, hA⟩ : ∃ A : ByteArray, ⟨lA.toArray⟩ = A := ⟨_, rfl⟩
      obtain ⟨B, hB⟩ : ∃ B : ByteArray, ⟨lB.toArray⟩ = B := ⟨_, rfl⟩
      obtain ⟨C, hC⟩ : ∃ C : ByteArray, ⟨lC.toArray⟩ = C := ⟨_, rfl⟩
      obtain ⟨D, hD⟩ : ∃ D : ByteArray, ⟨lD.toArray⟩ = D := ⟨_, rfl⟩
      rw [hA] at q1
      rw [hB] at q2
      rw [hC] at q3
      rw [hD] at q4
      have xA : lA = A.data.toList := by rw [← hA]
      have xB : lB = B.data.toList := by rw [← hB]
      have xC : lC = C.data.toList := by rw [← hC]
      have xD : lD = D.data.toList := by rw [← hD]
      subst xA xB xC xD
      clear hA hB hC hD
      have hlA := len_list A
      have hlB := len_list B
      have hlC := len_list C
      have hlD := len_list D
      have zA : A.size ≤ S.size := by have := hF.la; have := len_list S; omega
      have zB : B.size ≤ A.size := by have := hF.lb; omega
      have zC : C.size ≤ S.size := by have := hE.lc; have := len_list S; omega
      have zD : D.size ≤ C.size := by have := hE.ld; omega
      obtain ⟨ka, hka, hka9⟩ : ∃ ka : Nat, (S.size : Int) - (A.size : Int) = (ka : Int) ∧ ka = S.size - A.size := ⟨S.size - A.size, by omega, rfl⟩
      obtain ⟨kb, hkb, hkb9⟩ : ∃ kb : Nat, (S.size : Int) - (B.size : Int) = (kb : Int) ∧ kb = S.size - B.size := ⟨S.size - B.size, by omega, rfl⟩
      have eA : ((S.extract ka S.size).toList == A.toList) = true := by
        rw [← str_eq, decide_eq_true_iff, hF.isA, hlA, len_list, ← hka9, extract_bytes]
        simp
        exact List.take_of_length_le (by simp)
      have eB : ((S.extract kb S.size).toList == B.toList) = true := by
        rw [← str_eq, decide_eq_true_iff, hF.isB, hlB, len_list, ← hkb9, extract_bytes]
        simp
        exact List.take_of_length_le (by simp)
      have eC : ((S.extract 0 C.size).toList == C.toList) = true := by
        rw [← str_eq, decide_eq_true_iff, extract_bytes]
        have := hE.isC
        rw [hlC] at this
        rw [this]
        simp
      have eD : ((S.extract 0 D.size).toList == D.toList) = true := by
        rw [← str_eq, decide_eq_true_iff, extract_bytes]
        have := hE.isD
        rw [hlD] at this
        rw [this]
        simp
      have HF := Lib.hid hF
      have HE := Lib.hid hE
      have HKa := Lib.hid hka9.symm
      have HKb := Lib.hid hkb9.symm
      have ka8 : ka ≤ S.size := by omega
      have kb8 : kb ≤ S.size := by omega
      clear hF hE hka9 hkb9
      unfold patV at q1 q2 q3 q4
      have Q1 := Lib.hid q1
      have Q2 := Lib.hid q2
      have Q3 := Lib.hid q3
      have Q4 := Lib.hid q4
      clear q1 q2 q3 q4
      have L0 : ∀ q : Later U, q.at_.cell? ⟨bp, 0, none⟩ = some (.string T) := fun q => (hP2.after q.below).cell 0 rfl
      have L1 : ∀ q : Later U, q.at_.cell? ⟨bp, 1, none⟩ = some (.slice a1 v1.length p1) := fun q => (hP2.after q.below).cell 1 rfl
      refine region_later (by kernel_rfl) (by kernel_rfl) ?_
      repeat (go_big_quiet_step (fail))
      go_big_quiet_step (exact later (Q1.out _ (hL2.after (Later.below _))))
      repeat (go_big_quiet_step (fail))
      go_big_quiet_step (exact later (Q2.out _ (hL2.after (Later.below _))))
      repeat (go_big_quiet_step (fail))
      refine wpQuiet_nil ?_
      rintro _ ⟨q, rfl⟩
      have hP3 := hP2.after q.below
      have hL3 := hL2.after q.below
      have hb3 := bel_step hb2 q.below
      clear L0 L1 hP2 hL2 hb2
      generalize q.at_ = x3 at *
      go_wp2
      have L0 : ∀ q : Later x3, q.at_.cell? ⟨bp, 0, none⟩ = some (.string T) := fun q => (hP3.after q.below).cell 0 rfl
      have L1 : ∀ q : Later x3, q.at_.cell? ⟨bp, 1, none⟩ = some (.slice a1 v1.length p1) := fun q => (hP3.after q.below).cell 1 rfl
      refine region_later (by kernel_rfl) (by kernel_rfl) ?_
      repeat (go_big_quiet_step (fail))
      go_big_quiet_step (exact later (Q3.out _ (hL3.after (Later.below _))))
      repeat (go_big_quiet_step (fail))
      go_big_quiet_step (exact later (Q4.out _ (hL3.after (Later.below _))))
      repeat (go_big_quiet_step (fail))
      refine wpQuiet_nil ?_
      rintro _ ⟨q, rfl⟩
      have hP4 := hP3.after q.below
      have hL4 := hL3.after q.below
      have hb4 := bel_step hb3 q.below
      clear L0 L1 hP3 hL3 hb3
      generalize q.at_ = x4 at *
      clear Q1 Q2 Q3 Q4
      have i2 : (0 : Int) ≤ (ka : Int) := by omega
      have i3 : (ka : Int) ≤ (S.size : Int) := by omega
      have i4 : (0 : Int) ≤ (kb : Int) := by omega
      have i5 : (kb : Int) ≤ (S.size : Int) := by omega
      go_wp2
      clear eA eB eC eD i2 i3 i4 i5
      go_loopw [11, 12] (fun g z wr => ∃ k : Nat, k ≤ S.size + 1 ∧ z = .int .i64 (k : Int) ∧ g = .bool (anyT (patB T.data.toList v1) S.data.toList k) ∧ BlkAt wr bp #[.string T, (.slice a1 v1.length p1)] 25 ∧ LiveAt wr (.slice a1 v1.length p1) v1 ∧ Below w.heap.size w wr) (fun _ z _ => S.size + 1 - (intOf z).toNat)
      case atStart => exact ⟨0, Nat.zero_le _, rfl, rfl, hP4, hL4, hb4⟩
      case round =>
        obtain ⟨k, hk9, rfl, rfl, hP5, hL5, hb5⟩ := hrel
        clear hP4 hL4 hb4
        by_cases hk : k ≤ S.size
        · obtain ⟨X, hX⟩ : ∃ X, S.extract 0 k = X := ⟨_, rfl⟩
          have HXl : Hid (X.data.toList = S.data.toList.take k) := Lib.hid (by rw [← hX, extract_bytes]; simp)
          have hXs : X.size ≤ 1048576 := by
            have h1 : X.size = X.data.toList.length := by simp
            rw [h1, HXl.out]
            have h2 := len_list S
            simp only [List.length_take]
            omega
          have hMt := patMatch_is T (by omega) (.slice a1 v1.length p1) v1 X hXs
          rw [HXl.out] at hMt
          have HS : Hid (anyT (patB T.data.toList v1) S.data.toList (k + 1) = (anyT (patB T.data.toList v1) S.data.toList k || patB T.data.toList v1 (S.data.toList.take k))) := Lib.hid (anyT_succ _ _ _)
          have HAl : Hid (patB T.data.toList v1 (S.data.toList.take k) = true → S.size - k ≤ A.size ∧ B.size ≤ S.size - k) := Lib.hid (fun h => by
            have := HF.out.all k (by rw [len_list]; exact hk) h
            rw [len_list, hlA, hlB] at this
            exact this)
          generalize patB T.data.toList v1 (S.data.toList.take k) = y at *
          unfold patV at hMt
          have HMt := Lib.hid hMt
          clear hMt
          have i0 : (0 : Int) ≤ (k : Int) := by omega
          have i1 : (k : Int) ≤ (S.size : Int) := by omega
          go_wp2
          have L0 : ∀ q : Later wr, q.at_.cell? ⟨bp, 0, none⟩ = some (.string T) := fun q => (hP5.after q.below).cell 0 rfl
          have L1 : ∀ q : Later wr, q.at_.cell? ⟨bp, 1, none⟩ = some (.slice a1 v1.length p1) := fun q => (hP5.after q.below).cell 1 rfl
          refine region_later (by kernel_rfl) (by kernel_rfl) ?_
          repeat (go_big_quiet_step (fail))
          go_big_quiet_step (exact later (HMt.out _ (hL5.after (Later.below _))))
          repeat (go_big_quiet_step (fail))
          refine wpQuiet_nil ?_
          rintro _ ⟨q, rfl⟩
          have hP6 := hP5.after q.below
          have hL6 := hL5.after q.below
          have hb6 := bel_step hb5 q.below
          clear L0 L1 hP5 hL5 hb5
          generalize q.at_ = x6 at *
          clear hX HMt
          cases y with
          | true =>
            obtain ⟨q1, q2⟩ := HAl.out rfl
            obtain ⟨nk, hnk, hnk9⟩ : ∃ nk : Nat, (S.size : Int) - (k : Int) = (nk : Int) ∧ nk = S.size - k := ⟨S.size - k, by omega, rfl⟩
            have u1 : nk ≤ A.size := by omega
            have u2 : B.size ≤ nk := by omega
            have b1 : decide (A.size < nk) = false := decide_eq_false (by omega)
            have b2 : decide (nk < B.size) = false := decide_eq_false (by omega)
            have HNK := Lib.hid hnk9
            clear hnk9 q1 q2
            cases hg : anyT (patB T.data.toList v1) S.data.toList k with
            | true =>
              have HG : Hid (anyT (patB T.data.toList v1) S.data.toList (k + 1) = true) := Lib.hid (by rw [HS.out, hg]; rfl)
              clear hg HS
              go_wp2
              go_roundw
              case rel => exact ⟨k + 1, by omega, by go_num, by rw [HG.out], hP6, hL6, hb6⟩
              case measure => simp [intOf]; omega
            | false =>
              have HG : Hid (anyT (patB T.data.toList v1) S.data.toList (k + 1) = true) := Lib.hid (by rw [HS.out, hg]; rfl)
              clear hg HS
              go_wp2
              go_roundw
              case rel => exact ⟨k + 1, by omega, by go_num, by rw [HG.out], hP6, hL6, hb6⟩
              case measure => simp [intOf]; omega
          | false =>
            cases hg : anyT (patB T.data.toList v1) S.data.toList k with
            | true =>
              have HG : Hid (anyT (patB T.data.toList v1) S.data.toList (k + 1) = true) := Lib.hid (by rw [HS.out, hg]; rfl)
              clear hg HS
              go_wp2
              go_roundw
              case rel => exact ⟨k + 1, by omega, by go_num, by rw [HG.out], hP6, hL6, hb6⟩
              case measure => simp [intOf]; omega
            | false =>
              have HG : Hid (anyT (patB T.data.toList v1) S.data.toList (k + 1) = false) := Lib.hid (by rw [HS.out, hg]; rfl)
              clear hg HS
              go_wp2
              go_roundw
              case rel => exact ⟨k + 1, by omega, by go_num, by rw [HG.out], hP6, hL6, hb6⟩
              case measure => simp [intOf]; omega
        · have hkn : k = S.size + 1 := by omega
          have HK : Hid (anyT (patB T.data.toList v1) S.data.toList k = anyT (patB T.data.toList v1) S.data.toList (S.data.toList.length + 1)) := Lib.hid (by rw [hkn, len_list])
          clear hkn
          rw [HK.out]
          obtain ⟨sF, hsF⟩ : ∃ sF, anyT (patB T.data.toList v1) S.data.toList (S.data.toList.length + 1) = sF := ⟨_, rfl⟩
          obtain ⟨Xa, hXa⟩ : ∃ X, S.extract 0 ka = X := ⟨_, rfl⟩
          have hXal : Xa.data.toList = S.data.toList.take ka := by rw [← hXa, extract_bytes]; simp
          have hXas : Xa.size ≤ 1048576 := by
            have h1 : Xa.size = Xa.data.toList.length := by simp
            rw [h1, hXal]
            have h2 := len_list S
            simp only [List.length_take]
            omega
          obtain ⟨Xb, hXb⟩ : ∃ X, S.extract 0 kb = X := ⟨_, rfl⟩
          have hXbl : Xb.data.toList = S.data.toList.take kb := by rw [← hXb, extract_bytes]; simp
          have hXbs : Xb.size ≤ 1048576 := by
            have h1 : Xb.size = Xb.data.toList.length := by simp
            rw [h1, hXbl]
            have h2 := len_list S
            simp only [List.length_take]
            omega
          have n1 := patMatch_is T (by omega) (.slice a1 v1.length p1) v1 Xa hXas
          rw [hXal, show patB T.data.toList v1 (S.data.toList.take ka) = sF from by rw [← hsF, ← HF.out.ma, hlA, len_list, HKa.out]] at n1
          have N2 : Hid (sF = true → ∀ w, LiveAt w (.slice a1 v1.length p1) v1 → Calls Try.prog 10 #[patV T (.slice a1 v1.length p1), .string Xb] w (Gives w (.bool true))) := Lib.hid (fun h w hl => by
            have := patMatch_is T (by omega) (.slice a1 v1.length p1) v1 Xb hXbs w hl
            rwa [hXbl, show patB T.data.toList v1 (S.data.toList.take kb) = true from by
              have h3 := HF.out.mb (hsF.trans h)
              rw [hlB, len_list, HKb.out] at h3
              exact h3] at this)
          have HNo : Hid (sF = false → A = S ∧ B = S) := Lib.hid (fun h => by
            obtain ⟨e1, e2⟩ := HF.out.no (hsF.trans h)
            exact ⟨bytes_same e1, bytes_same e2⟩)
          rw [hsF]
          unfold patV at n1 N2
          have N1 := Lib.hid n1
          clear n1 hsF hXal hXas hXbl hXbs
          have s0 : (sF != sF) = false := by cases sF <;> rfl
          have k0 : (0 : Int) ≤ (ka : Int) := by omega
          have k1 : (ka : Int) ≤ (S.size : Int) := by omega
          have k2 : (0 : Int) ≤ (kb : Int) := by omega
          have k3 : (kb : Int) ≤ (S.size : Int) := by omega
          cases sF with
          | true =>
            have N3 := Lib.hid (N2.out rfl)
            clear N2 HNo
            go_wp2
            have L0 : ∀ q : Later wr, q.at_.cell? ⟨bp, 0, none⟩ = some (.string T) := fun q => (hP5.after q.below).cell 0 rfl
            have L1 : ∀ q : Later wr, q.at_.cell? ⟨bp, 1, none⟩ = some (.slice a1 v1.length p1) := fun q => (hP5.after q.below).cell 1 rfl
            refine region_later (by kernel_rfl) (by kernel_rfl) ?_
            repeat (go_big_quiet_step (fail))
            go_big_quiet_step (exact later (N1.out _ (hL5.after (Later.below _))))
            repeat (go_big_quiet_step (fail))
            go_big_quiet_step (exact later (N3.out _ (hL5.after (Later.below _))))
            repeat (go_big_quiet_step (fail))
            refine wpQuiet_nil ?_
            rintro _ ⟨q, rfl⟩
            have hP6 := hP5.after q.below
            have hL6 := hL5.after q.below
            have hb6 := bel_step hb5 q.below
            clear L0 L1 hP5 hL5 hb5
            generalize q.at_ = x6 at *
            clear hXa hXb k0 k1 k2 k3 s0
            go_wp2
            go_loopw [11, 14] (fun g z wr => ∃ k : Nat, k ≤ S.size + 1 ∧ z = .int .i64 (k : Int) ∧ g = .bool (anyD (patB T.data.toList v1) S.data.toList k) ∧ BlkAt wr bp #[.string T, (.slice a1 v1.length p1)] 25 ∧ LiveAt wr (.slice a1 v1.length p1) v1 ∧ Below w.heap.size w wr) (fun _ z _ => S.size + 1 - (intOf z).toNat)
            case atStart => exact ⟨0, Nat.zero_le _, rfl, rfl, hP6, hL6, hb6⟩
            case round =>
              obtain ⟨k, hk9, rfl, rfl, hP7, hL7, hb7⟩ := hrel
              clear hP6 hL6 hb6
              by_cases hk : k ≤ S.size
              · obtain ⟨X, hX⟩ : ∃ X, S.extract k S.size = X := ⟨_, rfl⟩
                have HXl : Hid (X.data.toList = S.data.toList.drop k) := Lib.hid (by rw [← hX, extract_bytes]; simp; exact List.take_of_length_le (by simp))
                have hXs : X.size ≤ 1048576 := by
                  have h1 : X.size = X.data.toList.length := by simp
                  rw [h1, HXl.out]
                  have h2 := len_list S
                  simp only [List.length_drop]
                  omega
                have hMt := patMatch_is T (by omega) (.slice a1 v1.length p1) v1 X hXs
                rw [HXl.out] at hMt
                have HS : Hid (anyD (patB T.data.toList v1) S.data.toList (k + 1) = (anyD (patB T.data.toList v1) S.data.toList k || patB T.data.toList v1 (S.data.toList.drop k))) := Lib.hid (anyD_succ _ _ _)
                have HAl : Hid (patB T.data.toList v1 (S.data.toList.drop k) = true → k ≤ C.size ∧ D.size ≤ k) := Lib.hid (fun h => by
                  have := HE.out.all k (by rw [len_list]; exact hk) h
                  rw [hlC, hlD] at this
                  exact this)
                generalize patB T.data.toList v1 (S.data.toList.drop k) = y at *
                unfold patV at hMt
                have HMt := Lib.hid hMt
                clear hMt
                have i0 : (0 : Int) ≤ (k : Int) := by omega
                have i1 : (k : Int) ≤ (S.size : Int) := by omega
                go_wp2
                have L0 : ∀ q : Later wr, q.at_.cell? ⟨bp, 0, none⟩ = some (.string T) := fun q => (hP7.after q.below).cell 0 rfl
                have L1 : ∀ q : Later wr, q.at_.cell? ⟨bp, 1, none⟩ = some (.slice a1 v1.length p1) := fun q => (hP7.after q.below).cell 1 rfl
                refine region_later (by kernel_rfl) (by kernel_rfl) ?_
                repeat (go_big_quiet_step (fail))
                go_big_quiet_step (exact later (HMt.out _ (hL7.after (Later.below _))))
                repeat (go_big_quiet_step (fail))
                refine wpQuiet_nil ?_
                rintro _ ⟨q, rfl⟩
                have hP8 := hP7.after q.below
                have hL8 := hL7.after q.below
                have hb8 := bel_step hb7 q.below
                clear L0 L1 hP7 hL7 hb7
                generalize q.at_ = x8 at *
                clear hX HMt
                cases y with
                | true =>
                  obtain ⟨q1, q2⟩ := HAl.out rfl
                  have b1 : decide (C.size < k) = false := decide_eq_false (by omega)
                  have b2 : decide (k < D.size) = false := decide_eq_false (by omega)
                  cases hg : anyD (patB T.data.toList v1) S.data.toList k with
                  | true =>
                    have HG : Hid (anyD (patB T.data.toList v1) S.data.toList (k + 1) = true) := Lib.hid (by rw [HS.out, hg]; rfl)
                    clear hg HS
                    go_wp2
                    go_roundw
                    case rel => exact ⟨k + 1, by omega, by go_num, by rw [HG.out], hP8, hL8, hb8⟩
                    case measure => simp [intOf]; omega
                  | false =>
                    have HG : Hid (anyD (patB T.data.toList v1) S.data.toList (k + 1) = true) := Lib.hid (by rw [HS.out, hg]; rfl)
                    clear hg HS
                    go_wp2
                    go_roundw
                    case rel => exact ⟨k + 1, by omega, by go_num, by rw [HG.out], hP8, hL8, hb8⟩
                    case measure => simp [intOf]; omega
                | false =>
                  cases hg : anyD (patB T.data.toList v1) S.data.toList k with
                  | true =>
                    have HG : Hid (anyD (patB T.data.toList v1) S.data.toList (k + 1) = true) := Lib.hid (by rw [HS.out, hg]; rfl)
                    clear hg HS
                    go_wp2
                    go_roundw
                    case rel => exact ⟨k + 1, by omega, by go_num, by rw [HG.out], hP8, hL8, hb8⟩
                    case measure => simp [intOf]; omega
                  | false =>
                    have HG : Hid (anyD (patB T.data.toList v1) S.data.toList (k + 1) = false) := Lib.hid (by rw [HS.out, hg]; rfl)
                    clear hg HS
                    go_wp2
                    go_roundw
                    case rel => exact ⟨k + 1, by omega, by go_num, by rw [HG.out], hP8, hL8, hb8⟩
                    case measure => simp [intOf]; omega
              · have hkn : k = S.size + 1 := by omega
                have HK : Hid (anyD (patB T.data.toList v1) S.data.toList k = anyD (patB T.data.toList v1) S.data.toList (S.data.toList.length + 1)) := Lib.hid (by rw [hkn, len_list])
                clear hkn
                rw [HK.out]
                obtain ⟨sE, hsE⟩ : ∃ sE, anyD (patB T.data.toList v1) S.data.toList (S.data.toList.length + 1) = sE := ⟨_, rfl⟩
                obtain ⟨Xc, hXc⟩ : ∃ X, S.extract C.size S.size = X := ⟨_, rfl⟩
                have hXcl : Xc.data.toList = S.data.toList.drop C.size := by rw [← hXc, extract_bytes]; simp; exact List.take_of_length_le (by simp)
                have hXcs : Xc.size ≤ 1048576 := by
                  have h1 : Xc.size = Xc.data.toList.length := by simp
                  rw [h1, hXcl]
                  have h2 := len_list S
                  simp only [List.length_drop]
                  omega
                obtain ⟨Xd, hXd⟩ : ∃ X, S.extract D.size S.size = X := ⟨_, rfl⟩
                have hXdl : Xd.data.toList = S.data.toList.drop D.size := by rw [← hXd, extract_bytes]; simp; exact List.take_of_length_le (by simp)
                have hXds : Xd.size ≤ 1048576 := by
                  have h1 : Xd.size = Xd.data.toList.length := by simp
                  rw [h1, hXdl]
                  have h2 := len_list S
                  simp only [List.length_drop]
                  omega
                have n1 := patMatch_is T (by omega) (.slice a1 v1.length p1) v1 Xc hXcs
                rw [hXcl, show patB T.data.toList v1 (S.data.toList.drop C.size) = sE from by rw [← hsE, ← HE.out.mc, hlC]] at n1
                have N2 : Hid (sE = true → ∀ w, LiveAt w (.slice a1 v1.length p1) v1 → Calls Try.prog 10 #[patV T (.slice a1 v1.length p1), .string Xd] w (Gives w (.bool true))) := Lib.hid (fun h w hl => by
                  have := patMatch_is T (by omega) (.slice a1 v1.length p1) v1 Xd hXds w hl
                  rwa [hXdl, show patB T.data.toList v1 (S.data.toList.drop D.size) = true from by
                    have h3 := HE.out.md (hsE.trans h)
                    rw [hlD] at h3
                    exact h3] at this)
                have HNo2 : Hid (sE = false → C = S ∧ D = S) := Lib.hid (fun h => by
                  obtain ⟨e1, e2⟩ := HE.out.no (hsE.trans h)
                  exact ⟨bytes_same e1, bytes_same e2⟩)
                rw [hsE]
                unfold patV at n1 N2
                have N1 := Lib.hid n1
                clear n1 hsE hXcl hXcs hXdl hXds
                have s0 : (sE == sE) = true := by cases sE <;> rfl
                cases sE with
                | true =>
                  have N3 := Lib.hid (N2.out rfl)
                  clear N2 HNo2
                  go_wp2
                  have L0 : ∀ q : Later wr, q.at_.cell? ⟨bp, 0, none⟩ = some (.string T) := fun q => (hP7.after q.below).cell 0 rfl
                  have L1 : ∀ q : Later wr, q.at_.cell? ⟨bp, 1, none⟩ = some (.slice a1 v1.length p1) := fun q => (hP7.after q.below).cell 1 rfl
                  refine region_later (by kernel_rfl) (by kernel_rfl) ?_
                  repeat (go_big_quiet_step (fail))
                  go_big_quiet_step (exact later (N1.out _ (hL7.after (Later.below _))))
                  repeat (go_big_quiet_step (fail))
                  go_big_quiet_step (exact later (N3.out _ (hL7.after (Later.below _))))
                  repeat (go_big_quiet_step (fail))
                  go_big_quiet_step (exact later (HW.out _))
                  repeat (go_big_quiet_step (fail))
                  refine wpQuiet_nil ?_
                  rintro _ ⟨q, rfl⟩
                  go_wp2
                  go_ret
                  exact ⟨rfl, bel_step hb7 q.below⟩
                | false =>
                  obtain ⟨e1, e2⟩ := HNo2.out rfl
                  have w1 : (C.toList == S.toList) = true := by rw [e1]; simp
                  have w2 : (D.toList == S.toList) = true := by rw [e2]; simp
                  clear N2 HNo2 e1 e2
                  go_wp2
                  have L0 : ∀ q : Later wr, q.at_.cell? ⟨bp, 0, none⟩ = some (.string T) := fun q => (hP7.after q.below).cell 0 rfl
                  have L1 : ∀ q : Later wr, q.at_.cell? ⟨bp, 1, none⟩ = some (.slice a1 v1.length p1) := fun q => (hP7.after q.below).cell 1 rfl
                  refine region_later (by kernel_rfl) (by kernel_rfl) ?_
                  repeat (go_big_quiet_step (fail))
                  go_big_quiet_step (exact later (N1.out _ (hL7.after (Later.below _))))
                  repeat (go_big_quiet_step (fail))
                  go_big_quiet_step (exact later (HW.out _))
                  repeat (go_big_quiet_step (fail))
                  refine wpQuiet_nil ?_
                  rintro _ ⟨q, rfl⟩
                  go_wp2
                  go_ret
                  exact ⟨rfl, bel_step hb7 q.below⟩
          | false =>
            obtain ⟨e1, e2⟩ := HNo.out rfl
            have w1 : (A.toList == S.toList) = true := by rw [e1]; simp
            have w2 : (B.toList == S.toList) = true := by rw [e2]; simp
            clear N2 HNo e1 e2
            go_wp2
            have L0 : ∀ q : Later wr, q.at_.cell? ⟨bp, 0, none⟩ = some (.string T) := fun q => (hP5.after q.below).cell 0 rfl
            have L1 : ∀ q : Later wr, q.at_.cell? ⟨bp, 1, none⟩ = some (.slice a1 v1.length p1) := fun q => (hP5.after q.below).cell 1 rfl
            refine region_later (by kernel_rfl) (by kernel_rfl) ?_
            repeat (go_big_quiet_step (fail))
            go_big_quiet_step (exact later (N1.out _ (hL5.after (Later.below _))))
            repeat (go_big_quiet_step (fail))
            refine wpQuiet_nil ?_
            rintro _ ⟨q, rfl⟩
            have hP6 := hP5.after q.below
            have hL6 := hL5.after q.below
            have hb6 := bel_step hb5 q.below
            clear L0 L1 hP5 hL5 hb5
            generalize q.at_ = x6 at *
            clear hXa hXb k0 k1 k2 k3 s0
            go_wp2
            go_loopw [11, 14] (fun g z wr => ∃ k : Nat, k ≤ S.size + 1 ∧ z = .int .i64 (k : Int) ∧ g = .bool (anyD (patB T.data.toList v1) S.data.toList k) ∧ BlkAt wr bp #[.string T, (.slice a1 v1.length p1)] 25 ∧ LiveAt wr (.slice a1 v1.length p1) v1 ∧ Below w.heap.size w wr) (fun _ z _ => S.size + 1 - (intOf z).toNat)
            case atStart => exact ⟨0, Nat.zero_le _, rfl, rfl, hP6, hL6, hb6⟩
            case round =>
              obtain ⟨k, hk9, rfl, rfl, hP7, hL7, hb7⟩ := hrel
              clear hP6 hL6 hb6
              by_cases hk : k ≤ S.size
              · obtain ⟨X, hX⟩ : ∃ X, S.extract k S.size = X := ⟨_, rfl⟩
                have HXl : Hid (X.data.toList = S.data.toList.drop k) := Lib.hid (by rw [← hX, extract_bytes]; simp; exact List.take_of_length_le (by simp))
                have hXs : X.size ≤ 1048576 := by
                  have h1 : X.size = X.data.toList.length := by simp
                  rw [h1, HXl.out]
                  have h2 := len_list S
                  simp only [List.length_drop]
                  omega
                have hMt := patMatch_is T (by omega) (.slice a1 v1.length p1) v1 X hXs
                rw [HXl.out] at hMt
                have HS : Hid (anyD (patB T.data.toList v1) S.data.toList (k + 1) = (anyD (patB T.data.toList v1) S.data.toList k || patB T.data.toList v1 (S.data.toList.drop k))) := Lib.hid (anyD_succ _ _ _)
                have HAl : Hid (patB T.data.toList v1 (S.data.toList.drop k) = true → k ≤ C.size ∧ D.size ≤ k) := Lib.hid (fun h => by
                  have := HE.out.all k (by rw [len_list]; exact hk) h
                  rw [hlC, hlD] at this
                  exact this)
                generalize patB T.data.toList v1 (S.data.toList.drop k) = y at *
                unfold patV at hMt
                have HMt := Lib.hid hMt
                clear hMt
                have i0 : (0 : Int) ≤ (k : Int) := by omega
                have i1 : (k : Int) ≤ (S.size : Int) := by omega
                go_wp2
                have L0 : ∀ q : Later wr, q.at_.cell? ⟨bp, 0, none⟩ = some (.string T) := fun q => (hP7.after q.below).cell 0 rfl
                have L1 : ∀ q : Later wr, q.at_.cell? ⟨bp, 1, none⟩ = some (.slice a1 v1.length p1) := fun q => (hP7.after q.below).cell 1 rfl
                refine region_later (by kernel_rfl) (by kernel_rfl) ?_
                repeat (go_big_quiet_step (fail))
                go_big_quiet_step (exact later (HMt.out _ (hL7.after (Later.below _))))
                repeat (go_big_quiet_step (fail))
                refine wpQuiet_nil ?_
                rintro _ ⟨q, rfl⟩
                have hP8 := hP7.after q.below
                have hL8 := hL7.after q.below
                have hb8 := bel_step hb7 q.below
                clear L0 L1 hP7 hL7 hb7
                generalize q.at_ = x8 at *
                clear hX HMt
                cases y with
                | true =>
                  obtain ⟨q1, q2⟩ := HAl.out rfl
                  have b1 : decide (C.size < k) = false := decide_eq_false (by omega)
                  have b2 : decide (k < D.size) = false := decide_eq_false (by omega)
                  cases hg : anyD (patB T.data.toList v1) S.data.toList k with
                  | true =>
                    have HG : Hid (anyD (patB T.data.toList v1) S.data.toList (k + 1) = true) := Lib.hid (by rw [HS.out, hg]; rfl)
                    clear hg HS
                    go_wp2
                    go_roundw
                    case rel => exact ⟨k + 1, by omega, by go_num, by rw [HG.out], hP8, hL8, hb8⟩
                    case measure => simp [intOf]; omega
                  | false =>
                    have HG : Hid (anyD (patB T.data.toList v1) S.data.toList (k + 1) = true) := Lib.hid (by rw [HS.out, hg]; rfl)
                    clear hg HS
                    go_wp2
                    go_roundw
                    case rel => exact ⟨k + 1, by omega, by go_num, by rw [HG.out], hP8, hL8, hb8⟩
                    case measure => simp [intOf]; omega
                | false =>
                  cases hg : anyD (patB T.data.toList v1) S.data.toList k with
                  | true =>
                    have HG : Hid (anyD (patB T.data.toList v1) S.data.toList (k + 1) = true) := Lib.hid (by rw [HS.out, hg]; rfl)
                    clear hg HS
                    go_wp2
                    go_roundw
                    case rel => exact ⟨k + 1, by omega, by go_num, by rw [HG.out], hP8, hL8, hb8⟩
                    case measure => simp [intOf]; omega
                  | false =>
                    have HG : Hid (anyD (patB T.data.toList v1) S.data.toList (k + 1) = false) := Lib.hid (by rw [HS.out, hg]; rfl)
                    clear hg HS
                    go_wp2
                    go_roundw
                    case rel => exact ⟨k + 1, by omega, by go_num, by rw [HG.out], hP8, hL8, hb8⟩
                    case measure => simp [intOf]; omega
              · have hkn : k = S.size + 1 := by omega
                have HK : Hid (anyD (patB T.data.toList v1) S.data.toList k = anyD (patB T.data.toList v1) S.data.toList (S.data.toList.length + 1)) := Lib.hid (by rw [hkn, len_list])
                clear hkn
                rw [HK.out]
                obtain ⟨sE, hsE⟩ : ∃ sE, anyD (patB T.data.toList v1) S.data.toList (S.data.toList.length + 1) = sE := ⟨_, rfl⟩
                obtain ⟨Xc, hXc⟩ : ∃ X, S.extract C.size S.size = X := ⟨_, rfl⟩
                have hXcl : Xc.data.toList = S.data.toList.drop C.size := by rw [← hXc, extract_bytes]; simp; exact List.take_of_length_le (by simp)
                have hXcs : Xc.size ≤ 1048576 := by
                  have h1 : Xc.size = Xc.data.toList.length := by simp
                  rw [h1, hXcl]
                  have h2 := len_list S
                  simp only [List.length_drop]
                  omega
                obtain ⟨Xd, hXd⟩ : ∃ X, S.extract D.size S.size = X := ⟨_, rfl⟩
                have hXdl : Xd.data.toList = S.data.toList.drop D.size := by rw [← hXd, extract_bytes]; simp; exact List.take_of_length_le (by simp)
                have hXds : Xd.size ≤ 1048576 := by
                  have h1 : Xd.size = Xd.data.toList.length := by simp
                  rw [h1, hXdl]
                  have h2 := len_list S
                  simp only [List.length_drop]
                  omega
                have n1 := patMatch_is T (by omega) (.slice a1 v1.length p1) v1 Xc hXcs
                rw [hXcl, show patB T.data.toList v1 (S.data.toList.drop C.size) = sE from by rw [← hsE, ← HE.out.mc, hlC]] at n1
                have N2 : Hid (sE = true → ∀ w, LiveAt w (.slice a1 v1.length p1) v1 → Calls Try.prog 10 #[patV T (.slice a1 v1.length p1), .string Xd] w (Gives w (.bool true))) := Lib.hid (fun h w hl => by
                  have := patMatch_is T (by omega) (.slice a1 v1.length p1) v1 Xd hXds w hl
                  rwa [hXdl, show patB T.data.toList v1 (S.data.toList.drop D.size) = true from by
                    have h3 := HE.out.md (hsE.trans h)
                    rw [hlD] at h3
                    exact h3] at this)
                have HNo2 : Hid (sE = false → C = S ∧ D = S) := Lib.hid (fun h => by
                  obtain ⟨e1, e2⟩ := HE.out.no (hsE.trans h)
                  exact ⟨bytes_same e1, bytes_same e2⟩)
                rw [hsE]
                unfold patV at n1 N2
                have N1 := Lib.hid n1
                clear n1 hsE hXcl hXcs hXdl hXds
                have s0 : (sE == sE) = true := by cases sE <;> rfl
                cases sE with
                | true =>
                  have N3 := Lib.hid (N2.out rfl)
                  clear N2 HNo2
                  go_wp2
                  have L0 : ∀ q : Later wr, q.at_.cell? ⟨bp, 0, none⟩ = some (.string T) := fun q => (hP7.after q.below).cell 0 rfl
                  have L1 : ∀ q : Later wr, q.at_.cell? ⟨bp, 1, none⟩ = some (.slice a1 v1.length p1) := fun q => (hP7.after q.below).cell 1 rfl
                  refine region_later (by kernel_rfl) (by kernel_rfl) ?_
                  repeat (go_big_quiet_step (fail))
                  go_big_quiet_step (exact later (N1.out _ (hL7.after (Later.below _))))
                  repeat (go_big_quiet_step (fail))
                  go_big_quiet_step (exact later (N3.out _ (hL7.after (Later.below _))))
                  repeat (go_big_quiet_step (fail))
                  go_big_quiet_step (exact later (HW.out _))
                  repeat (go_big_quiet_step (fail))
                  refine wpQuiet_nil ?_
                  rintro _ ⟨q, rfl⟩
                  go_wp2
                  go_ret
                  exact ⟨rfl, bel_step hb7 q.below⟩
                | false =>
                  obtain ⟨e1, e2⟩ := HNo2.out rfl
                  have w1 : (C.toList == S.toList) = true := by rw [e1]; simp
                  have w2 : (D.toList == S.toList) = true := by rw [e2]; simp
                  clear N2 HNo2 e1 e2
                  go_wp2
                  have L0 : ∀ q : Later wr, q.at_.cell? ⟨bp, 0, none⟩ = some (.string T) := fun q => (hP7.after q.below).cell 0 rfl
                  have L1 : ∀ q : Later wr, q.at_.cell? ⟨bp, 1, none⟩ = some (.slice a1 v1.length p1) := fun q => (hP7.after q.below).cell 1 rfl
                  refine region_later (by kernel_rfl) (by kernel_rfl) ?_
                  repeat (go_big_quiet_step (fail))
                  go_big_quiet_step (exact later (N1.out _ (hL7.after (Later.below _))))
                  repeat (go_big_quiet_step (fail))
                  go_big_quiet_step (exact later (HW.out _))
                  repeat (go_big_quiet_step (fail))
                  refine wpQuiet_nil ?_
                  rintro _ ⟨q, rfl⟩
                  go_wp2
                  go_ret
                  exact ⟨rfl, bel_step hb7 q.below⟩
    · go_wp2_with fail
      refine (HW.out _).mono ?_
      rintro e v9 ⟨rfl, j9⟩
      go_wp2
      go_ret
      exact ⟨rfl, j9⟩
  · go_wp2_with fail
    refine (HW.out _).mono ?_
    rintro e v9 ⟨rfl, j9⟩
    go_wp2
    go_ret
    exact ⟨rfl, j9⟩
end Go.Proofs.Ytmpneifjjnfckaa
