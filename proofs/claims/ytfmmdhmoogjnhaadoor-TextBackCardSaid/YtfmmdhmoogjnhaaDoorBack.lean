/-
  conchlaw1.TextBack returns true for every input.
-/
import Derived.Test.YtfmmdhmoogjnhaaDoorTells
import Derived.Test.YtfmmdhmoogjnhaaDoorBackPlain
namespace Go.Proofs.YtfmmdhmoogjnhaaDoor
open Go.RowKit

theorem data_of (l : List UInt8) : (⟨l.toArray⟩ : ByteArray).data.toList = l := rfl

set_option maxHeartbeats 4000000 in
theorem TextBack_walk (n : Int) (s : ByteArray) (w : World) (hs : s.size ≤ maxLen) (ht : TabOk w) :
    Calls Tryd.prog 5 #[.int .i64 n, .string s] w (Gives w (.bool true)) := by
  have HT := Lib.hid ht; clear ht
  by_cases hl : 400 < s.size
  · unfold maxLen at hs
    go_enter Tryd.func5, Tryd.ntmps5
    go_wp2_with fail
    refine (awake_any _ HT.out).mono ?_
    rintro e w2 ⟨rfl, hb2⟩
    have HB2 := Lib.hid hb2; clear hb2
    go_wp2
    go_ret
    exact ⟨rfl, HB2.out⟩
  · clear hs
    have hsm : s.size ≤ 1048576 := by omega
    have hl3 : decide ((400 : Int) < (s.size : Int)) = false := decide_eq_false (by omega)
    have hm0 := and_mask_le n 62 (by decide) 4611686018427387903 (by decide)
    obtain ⟨m, hm⟩ : ∃ m, bits BinOp.and IntKind.i64 n 4611686018427387903 = m := ⟨_, rfl⟩
    rw [hm] at hm0
    obtain ⟨ha, hb⟩ := hm0
    have HL := Lib.hid (itoa_len m (by omega) (by omega))
    have HL2 := Lib.hid (itoa_len (-1 - m) (by omega) (by omega))
    have HN : Hid (numB (Lib.itoa m) = some m) := Lib.hid (by rw [numB_itoa _ ha]; unfold maxNum; rw [if_pos (by omega)])
    have HN0 : Hid (numB (48 :: 48 :: Lib.itoa m) = some m) := Lib.hid (by rw [numB_noughts _ ha]; unfold maxNum; rw [if_pos (by omega)])
    have HNn : Hid (numB (Lib.itoa (-1 - m)) = none) := Lib.hid (numB_below _ (by omega))
    go_enter Tryd.func5, Tryd.ntmps5
    go_wp2_with fail
    refine (Digits_any m (by omega) (by omega) _ HT.out).mono ?_
    rintro e w1 ⟨rfl, hb1⟩
    have HB1 := Lib.hid hb1; clear hb1
    rw [strV_eq]
    go_wp2_with fail
    refine (Number_is _ (some m) _ (small_len (by rw [size_list]; have := HL.out; omega)) (by rw [data_list]; exact HN.out)).mono ?_
    rintro e w' ⟨rfl, rfl⟩
    go_wp2_with fail
    refine (Digits_any m (by omega) (by omega) _ (HT.out.below HB1.out)).mono ?_
    rintro e w2 ⟨rfl, hb2⟩
    have HB2 := Lib.hid (HB1.out.trans (hb2.mono HB1.out.size)); clear hb2 HB1
    obtain ⟨I, hI⟩ : ∃ I : ByteArray, I = ⟨(Lib.itoa m).toArray⟩ := ⟨_, rfl⟩
    have hIs : I.size ≤ 30 := by rw [hI, size_list]; exact HL.out
    have HI : Hid (I.data.toList = Lib.itoa m) := Lib.hid (by rw [hI])
    rw [strV_eq, ← hI]
    clear hI
    go_wp2_with fail
    refine (Number_is _ (some m) _ (small_len (by rw [ByteArray.size_append]; show 2 + _ ≤ _; omega)) (by rw [app_data, HI.out]; exact HN0.out)).mono ?_
    rintro e w' ⟨rfl, rfl⟩
    go_wp2_with fail
    refine (Digits_any (-1 - m) (by omega) (by omega) _ (HT.out.below HB2.out)).mono ?_
    rintro e w3 ⟨rfl, hb3⟩
    have HB3 := Lib.hid (HB2.out.trans (hb3.mono HB2.out.size)); clear hb3 HB2
    rw [strV_eq]
    go_wp2_with fail
    refine (Number_is _ none _ (small_len (by rw [size_list]; have := HL2.out; omega)) (by rw [data_list]; exact HNn.out)).mono ?_
    rintro e w' ⟨rfl, rfl⟩
    clear HN HN0 HNn HL HL2
    go_wp2_with fail
    obtain ⟨ls, hls⟩ : ∃ ls, linesOf s.data.toList = ls := ⟨_, rfl⟩
    have hj0 : Joined s.data.toList [] ls 0 := by rw [← hls]; exact joined_start _
    have HJ := Lib.hid hj0; clear hj0
    refine (Lines_is _ ls _ hsm hls).mono ?_
    clear hls
    rintro e w4 ⟨v1, rfl, hown1, hb4⟩
    have HB4 := Lib.hid (HB3.out.trans (hb4.mono HB3.out.size))
    obtain ⟨ao, cap, rfl, hlm, hco⟩ := StrRow.of_owns hown1
    have HC := Lib.hid hco
    clear hown1 hb4 HB3 hco
    unfold maxLen at hlm
    generalize hn : ls.length = N at *
    have HNl := Lib.hid hn; clear hn
    go_wp2_with fail
    go_loop [12, 13] (fun a b => ∃ (t : ByteArray) (k : Nat), k ≤ N ∧ a = .string t ∧ b = .int .i64 k ∧ Hid (Joined s.data.toList t.data.toList ls k)) (fun _ b => N - (intOf b).toNat)
    case atStart => exact ⟨ByteArray.empty, 0, Nat.zero_le _, rfl, rfl, HJ⟩
    case round =>
      obtain ⟨t, k, hk, rfl, rfl, HR⟩ := hrel
      clear HJ
      have hts : t.size ≤ s.size := by
        have := joined_le HR.out
        simpa using this
      by_cases hkn : k < N
      · obtain ⟨g, rfl, hg⟩ := HC.out (by omega)
        obtain ⟨x, hx⟩ : ∃ x, ls[k]? = some x := ⟨_, List.getElem?_eq_getElem (by have := HNl.out; omega)⟩
        have c1 := hg k x hx
        have hst := joined_step HR.out hx
        obtain ⟨X, hX⟩ : ∃ X : ByteArray, X = ⟨x.toArray⟩ := ⟨_, rfl⟩
        have hXd : X.data.toList = x := by rw [hX]
        have hXs : X.size = x.length := by rw [hX]; rfl
        have hls : s.data.toList.length = s.size := by simp
        have hlt : t.data.toList.length = t.size := by simp
        rw [hls, hlt, ← hXs, HNl.out] at hst
        rw [strV_eq, ← hX] at c1
        have HXd := Lib.hid hXd
        clear hX hXd hXs hls hlt hg hx HC
        rcases hst with ⟨h1, h2⟩ | ⟨h1, h2, h3⟩
        · have HJ := Lib.hid h2; clear h2
          have hX4 : X.size ≤ 400 := by omega
          have e1 : (t.size : Int) + (X.size : Int) < (s.size : Int) := by omega
          by_cases hk1 : k + 1 < N
          · have hk2 : (k : Int) + 1 < (N : Int) := by omega
            go_wp2_with fail
            go_round
            case rel => exact ⟨t ++ X ++ ⟨#[10]⟩, k + 1, by omega, rfl, by go_num, Lib.hid (by rw [app_data, app_data, HXd.out]; exact HJ.out)⟩
            case measure => simp [intOf]; omega
          · have hk2 : ¬ (k : Int) + 1 < (N : Int) := by omega
            go_wp2_with fail
            go_round
            case rel => exact ⟨t ++ X ++ ⟨#[10]⟩, k + 1, by omega, rfl, by go_num, Lib.hid (by rw [app_data, app_data, HXd.out]; exact HJ.out)⟩
            case measure => simp [intOf]; omega
        · have HJ := Lib.hid h3; clear h3
          have hX4 : X.size ≤ 400 := by omega
          have hk2 : ¬ (k : Int) + 1 < (N : Int) := by omega
          have e1 : ¬ (t.size : Int) + (X.size : Int) < (s.size : Int) := by omega
          have hk3 : ¬ k + 1 < N := by omega
          clear h1 h2
          go_wp2_with fail
          go_round
          case rel => exact ⟨t ++ X, k + 1, by omega, rfl, by go_num, Lib.hid (by rw [app_data, HXd.out]; exact HJ.out)⟩
          case measure => simp [intOf]; omega
      · have hts2 : t = s := WideShapes.bytes_inj (joined_end HR.out (by have := HNl.out; omega))
        subst hts2
        clear HR HC
        go_wp2_with fail
        refine (awake_any _ (HT.out.below HB4.out)).mono ?_
        rintro e w5 ⟨rfl, hb5⟩
        have HB5 := Lib.hid (HB4.out.trans (hb5.mono HB4.out.size)); clear hb5
        go_wp2
        go_ret
        exact ⟨rfl, HB5.out⟩
end Go.Proofs.YtfmmdhmoogjnhaaDoor
