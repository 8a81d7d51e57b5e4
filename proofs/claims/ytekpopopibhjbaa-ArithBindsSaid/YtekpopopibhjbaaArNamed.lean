/-
  The contract of package arith's named: the number that a name stands for (a deferred function that recovers stands behind it).
-/
import Derived.Test.YtekpopopibhjbaaArFace
import Derived.Test.YtekpopopibhjbaaText
import Derived.Defers
import Derived.Recover
namespace Go.Proofs.Ytekpopopibhjbaa
open Go.RowKit

theorem quiet_door (w : World) : CallsD Try.prog 36 #[] .returning w fun e u' w' => e = .returned (.tuple #[]) ∧ u' = .returning ∧ w' = w := by
  refine callsD_of_wpS Try.func36 rfl fun c₀ cs hu => ?_
  apply wpS_region
  simp [wpOpsS, go_sem, recoverD, hu, Try.ntmps36, bodyPostS, results, Try.results36]
  cases c₀
  simp_all

def minB : List UInt8 → Bool
  | 45 :: _ => true
  | _ => false
def unminus (l : List UInt8) : List UInt8 := if minB l then l.drop 1 else l

set_option maxHeartbeats 1000000 in
theorem hasP_is (s : ByteArray) (w : World) (hs : s.size ≤ maxLen) : Calls Try.prog 43 #[.string s, .string ⟨#[45]⟩] w fun e w' => e = .returned (.bool (minB s.data.toList)) ∧ w = w' := by
  unfold maxLen at hs
  by_cases hp : 1 ≤ s.size
  · have hb : ((s.extract 0 1).toList == [45]) = minB s.data.toList := by
      rw [toList_data, extract_bytes]
      have h0 := drop_cons s 0 hp
      rw [List.drop_zero] at h0
      rw [h0]
      show (([s[0]] : List UInt8) == [45]) = _
      by_cases h45 : s[0] = 45
      · rw [h45]; rfl
      · have : minB (s[0] :: s.data.toList.drop (0 + 1)) = false := by
          unfold minB
          split
          · rename_i h; injection h with h1 _; exact absurd h1 h45
          · rfl
        rw [this]
        simpa using h45
    have d1 : decide ((1 : Int) ≤ (s.size : Int)) = true := decide_eq_true (by omega)
    obtain ⟨q, hq⟩ : ∃ q, minB s.data.toList = q := ⟨_, rfl⟩
    rw [hq] at hb ⊢
    clear hq
    go_enter Try.func43, Try.ntmps43
    go_wp2
    go_ret
    exact ⟨rfl, rfl⟩
  · have hz : s = ⟨#[]⟩ := by
      obtain ⟨⟨l⟩⟩ := s
      cases l with
      | nil => rfl
      | cons c l => exact absurd (show 1 ≤ (ByteArray.mk ⟨c :: l⟩).size by show 1 ≤ (c :: l).length; simp) hp
    subst hz
    clear hp hs
    go_enter Try.func43, Try.ntmps43
    go_wp2
    go_ret
    exact ⟨rfl, rfl⟩

theorem ext_from1 (T : ByteArray) : (T.extract 1 T.size).data.toList = T.data.toList.drop 1 := by
  rw [extract_bytes]
  show (T.data.toList.drop 1).take (T.size - 1) = _
  rw [List.take_of_length_le (by simp)]
theorem min_pos {s : ByteArray} (h : minB s.data.toList = true) : 1 ≤ s.size := by
  obtain ⟨⟨l⟩⟩ := s
  cases l with
  | nil => cases h
  | cons c l => show 1 ≤ (c :: l).length; simp
theorem str_of {s : ByteArray} {l : List UInt8} (h : s.data.toList = l) : Value.string s = strV l := by subst h; rfl

set_option maxHeartbeats 1000000 in
theorem cut_is (s : ByteArray) (w : World) (hs : s.size ≤ maxLen) : Calls Try.prog 37 #[.string s, .string ⟨#[45]⟩] w fun e w' => e = .returned (.tuple #[strV (unminus s.data.toList), .bool (minB s.data.toList)]) ∧ w = w' := by
  have H := Lib.hid (hasP_is s · hs)
  unfold maxLen at hs
  cases hm : minB s.data.toList with
  | true =>
    have hp := min_pos hm
    have hp1 : (1 : Int) ≤ (s.size : Int) := by omega
    have HE : Hid (Value.string (s.extract 1 s.size) = strV (unminus s.data.toList)) := Lib.hid (str_of (by rw [ext_from1]; unfold unminus; rw [hm]; rfl))
    rw [hm] at H
    clear hm
    go_enter Try.func37, Try.ntmps37
    go_wp2_with (first | (go_at_call 43; refine (H.out _).mono ?_; rintro e w1 ⟨rfl, rfl⟩) | (go_at_call 40; go_in))
    go_ret2
    exact ⟨by rw [← HE.out]; rfl, rfl⟩
  | false =>
    have HE : Hid (Value.string s = strV (unminus s.data.toList)) := Lib.hid (str_of (by unfold unminus; rw [hm]; rfl))
    rw [hm] at H
    clear hm
    go_enter Try.func37, Try.ntmps37
    go_wp2_with (first | (go_at_call 43; refine (H.out _).mono ?_; rintro e w1 ⟨rfl, rfl⟩) | (go_at_call 40; go_in))
    go_ret2
    exact ⟨by rw [← HE.out]; rfl, rfl⟩

/-- what named tells -/
def namedV (o : Option Int) : Value := .tuple #[.int .i64 (o.getD 0), .bool o.isSome]
theorem val_min {l : List UInt8} (h : minB l = true) : valN l = (numB (unminus l)).map (fun n => -n) := by
  cases l with
  | nil => cases h
  | cons c t =>
    have hc : c = 45 := by
      unfold minB at h
      split at h
      · rename_i h'; injection h'
      · cases h
    subst hc
    rfl
theorem val_plain {l : List UInt8} (h : minB l = false) (hn : l ≠ []) : valN l = numB (unminus l) := by
  cases l with
  | nil => exact absurd rfl hn
  | cons c t =>
    have hc : ¬ c = 45 := fun hc => by subst hc; cases h
    unfold unminus
    rw [h]
    simp only [valN, hc, if_false]
    rfl
theorem num_range {l : List UInt8} {n : Int} (h : numB l = some n) : 0 ≤ n ∧ n ≤ 4611686018427387904 := by
  have key : ∀ (l : List UInt8) (m : Int), 0 ≤ m → m ≤ 4611686018427387904 → numGo l m = some n → 0 ≤ n ∧ n ≤ 4611686018427387904 := by
    intro l
    induction l with
    | nil => intro m h0 h1 h; simp only [numGo, Option.some.injEq] at h; omega
    | cons c r ih =>
      intro m h0 h1 h
      cases hd : digB (c.toNat : Int) with
      | false => rw [numGo_bad hd] at h; cases h
      | true =>
        have hb := digB_yes hd
        by_cases hg : (4611686018427387904 - ((c.toNat : Int) - 48)) / 10 < m
        · rw [numGo_big hd hg] at h; cases h
        · rw [numGo_step hd hg] at h
          exact ih _ (by omega) (by omega) h
  unfold numB at h
  split at h
  · cases h
  · exact key l 0 (by omega) (by omega) h

set_option maxHeartbeats 4000000 in
theorem named_is (x : ByteArray) (f : FuncId) (caps : Array Value) (val : List UInt8 → List UInt8) (w : World) (hx : x.size ≤ 1048576) (hv : ∀ y, (val y).length ≤ 100000) (HG : GetIs w f caps val) :
    Calls Try.prog 28 #[.string x, .func (.func f) #[] caps] w fun e w' => e = .returned (namedV (valN (val x.data.toList))) ∧ Below w.heap.size w w' := by
  have HC := Lib.hid (HG.2 w (Below.refl _ _) x hx)
  have hcall := HG.1
  have hl := hv x.data.toList
  clear HG hv
  obtain ⟨l, hl2⟩ : ∃ l, val x.data.toList = l := ⟨_, rfl⟩
  rw [hl2] at HC hl ⊢
  clear hl2
  obtain ⟨V, hV⟩ : ∃ V, valN l = V := ⟨_, rfl⟩
  rw [hV]
  have HV := Lib.hid hV
  clear hV
  have hnil : ∀ w', Sem.run Try.prog (binOp BinOp.eql 29 (Value.func (Fn.func f) #[] caps) Value.nilFunc) w' = .ok (.bool false) w' := fun w' => by
    simp [binOp, go_sem]
    rfl
  go_enter_defers Try.func28, Try.ntmps28
  go_wp2_with fail
  refine HC.out.mono ?_
  rintro e w1 ⟨⟨b, rfl, hb⟩, hbel⟩
  clear HC hcall hnil
  cases b with
  | false =>
    have hl0 := hb rfl
    subst hl0
    have HX : Hid (V = some 0) := Lib.hid (by rw [← HV.out]; rfl)
    clear HV hl
    go_wp2
    refine leaves_cons (f := 36) (args := #[]) (by simp) (by simp [go_sem]) ?_
    refine (quiet_door _).mono ?_
    rintro e u' w'' ⟨rfl, rfl, rfl⟩
    exact ⟨_, results_tmp2 rfl _ _ _, by rw [HX.out]; rfl, hbel⟩
  | true =>
    clear hb
    by_cases hl0 : l = []
    · subst hl0
      have HX : Hid (V = some 0) := Lib.hid (by rw [← HV.out]; rfl)
      clear HV hl
      simp only [strV]
      go_wp2
      refine leaves_cons (f := 36) (args := #[]) (by simp) (by simp [go_sem]) ?_
      refine (quiet_door _).mono ?_
      rintro e u' w'' ⟨rfl, rfl, rfl⟩
      exact ⟨_, results_tmp2 rfl _ _ _, by rw [HX.out]; rfl, hbel⟩
    · obtain ⟨T, hT⟩ : ∃ T : ByteArray, (⟨l.toArray⟩ : ByteArray) = T := ⟨_, rfl⟩
      have hTd : T.data.toList = l := by rw [← hT]
      have hTs : T.size = l.length := by rw [← hTd]; simp
      have hne : T.toList.isEmpty = false := by
        rw [toList_data, hTd]
        cases l with
        | nil => exact absurd rfl hl0
        | cons c r => rfl
      have hC := fun w => cut_is T w (by unfold maxLen; omega)
      rw [hTd] at hC
      obtain ⟨U, hU⟩ : ∃ U : ByteArray, (⟨(unminus l).toArray⟩ : ByteArray) = U := ⟨_, rfl⟩
      have hUd : U.data.toList = unminus l := by rw [← hU]
      have hUs : U.size ≤ maxLen := by
        have h1 : U.size = (unminus l).length := by rw [← hUd]; simp
        have h2 : (unminus l).length ≤ l.length := by unfold unminus; split <;> simp
        unfold maxLen
        omega
      have hN := fun w => Number_any U w hUs
      rw [hUd] at hN
      have HVm : Hid (minB l = true → valN l = (numB (unminus l)).map (fun n => -n)) := Lib.hid val_min
      have HVp : Hid (minB l = false → valN l = numB (unminus l)) := Lib.hid fun h => val_plain h hl0
      have HRg : Hid (∀ n, numB (unminus l) = some n → 0 ≤ n ∧ n ≤ 4611686018427387904) := Lib.hid fun n h => num_range h
      simp only [strV, hU] at hC
      have HC := Lib.hid hC
      generalize hmb : minB l = m at *
      generalize hnb : numB (unminus l) = o at *
      have HN := Lib.hid hN
      rw [HV.out] at HVm HVp
      clear hl hl0 hTd hUd hUs hN hC hmb hnb hU
      simp only [strV, hT]
      clear hT hTs
      cases m with
      | false =>
        have HX := Lib.hid (HVp.out rfl)
        clear HVm HVp
        cases o with
        | none =>
          go_wp2_with fail
          refine (HC.out _).mono ?_
          rintro e w2 ⟨rfl, rfl⟩
          go_wp2_with fail
          refine (HN.out _).mono ?_
          rintro e w2 ⟨rfl, rfl⟩
          simp only [numRes]
          go_wp2
          refine leaves_cons (f := 36) (args := #[]) (by simp) (by simp [go_sem]) ?_
          refine (quiet_door _).mono ?_
          rintro e u' w'' ⟨rfl, rfl, rfl⟩
          exact ⟨_, results_tmp2 rfl _ _ _, by rw [HX.out]; rfl, hbel⟩
        | some n =>
          go_wp2_with fail
          refine (HC.out _).mono ?_
          rintro e w2 ⟨rfl, rfl⟩
          go_wp2_with fail
          refine (HN.out _).mono ?_
          rintro e w2 ⟨rfl, rfl⟩
          simp only [numRes]
          go_wp2
          refine leaves_cons (f := 36) (args := #[]) (by simp) (by simp [go_sem]) ?_
          refine (quiet_door _).mono ?_
          rintro e u' w'' ⟨rfl, rfl, rfl⟩
          exact ⟨_, results_tmp2 rfl _ _ _, by rw [HX.out]; rfl, hbel⟩
      | true =>
        have HX := Lib.hid (HVm.out rfl)
        clear HVm HVp
        cases o with
        | none =>
          go_wp2_with fail
          refine (HC.out _).mono ?_
          rintro e w2 ⟨rfl, rfl⟩
          go_wp2_with fail
          refine (HN.out _).mono ?_
          rintro e w2 ⟨rfl, rfl⟩
          simp only [numRes]
          go_wp2
          refine leaves_cons (f := 36) (args := #[]) (by simp) (by simp [go_sem]) ?_
          refine (quiet_door _).mono ?_
          rintro e u' w'' ⟨rfl, rfl, rfl⟩
          exact ⟨_, results_tmp2 rfl _ _ _, by rw [HX.out]; rfl, hbel⟩
        | some n =>
          obtain ⟨hr0, hr1⟩ := HRg.out n rfl
          go_wp2_with fail
          refine (HC.out _).mono ?_
          rintro e w2 ⟨rfl, rfl⟩
          go_wp2_with fail
          refine (HN.out _).mono ?_
          rintro e w2 ⟨rfl, rfl⟩
          simp only [numRes]
          go_wp2
          refine leaves_cons (f := 36) (args := #[]) (by simp) (by simp [go_sem]) ?_
          refine (quiet_door _).mono ?_
          rintro e u' w'' ⟨rfl, rfl, rfl⟩
          exact ⟨_, results_tmp2 rfl _ _ _, by rw [HX.out]; rfl, hbel⟩
end Go.Proofs.Ytekpopopibhjbaa
