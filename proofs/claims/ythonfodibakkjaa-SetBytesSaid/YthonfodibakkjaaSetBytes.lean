/-
  The walk of conchlaw3.SetBytes.
-/
import Derived.Test.YthonfodibakkjaaSetAwake
namespace Go.Proofs.Ythonfodibakkjaa
open Go.RowKit

theorem bytesS_rising (p : Nat → Bool) : (bytesS p).Pairwise (fun a b => a.toNat < b.toNat) := by
  unfold bytesS bytesUpto
  rw [List.pairwise_map]
  refine (List.Pairwise.filter p (List.pairwise_lt_range (n := 256))).imp_of_mem ?_
  intro a b ha hb h
  have ha2 : a < 256 := by have := (List.mem_filter.1 ha).1; simpa using this
  have hb2 : b < 256 := by have := (List.mem_filter.1 hb).1; simpa using this
  rw [UInt8.toNat_ofNat', UInt8.toNat_ofNat', Nat.mod_eq_of_lt ha2, Nat.mod_eq_of_lt hb2]
  exact h

theorem ofS_twice (l : List UInt8) (c : Nat) : ofS (l ++ l) c = ofS l c := by
  unfold ofS
  rw [List.any_append, Bool.or_self]

theorem app_data (a b : ByteArray) : (a ++ b).data.toList = a.data.toList ++ b.data.toList := by
  rw [ByteArray.data_append, Array.toList_append]

theorem bytesT (p : Nat → Bool) : ∃ T : ByteArray, T = ⟨(bytesS p).toArray⟩ ∧ T.size = cntS p ∧ (∀ j (h : j + 1 < T.size), (T[j]'(by omega)).toNat < (T[j + 1]'h).toNat) ∧ (∀ j (h : j < T.size), p (T[j]'h).toNat = true) := by
  have hz : (⟨(bytesS p).toArray⟩ : ByteArray).size = (bytesS p).length := by simp [ByteArray.size]
  refine ⟨_, rfl, by rw [hz, bytesS_len], fun j h => ?_, fun j h => ?_⟩
  · exact List.pairwise_iff_getElem.1 (bytesS_rising p) j (j + 1) (by omega) (by omega) (by omega)
  · exact (mem_bytesS p _).1 (List.getElem_mem (l := bytesS p) (by omega))

set_option maxHeartbeats 4000000 in
set_option maxRecDepth 100000 in
theorem SetBytes_walk (s : ByteArray) (w : World) :
    Calls Try.prog 6 #[.string s] w (Gives w (.bool true)) := by
  by_cases hs : (400 : Int) < s.size
  · go_enter Try.func6, Try.ntmps6
    go_wp2_with fail
    refine (awake_is _).mono ?_
    rintro e w1 ⟨rfl, hb1⟩
    go_wp2
    go_ret
    exact ⟨rfl, hb1⟩
  · have hs2 : s.size ≤ 400 := by omega
    have hd : decide ((400 : Int) < (s.size : Int)) = false := decide_eq_false hs
    obtain ⟨p, hp⟩ : ∃ p, ofS s.data.toList = p := ⟨_, rfl⟩
    have HP := Lib.hid hp
    have HO := Lib.hid (Of_is s (by omega))
    rw [hp] at HO
    have HB := Lib.hid (Bytes_is p)
    have HC := Lib.hid (Count_is p)
    have HH := Lib.hid (Has_is p)
    have HW := Lib.hid (Of_is (s ++ s) (by rw [ByteArray.size_append]; omega))
    have E := run_eq_set (ofS (s ++ s).data.toList) p
    rw [sameS_of (fun c _ => by rw [app_data, ofS_twice, hp])] at E
    generalize ofS (s ++ s).data.toList = p2 at *
    obtain ⟨T, eT, hT, hR, hM⟩ := bytesT p
    rw [← eT] at HB
    clear eT
    have HR := Lib.hid hR
    have HM := Lib.hid hM
    clear hR hM
    have hTl : T.size ≤ 256 := by rw [hT]; exact cntS_le p
    have HTS := Lib.hid hT
    rw [← hT] at HC
    have hadd := Lib.hid (fun w : World => run_string_add_sum (P := Try.prog) w s s (by omega))
    have HN := Lib.hid (fun w : World => SetAt.new w p)
    clear hT hp
    unfold setV at HO HB HC HH HW E
    go_enter Try.func6, Try.ntmps6
    go_wp2_with fail
    refine (HO.out _).mono ?_
    rintro e w1 ⟨rfl, hb1⟩
    have hA := HN.out w1
    obtain ⟨a0, a1, a2, a3⟩ := hA.cells
    have hbA := Lib.hid (bel_alloc hb1 (.cells #[.int .u64 (wd p 0 : Nat), .int .u64 (wd p 1 : Nat), .int .u64 (wd p 2 : Nat), .int .u64 (wd p 3 : Nat)] 24))
    clear hb1 HN
    go_wp2_with fail
    refine (HB.out _).mono ?_
    rintro e w2 ⟨rfl, hb2⟩
    have hA2 := Lib.hid (hA.after hb2)
    have hbB := Lib.hid (bel_step hbA.out hb2)
    clear hA a0 a1 a2 a3 hbA hb2
    go_wp2
    go_loopw [5] (fun i wr => ∃ j : Nat, j ≤ T.size ∧ i = .int .i64 ((j : Int) + 1) ∧ SetAt wr w1.heap.size p ∧ Below w.heap.size w wr) (fun i _ => T.size + 1 - (intOf i).toNat)
    case atStart => exact ⟨0, by omega, rfl, hA2.out, hbB.out⟩
    case round =>
      obtain ⟨j, hj, rfl, hS, hb⟩ := hrel
      by_cases hj2 : j + 1 < T.size
      · have h1 : (j : Int) + 1 < (T.size : Int) := by omega
        have h2 : (j : Int) < (T.size : Int) := by omega
        have h3 : (0 : Int) ≤ (j : Int) := by omega
        have h3b : (0 : Int) ≤ (j : Int) + 1 := by omega
        have h4 : IntKind.i64.wrap (j : Int) = (j : Int) := IntWalk.i64_in _ (by omega)
        have h5 : ((j : Int) + 1).toNat = j + 1 := by omega
        have hlt := HR.out j hj2
        have h7 : j < T.size := by omega
        have h6 : ¬ ((T[j + 1]'hj2).toNat : Int) ≤ ((T[j]'h7).toNat : Int) := by omega
        clear HO HB HC HH HW E hlt
        go_wp2
        refine region_later (by kernel_rfl) (by kernel_rfl) ?_
        repeat (go_big_quiet_step (fail))
        refine wpQuiet_nil ?_
        rintro _ ⟨x, rfl⟩
        go_wp2
        go_round
        case rel => exact ⟨j + 1, by omega, rfl, hS.after x.below, bel_step hb x.below⟩
        case measure => simp only [intOf]; omega
      · have h1 : ¬ (j : Int) + 1 < (T.size : Int) := by omega
        have hS0 := Lib.hid hS
        have hb0 := Lib.hid hb
        clear hS hb
        go_wp2
        go_loopw [6] (fun i wr => ∃ k : Nat, k ≤ s.size ∧ i = .int .i64 k ∧ SetAt wr w1.heap.size p ∧ Below w.heap.size w wr) (fun i _ => s.size - (intOf i).toNat)
        case atStart => exact ⟨0, by omega, rfl, hS0.out, hb0.out⟩
        case round =>
          obtain ⟨k, hk, rfl, hS, hb⟩ := hrel
          by_cases hk2 : k < s.size
          · have hk3 : (k : Int) < (s.size : Int) := by omega
            have hk4 : (0 : Int) ≤ (k : Int) := by omega
            have HK := Lib.hid (HH.out s[k].toNat s[k].toNat_lt)
            rw [← HP.out, (ofS_iff _ _).2 ⟨s[k], List.getElem_mem (l := s.data.toList) (by simpa using hk2), rfl⟩] at HK
            simp only [HP.out] at HK
            clear HO HB HC HH HW E
            go_wp2
            have L00 : ∀ x : Later wr, x.at_.cell? ⟨w1.heap.size, 0, none⟩ = some (.int .u64 (wd p 0 : Nat)) := fun x => (hS.after x.below).cells.1
            have L01 : ∀ x : Later wr, x.at_.cell? ⟨w1.heap.size, 1, none⟩ = some (.int .u64 (wd p 1 : Nat)) := fun x => (hS.after x.below).cells.2.1
            have L02 : ∀ x : Later wr, x.at_.cell? ⟨w1.heap.size, 2, none⟩ = some (.int .u64 (wd p 2 : Nat)) := fun x => (hS.after x.below).cells.2.2.1
            have L03 : ∀ x : Later wr, x.at_.cell? ⟨w1.heap.size, 3, none⟩ = some (.int .u64 (wd p 3 : Nat)) := fun x => (hS.after x.below).cells.2.2.2
            refine region_later (by kernel_rfl) (by kernel_rfl) ?_
            repeat (go_big_quiet_step (fail))
            go_big_quiet_step (exact later (HK.out _))
            repeat (go_big_quiet_step (fail))
            refine wpQuiet_nil ?_
            rintro _ ⟨x, rfl⟩
            go_wp2
            go_round
            case rel => exact ⟨k + 1, by omega, rfl, hS.after x.below, bel_step hb x.below⟩
            case measure => simp [intOf]; omega
          · have hS0 := Lib.hid hS
            have hb0 := Lib.hid hb
            clear hS hb
            go_wp2
            go_loopw [7, 8, 9] (fun i _ _ wr => ∃ n : Nat, n ≤ T.size ∧ i = .int .i64 n ∧ SetAt wr w1.heap.size p ∧ Below w.heap.size w wr) (fun i _ _ _ => T.size - (intOf i).toNat)
            case atStart => exact ⟨0, by omega, rfl, hS0.out, hb0.out⟩
            case round =>
              obtain ⟨n, hn, rfl, hS, hb⟩ := hrel
              by_cases hn2 : n < T.size
              · have hn3 : (n : Int) < (T.size : Int) := by omega
                have hn4 : (0 : Int) ≤ (n : Int) := by omega
                obtain ⟨c, hc⟩ : ∃ c, (T[n]'hn2).toNat = c := ⟨_, rfl⟩
                have HPc := Lib.hid (HM.out n hn2)
                rw [hc] at HPc
                have hS1 := Lib.hid hS
                have hb1 := Lib.hid hb
                clear hS hb HO HB HC HH HW E
                go_wp2
                go_loopw [8, 9] (fun z i wr => ∃ m : Nat, m ≤ s.size ∧ i = .int .i64 m ∧ z = .bool (ofS (s.data.toList.take m) c) ∧ SetAt wr w1.heap.size p ∧ Below w.heap.size w wr) (fun _ i _ => s.size - (intOf i).toNat)
                case atStart => exact ⟨0, by omega, rfl, rfl, hS1.out, hb1.out⟩
                case round =>
                  obtain ⟨m, hm, rfl, rfl, hS, hb⟩ := hrel
                  by_cases hm2 : m < s.size
                  · have hm3 : (m : Int) < (s.size : Int) := by omega
                    have hm4 : (0 : Int) ≤ (m : Int) := by omega
                    have HZ : Hid (ofS (s.data.toList.take (m + 1)) c = (ofS (s.data.toList.take m) c || decide (c = s[m].toNat))) := Lib.hid (by rw [byte_snoc s m hm2, ofS_snoc]; rfl)
                    cases hz : ofS (s.data.toList.take m) c with
                    | true =>
                      rw [hz] at HZ
                      clear hz
                      go_wp2
                      refine region_later (by kernel_rfl) (by kernel_rfl) ?_
                      repeat (go_big_quiet_step (fail))
                      refine wpQuiet_nil ?_
                      rintro _ ⟨x, rfl⟩
                      go_wp2
                      go_round
                      case rel => exact ⟨m + 1, by omega, rfl, by rw [HZ.out, Bool.true_or], hS.after x.below, bel_step hb x.below⟩
                      case measure => simp [intOf]; omega
                    | false =>
                      rw [hz] at HZ
                      clear hz
                      go_wp2
                      refine region_later (by kernel_rfl) (by kernel_rfl) ?_
                      repeat (go_big_quiet_step (fail))
                      refine wpQuiet_nil ?_
                      rintro _ ⟨x, rfl⟩
                      go_wp2
                      go_round
                      case rel =>
                        refine ⟨m + 1, by omega, rfl, ?_, hS.after x.below, bel_step hb x.below⟩
                        rw [HZ.out, Bool.false_or]
                        refine congrArg Value.bool ?_
                        rw [Bool.eq_iff_iff, beq_iff_eq, decide_eq_true_eq]
                        omega
                      case measure => simp [intOf]; omega
                  · obtain rfl : m = s.size := by omega
                    have hz : ofS (s.data.toList.take s.size) c = true := by rw [List.take_of_length_le (by simp), HP.out]; exact HPc.out
                    go_wp2
                    go_round
                    case rel => exact ⟨n + 1, by omega, rfl, hS, hb⟩
                    case measure => simp [intOf]; omega
              · have hH := hadd.out
                go_wp2
                have L00 : ∀ x : Later wr, x.at_.cell? ⟨w1.heap.size, 0, none⟩ = some (.int .u64 (wd p 0 : Nat)) := fun x => (hS.after x.below).cells.1
                have L01 : ∀ x : Later wr, x.at_.cell? ⟨w1.heap.size, 1, none⟩ = some (.int .u64 (wd p 1 : Nat)) := fun x => (hS.after x.below).cells.2.1
                have L02 : ∀ x : Later wr, x.at_.cell? ⟨w1.heap.size, 2, none⟩ = some (.int .u64 (wd p 2 : Nat)) := fun x => (hS.after x.below).cells.2.2.1
                have L03 : ∀ x : Later wr, x.at_.cell? ⟨w1.heap.size, 3, none⟩ = some (.int .u64 (wd p 3 : Nat)) := fun x => (hS.after x.below).cells.2.2.2
                refine region_later (by kernel_rfl) (by kernel_rfl) ?_
                repeat (go_big_quiet_step (fail))
                go_big_quiet_step (exact later (HC.out _))
                repeat (go_big_quiet_step (fail))
                go_big_quiet_step (exact later (HW.out _))
                repeat (go_big_quiet_step (fail))
                go_big_quiet_step (exact later (awake_is _))
                repeat (go_big_quiet_step (fail))
                refine wpQuiet_nil ?_
                rintro _ ⟨x, rfl⟩
                go_wp2
                go_ret
                exact ⟨rfl, bel_step hb x.below⟩
end Go.Proofs.Ythonfodibakkjaa
