/-
  Contracts of package split's next (the first field, and what stands behind it) and trim (without bytes that are marked at both ends), over marks that lie in a block.
-/
import Derived.Test.YtdehjkmjebplbaaSpMarks
namespace Go.Proofs.Ytdehjkmjebplbaa
open Go.RowKit

theorem ext_str (T : ByteArray) (k : Nat) (x : List UInt8) (h : T.data.toList.take k = x) : Value.string (T.extract 0 k) = strV x := by rw [ext_takeV, h]
theorem ext_dropV (T : ByteArray) (k : Nat) (x : List UInt8) (h : T.data.toList.drop k = x) : Value.string (T.extract k T.size) = strV x := by
  unfold strV
  rw [← h, ← (ext_dropD T k).1]
theorem strV_str (T : ByteArray) (x : List UInt8) (h : T.data.toList = x) : Value.string T = strV x := by
  unfold strV
  rw [← h]
theorem blk_drewN {w : World} {b : Nat} {cs : Array Value} {t : TypeId} (h : BlkAt w b cs t) (n : Nat) : BlkAt (w.drewN n) b cs t := h

set_option maxHeartbeats 2000000 in
set_option maxRecDepth 100000 in
theorem next_is (l : List UInt8) (b : Nat) (s : ByteArray) (w : World) (hs : s.size ≤ 1048576) (hB : BlkAt w b (Lib.setCells l) 35) :
    Calls Try.prog 21 #[.pointer (some ⟨b, 0, none⟩), .string s] w fun e w' => e = .returned (.tuple #[strV (nextF (ofS l) s.data.toList), strV (nextR (ofS l) s.data.toList)]) ∧ ∃ n, w' = w.drewN n := by
  have HR1 := Lib.hid (row_is l b s true w hs hB)
  have HK := Lib.hid (drop_t (ofS l) s.data.toList)
  have hk := rowN_le (ofS l) true s.data.toList
  obtain ⟨k, hkk⟩ : ∃ k, rowN (ofS l) true s.data.toList = k := ⟨_, rfl⟩
  rw [hkk] at HR1 HK hk
  clear hkk
  have hk1 : k ≤ s.size := by simpa using hk
  have hk0 : (0 : Int) ≤ (k : Int) := by omega
  have hk2 : (k : Int) ≤ (s.size : Int) := by omega
  clear hk
  obtain ⟨U, hU⟩ : ∃ U, s.extract k s.size = U := ⟨_, rfl⟩
  have HUd : Hid (U.data.toList = trimF (ofS l) s.data.toList) := Lib.hid (by rw [← hU, (ext_dropD s k).1, HK.out])
  have hUs : U.size ≤ s.size := by rw [← hU]; exact (ext_dropD s k).2
  have HU := Lib.hid hU
  clear hU HK
  have HR2 := fun n => Lib.hid (row_is l b U false (w.drewN n) (by omega) (blk_drewN hB n))
  have hj := rowN_le (ofS l) false U.data.toList
  have HF : Hid (U.data.toList.take (rowN (ofS l) false U.data.toList) = nextF (ofS l) s.data.toList) := Lib.hid (by rw [HUd.out, next_take])
  have HD : Hid (U.data.toList.drop (rowN (ofS l) false U.data.toList) = nextR (ofS l) s.data.toList) := Lib.hid (by rw [HUd.out, next_drop])
  obtain ⟨j, hjj⟩ : ∃ j, rowN (ofS l) false U.data.toList = j := ⟨_, rfl⟩
  rw [hjj] at HR2 HF HD hj
  clear hjj HUd
  have hj1 : j ≤ U.size := by simpa using hj
  have hj0 : (0 : Int) ≤ (j : Int) := by omega
  have hj2 : (j : Int) ≤ (U.size : Int) := by omega
  clear hj hB
  go_enter Try.func21, Try.ntmps21
  go_wp2_with fail
  refine HR1.out.mono ?_
  rintro ending w2 ⟨rfl, n, rfl⟩
  go_wp2_with fail
  rw [HU.out]
  clear HR1 HU
  refine (HR2 n).out.mono ?_
  rintro ending w3 ⟨rfl, n2, rfl⟩
  clear HR2
  go_wp2
  go_quiet (fail)
  go_wp2
  go_ret2
  refine ⟨?_, _, World.drewN_drewN _ _ _⟩
  show Ending.returned (.tuple #[Value.string (U.extract 0 j), Value.string (U.extract j U.size)]) = _
  rw [ext_str U j _ HF.out, ext_dropV U j _ HD.out]

set_option maxHeartbeats 2000000 in
set_option maxRecDepth 100000 in
theorem trim_is (l : List UInt8) (b : Nat) (s : ByteArray) (w : World) (hs : s.size ≤ 1048576) (hB : BlkAt w b (Lib.setCells l) 35) :
    Calls Try.prog 20 #[.pointer (some ⟨b, 0, none⟩), .string s] w fun e w' => e = .returned (strV (trimP (ofS l) s.data.toList)) ∧ ∃ n, w' = w.drewN n := by
  have HC : Hid (∀ (x : UInt8), w.cell? ⟨b, x.toNat, none⟩ = some (.bool (ofS l x.toNat))) := Lib.hid fun x => hB.cell _ (marks_at l x)
  have HR1 := Lib.hid (row_is l b s true w hs hB)
  have HK := Lib.hid (drop_t (ofS l) s.data.toList)
  have hk := rowN_le (ofS l) true s.data.toList
  obtain ⟨k, hkk⟩ : ∃ k, rowN (ofS l) true s.data.toList = k := ⟨_, rfl⟩
  rw [hkk] at HR1 HK hk
  clear hkk hB
  have hk1 : k ≤ s.size := by simpa using hk
  have hk0 : (0 : Int) ≤ (k : Int) := by omega
  have hk2 : (k : Int) ≤ (s.size : Int) := by omega
  clear hk
  obtain ⟨U, hU⟩ : ∃ U, s.extract k s.size = U := ⟨_, rfl⟩
  obtain ⟨R, hR⟩ : ∃ R, trimP (ofS l) s.data.toList = R := ⟨_, rfl⟩
  have HE : Hid (trimE (ofS l) U.data.toList = R) := Lib.hid (by rw [← hR, ← hU, (ext_dropD s k).1, HK.out]; rfl)
  have hUs : U.size ≤ s.size := by rw [← hU]; exact (ext_dropD s k).2
  have HU := Lib.hid hU
  rw [hR]
  clear hU HK hR
  go_enter Try.func20, Try.ntmps20
  go_wp2_with fail
  refine HR1.out.mono ?_
  rintro ending w2 ⟨rfl, n, rfl⟩
  clear HR1
  go_wp2
  rw [HU.out]
  clear HU
  go_loopw [1] (fun x wr => ∃ (u : ByteArray) (q : Nat), u.size ≤ s.size ∧ x = .string u ∧ wr = w.drewN q ∧ Hid (trimE (ofS l) u.data.toList = R)) (fun x _ => strLen x)
  case atStart => exact ⟨U, n, hUs, rfl, rfl, HE⟩
  case round =>
    clear HE hUs
    obtain ⟨u, q, hu, rfl, rfl, HE⟩ := hrel
    by_cases hz : u.size = 0
    · have he := emp_of_size hz
      subst he
      have HX : Hid (R = []) := Lib.hid (by rw [← HE.out]; rfl)
      clear HE hz hu
      go_wp2
      go_quiet (fail)
      go_wp2
      go_ret
      refine ⟨?_, _, World.drewN_drewN _ _ _⟩
      rw [HX.out]
      rfl
    · have hp : 0 < u.size := by omega
      have he := emp_false hp
      obtain ⟨j, hj⟩ : ∃ j, u.size = j + 1 := ⟨u.size - 1, by omega⟩
      have hjl : j < u.size := by omega
      have EJ : (u.size : Int) - 1 = (j : Int) := by omega
      have hj0 : (0 : Int) ≤ (j : Int) := by omega
      have hj1 : (j : Int) < (u.size : Int) := by omega
      have hj2 : (j : Int) ≤ (u.size : Int) := by omega
      have hx1 : (u[j].toNat : Int) < 256 := by have := u[j].toNat_lt; omega
      have hx0 : (0 : Int) ≤ (u[j].toNat : Int) := by omega
      have c0 := HC.out u[j]
      have H1 : Hid (ofS l u[j].toNat = true → trimE (ofS l) (u.extract 0 j).data.toList = R) := Lib.hid fun h => by rw [trimE_one hj hjl h]; exact HE.out
      have H0 : Hid (ofS l u[j].toNat = false → Value.string u = strV R) := Lib.hid fun h => strV_str u R (by rw [← HE.out, trimE_stop hj hjl h])
      have HSz : Hid ((u.extract 0 j).size < u.size) := Lib.hid (by rw [extract_bytes]; show ((u.data.toList.drop 0).take (j - 0)).toArray.size < _; simp; omega)
      clear HE hj hz
      generalize ofS l u[j].toNat = z at *
      cases z with
      | false =>
        have HX := Lib.hid (H0.out rfl)
        clear H0 H1
        go_wp2
        go_quiet (fail)
        go_wp2
        go_ret
        exact ⟨congrArg Ending.returned HX.out, _, World.drewN_drewN _ _ _⟩
      | true =>
        have HX := Lib.hid (H1.out rfl)
        clear H0 H1
        go_wp2
        go_quiet (fail)
        go_wp2
        go_roundw
        case rel => exact ⟨_, _, by have := HSz.out; omega, rfl, rfl, HX⟩
        case measure => exact HSz.out
end Go.Proofs.Ytdehjkmjebplbaa
