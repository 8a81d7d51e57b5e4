/-
  Contracts of Go's math/bits.Mul at 1 and a small number, of slices.Repeat at one true, and of package pat's Raw.
-/
import Derived.Test.YtmpneifjjnfckaaPmMake
import Derived.Test.YtmpneifjjnfckaaPmSet
import Derived.Test.YtmpneifjjnfckaaHeadX
import Derived.Laws.CopyRow
namespace Go.Proofs.Ytmpneifjjnfckaa
open Go.RowKit

set_option maxHeartbeats 4000000 in
set_option maxRecDepth 100000 in
theorem mul64_is (N : Nat) (hN : N ≤ 1048576) (w : World) : Calls Try.prog 45 #[.int .u64 1, .int .u64 (N : Int)] w (fun e w' => e = .returned (.tuple #[.int .u64 0, .int .u64 (N : Int)]) ∧ w' = w) := by
  have a1 : bits .and .u64 1 4294967295 = 1 := by decide
  have a0 : bits .and .u64 0 4294967295 = 0 := by decide
  have a2 : bits .and .u64 (N : Int) 4294967295 = (N : Int) := by
    rw [show (4294967295 : Int) = ((4294967295 : Nat) : Int) from rfl, u64_and_nat N 4294967295 (by omega) (by decide), nat_mask32, Nat.mod_eq_of_lt (by omega)]
  have d1 : (N : Int) / 4294967296 = 0 := by omega
  go_enter Try.func45, Try.ntmps45
  go_wp2
  go_ret2
  exact ⟨rfl, rfl⟩

set_option maxHeartbeats 4000000 in
set_option maxRecDepth 100000 in
theorem mul_is (N : Nat) (hN : N ≤ 1048576) (w : World) : Calls Try.prog 39 #[.int .u64 1, .int .u64 (N : Int)] w (fun e w' => e = .returned (.tuple #[.int .u64 0, .int .u64 (N : Int)]) ∧ w' = w) := by
  have H := Lib.hid (mul64_is N hN w)
  go_enter Try.func39, Try.ntmps39
  go_wp2_with fail
  refine H.out.mono ?_
  rintro e w' ⟨rfl, rfl⟩
  go_wp2
  go_ret2
  exact ⟨rfl, rfl⟩

/-- true at each place below k -/
def upV (N k : Nat) : Array Value := rowV N fun j => decide (j < k)
theorem upV_copy (N k n : Nat) (h : k + n ≤ N) : ((upV N k).toList.take k ++ List.replicate n (Value.bool true) ++ (upV N k).toList.drop (k + n)).toArray = upV N (k + n) := by
  have hsz : ∀ k, (upV N k).toList.length = N := fun k => by simp [upV, rowV]
  apply Array.ext'
  simp only
  apply List.ext_getElem?
  intro j
  have hget : ∀ k j, (upV N k).toList[j]? = if j < N then some (.bool (decide (j < k))) else none := fun k j => by
    by_cases hj : j < N
    · rw [if_pos hj, Array.getElem?_toList]; exact rowV_get hj
    · rw [if_neg hj, List.getElem?_eq_none (by rw [hsz]; omega)]
  rw [hget]
  by_cases h1 : j < k
  · rw [List.append_assoc, List.getElem?_append_left (by rw [List.length_take, hsz]; omega), List.getElem?_take, if_pos h1, hget, if_pos (by omega), if_pos (by omega), decide_eq_true h1, decide_eq_true (by omega : j < k + n)]
  · by_cases h2 : j < k + n
    · rw [List.append_assoc, List.getElem?_append_right (by rw [List.length_take, hsz]; omega), List.length_take, hsz, Nat.min_eq_left (by omega), List.getElem?_append_left (by simp; omega), List.getElem?_replicate, if_pos (by omega), if_pos (by omega), decide_eq_true h2]
    · rw [List.getElem?_append_right (by simp [hsz]; omega), List.getElem?_drop]
      simp only [List.length_append, List.length_take, List.length_replicate, hsz, Nat.min_eq_left (show k ≤ N by omega)]
      rw [show k + n + (j - (k + n)) = j by omega, hget]
      by_cases hj : j < N
      · rw [if_pos hj, if_pos hj, decide_eq_false h1, decide_eq_false h2]
      · rw [if_neg hj, if_neg hj]
theorem upV_zero (N : Nat) : (rowV N fun _ => false) = upV N 0 := rowV_congr fun _ _ => by simp
theorem upV_all (N : Nat) : upV N N = rowV N fun _ => true := rowV_congr fun _ hj => decide_eq_true hj
theorem setRow_blk {w : World} {g : Nat} {cs cs' : Array Value} {t : TypeId} (h : BlkAt w g cs t) : BlkAt (w.setRow g cs') g cs' t := setRow_heap w g cs cs' t (0, 0) h
theorem upV_size (N k : Nat) : (upV N k).size = N := by simp [upV, rowV]
theorem upV_get {N k j : Nat} (hj : j < N) (hk : j < k) : (upV N k)[j]? = some (.bool true) := by
  have := rowV_get (N := N) (k := j) (f := fun j => decide (j < k)) hj
  rw [decide_eq_true hk] at this
  exact this

set_option maxHeartbeats 8000000 in
set_option maxRecDepth 100000 in
theorem repeat_is (bx N : Nat) (hN : N ≤ 1048576) (w : World) (hx : w.cell? ⟨bx, 0, none⟩ = some (.bool true)) : Calls Try.prog 31 #[.slice (some ⟨bx, 0, none⟩) 1 1, .int .i64 (N : Int)] w (fun e w' => ∃ g, e = .returned (.slice (some ⟨g, 0, none⟩) N N) ∧ w.heap.size ≤ g ∧ BlkAt w' g (rowV N fun _ => true) 4 ∧ Below w.heap.size w w') := by
  have hmk := make_bools N (by omega)
  have HMu := Lib.hid (mul_is N hN)
  have hz0 : (Try.prog.info? 4).map (·.size) = some 1 := by kernel_rfl
  have hn0 : ¬ (N : Int) < 0 := by omega
  have hnd : decide ((N : Int) < 0) = false := decide_eq_false hn0
  have hnm : decide ((9223372036854775807 : Int) < (N : Int)) = false := decide_eq_false (by omega)
  have hw1 : IntKind.u64.wrap (N : Int) = (N : Int) := u64_wrap_in N (by omega)
  have hw2 : IntKind.i64.wrap (N : Int) = (N : Int) := by unfold IntKind.wrap; simp [IntKind.bits, IntKind.signed]; omega
  go_enter Try.func31, Try.ntmps31
  go_wp2_with fail
  refine (HMu.out _).mono ?_
  rintro ending w1 ⟨rfl, rfl⟩
  have hA := BlkAt.new w1 (rowV N fun _ => false) 4
  rw [upV_zero] at hA hmk
  have hb := bel_alloc (Below.refl w1.heap.size w1) (.cells (upV N 0) 4)
  have hx1 : (w1.alloc (.cells (upV N 0) 4)).cell? ⟨bx, 0, none⟩ = some (.bool true) := cell_after hx hb
  go_upto_region 7 with fail
  obtain ⟨w2, hw2e⟩ : ∃ w2, w1.alloc (.cells (upV N 0) 4) = w2 := ⟨_, rfl⟩
  rw [hw2e] at hA hb hx1
  rw [hw2e]
  clear hw2e hmk
  obtain ⟨k0, hk0⟩ : ∃ k0, min 1 N = k0 := ⟨_, rfl⟩
  have hcp := run_copy_row (P := Try.prog) w2 23 23 3 4 w1.heap.size 0 N N ⟨bx, 0, none⟩ 1 1 (upV N 0) 4 (List.replicate k0 (.bool true)) Try.underlying23 hz0 hA (by rw [List.length_replicate, ← hk0]) (fun j u hj => by
    rw [List.getElem?_replicate] at hj
    split at hj
    · have hj0 : j = 0 := by omega
      subst hj0
      injection hj with hj
      rw [← hj]
      simpa [Addr.add] using hx1
    · cases hj) (by rw [List.length_replicate, upV_size]; omega) (fun u hu => by rw [List.eq_of_mem_replicate hu]; rfl)
  have hup := upV_copy N 0 k0 (by omega)
  rw [Nat.zero_add] at hup
  rw [List.length_replicate, Nat.zero_add, hup] at hcp
  obtain ⟨w3, hw3⟩ : ∃ w3, w2.setRow w1.heap.size (upV N k0) = w3 := ⟨_, rfl⟩
  have hA3 : BlkAt w3 w1.heap.size (upV N k0) 4 := by rw [← hw3]; exact setRow_blk hA
  have hb3 : Below w1.heap.size w1 w3 := by rw [← hw3]; exact hb.trans ⟨rfl, rfl, rfl, by simp [World.setRow], fun k hk => setRow_other w2 w1.heap.size k _ (by omega)⟩
  rw [hw3] at hcp
  have HK0 := Lib.hid hk0
  have hk0N : k0 ≤ N := by omega
  clear hw3 hA hb hx1 hx hup hk0
  go_wp2
  clear hcp
  go_loopw [8] (fun i wr => ∃ k : Nat, k ≤ N ∧ (k = 0 → N = 0) ∧ i = .int .i64 (k : Int) ∧ BlkAt wr w1.heap.size (upV N k) 4 ∧ Below w1.heap.size w1 wr) (fun i _ => N - (intOf i).toNat)
  case atStart => exact ⟨k0, hk0N, fun h => by have := HK0.out; omega, rfl, hA3, hb3⟩
  case round =>
    clear hA3 hb3
    obtain ⟨k, hkN, hk0, rfl, hA, hb⟩ := hrel
    by_cases hlt : k < N
    · obtain ⟨d, hd⟩ : ∃ d, N - k = d := ⟨_, rfl⟩
      have ED : (N : Int) - (k : Int) = (d : Int) := by omega
      obtain ⟨n, hn⟩ : ∃ n, min k d = n := ⟨_, rfl⟩
      obtain ⟨k1, hk1⟩ : ∃ k1, k + n = k1 := ⟨_, rfl⟩
      have EK : (k : Int) + (n : Int) = (k1 : Int) := by omega
      have HK1 : Hid (k1 ≤ N ∧ k < k1) := Lib.hid (by omega)
      have hkm : k1 ≤ 1048576 := by omega
      have hki : (k : Int) < (N : Int) := by omega
      have hki0 : (0 : Int) ≤ (k : Int) := by omega
      have hki1 : (k : Int) ≤ (N : Int) := by omega
      have hcp := run_copy_row (P := Try.prog) wr.drew 23 23 3 4 w1.heap.size k d d ⟨w1.heap.size, 0, none⟩ k N (upV N k) 4 (List.replicate n (.bool true)) Try.underlying23 hz0 hA.drew (by rw [List.length_replicate, ← hn]) (fun j u hj => by
        rw [List.getElem?_replicate] at hj
        split at hj
        · injection hj with hj
          have hadd : (⟨w1.heap.size, 0, none⟩ : Addr).add j = ⟨w1.heap.size, j, none⟩ := by unfold Addr.add; split <;> simp_all
          rw [← hj, hadd]
          exact hA.drew.cell j (upV_get (by omega) (by omega))
        · cases hj) (by rw [List.length_replicate, upV_size]; omega) (fun u hu => by rw [List.eq_of_mem_replicate hu]; rfl)
      rw [List.length_replicate, upV_copy N k n (by omega), hk1] at hcp
      obtain ⟨w5, hw5⟩ : ∃ w5, wr.drew.setRow w1.heap.size (upV N k1) = w5 := ⟨_, rfl⟩
      have hA5 : BlkAt w5 w1.heap.size (upV N k1) 4 := by rw [← hw5]; exact setRow_blk hA.drew
      have hb5 : Below w1.heap.size w1 w5 := by rw [← hw5]; exact (bel_drew hb).trans ⟨rfl, rfl, rfl, by simp [World.setRow], fun k hk => setRow_other wr.drew w1.heap.size k _ (by omega)⟩
      rw [hw5] at hcp
      have HH := Lib.hid (And.intro hA5 hb5)
      have hNk : ¬ N = k := by omega
      clear hw5 hA5 hb5 hA hb hn hk1 ED
      go_wp2
      go_region
      go_wp2
      go_roundw
      case rel => exact ⟨k1, HK1.out.1, fun h => by have := HK1.out; omega, rfl, HH.out.1, HH.out.2⟩
      case measure => have := HK1.out; simp [intOf]; omega
    · have hkn : k = N := by omega
      subst hkn
      rw [upV_all] at hA
      have hlti : ¬ (k : Int) < (k : Int) := by omega
      have HH := Lib.hid (And.intro hA hb)
      clear hA hb
      go_wp2
      go_ret
      exact ⟨_, rfl, Nat.le_refl _, HH.out.1, HH.out.2⟩

set_option maxHeartbeats 4000000 in
set_option maxRecDepth 100000 in
theorem patRaw_is (s : ByteArray) (hs : s.size ≤ 1048576) (w : World) : Calls Try.prog 18 #[.string s] w (GivesPat w s (RawV s)) := by
  have hZ := BlkAt.new w #[.string ⟨#[]⟩, .slice none 0 0] 25
  have hb := bel_alloc (Below.refl w.heap.size w) (.cells #[.string ⟨#[]⟩, .slice none 0 0] 25)
  have hsz : (w.alloc (.cells #[.string ⟨#[]⟩, .slice none 0 0] 25)).heap.size = w.heap.size + 1 := by simp
  have hX := BlkAt.new_at _ #[.bool true] 4 _ hsz
  have hZ1 := hZ.alloc (.cells #[.bool true] 4)
  have hb1 := bel_alloc hb (.cells #[.bool true] 4)
  obtain ⟨w1, hw1⟩ : ∃ w1, (w.alloc (.cells #[.string ⟨#[]⟩, .slice none 0 0] 25)).alloc (.cells #[.bool true] 4) = w1 := ⟨_, rfl⟩
  have hz1 : w.heap.size + 2 ≤ w1.heap.size := by rw [← hw1]; simp
  rw [hw1] at hX hZ1 hb1
  have HRp := Lib.hid (repeat_is (w.heap.size + 1) s.size hs w1 (hX.cell 0 rfl))
  have HW := Lib.hid hw1
  clear hw1 hZ hb hsz hX
  go_enter Try.func18, Try.ntmps18
  go_wp2_with fail
  rw [HW.out]
  refine HRp.out.mono ?_
  rintro ending w3 ⟨g, rfl, hg, hA3, hb3⟩
  have hZ3 := hZ1.after hb3
  have hb4 := bel_step hb1 hb3
  clear hZ1 hb1 hb3 HRp HW
  have hgne : g ≠ w.heap.size := by omega
  have z0 := hZ3.cell 0 (v := .string ⟨#[]⟩) rfl
  have z1 := hZ3.cell 1 (v := .slice none 0 0) rfl
  have f0 := hZ3.frozen 0
  have f1 := hZ3.frozen 1
  have hZ5 : BlkAt ((w3.setCell ⟨w.heap.size, 0, none⟩ (.string s)).setCell ⟨w.heap.size, 1, none⟩ (.slice (some ⟨g, 0, none⟩) s.size s.size)) w.heap.size #[.string s, .slice (some ⟨g, 0, none⟩) s.size s.size] 25 := (hZ3.set 0 _).set 1 _
  have hA5 := (hA3.far (a := ⟨w.heap.size, 0, none⟩) hgne (.string s)).far (a := ⟨w.heap.size, 1, none⟩) hgne (.slice (some ⟨g, 0, none⟩) s.size s.size)
  have hb5 := bel_set (bel_set hb4 ⟨w.heap.size, 0, none⟩ (Nat.le_refl _) (.string s)) ⟨w.heap.size, 1, none⟩ (Nat.le_refl _) (.slice (some ⟨g, 0, none⟩) s.size s.size)
  have hV : (List.range s.size).map (fun _ => true) = List.replicate s.size true := by
    refine List.ext_getElem (by simp) fun j h1 h2 => ?_
    simp
  have hL5 := row_live hA5 (by unfold maxLen; omega)
  have hO5 := row_off hA5 (by unfold maxLen; omega)
  rw [hV] at hL5 hO5
  have HH := Lib.hid (And.intro hZ5 (And.intro hL5 (And.intro hb5 hO5)))
  clear hZ5 hL5 hO5 hb5 hV hA5 hA3 hZ3 hb4
  go_wp2
  refine bodyPost_ret (v := patV s (.slice (some ⟨g, 0, none⟩) s.size s.size)) ?_ rfl ⟨_, _, rfl, HH.out.2.1, rfl, HH.out.2.2.1, fun c hc => HH.out.2.2.2 c (by omega)⟩
  exact results_cell_row rfl _ _ _ _ _ _ _ rfl HH.out.1 Try.underlying25 rfl (by kernel_rfl)
end Go.Proofs.Ytmpneifjjnfckaa
