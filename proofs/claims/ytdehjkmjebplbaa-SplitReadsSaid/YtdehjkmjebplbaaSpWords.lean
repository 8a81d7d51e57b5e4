/-
  The contract of package split's Words: a slice of its own that owns just the words.
-/
import Derived.Test.YtdehjkmjebplbaaSpFields
namespace Go.Proofs.Ytdehjkmjebplbaa
open Go.RowKit

/-- N texts, of which the first ones are there -/
def rowT (N : Nat) (L : List (List UInt8)) : Array Value := (L.map strV ++ List.replicate (N - L.length) (Value.string ByteArray.empty)).toArray
theorem rowT_set (N : Nat) (L : List (List UInt8)) (x : List UInt8) (h : L.length < N) : (rowT N L).setIfInBounds L.length (strV x) = rowT N (L ++ [x]) := by
  unfold rowT
  rw [List.setIfInBounds_toArray]
  congr 1
  obtain ⟨m, hm⟩ : ∃ m, N - L.length = m + 1 := ⟨N - L.length - 1, by omega⟩
  rw [hm, List.map_append, List.length_append, show N - (L.length + [x].length) = m by simp; omega, List.set_append_right _ _ (by simp)]
  simp [List.replicate_succ]
theorem rowT_get (N : Nat) (L : List (List UInt8)) (h : L.length < N) : (rowT N L)[L.length]? = some (.string ByteArray.empty) := by
  unfold rowT
  rw [List.getElem?_toArray, List.getElem?_append_right (by simp), List.length_map, Nat.sub_self, List.getElem?_replicate, if_pos (by omega)]
theorem rowT_full (L : List (List UInt8)) : rowT L.length L = (L.map strV).toArray := by
  unfold rowT
  simp
theorem make_strs (N : Nat) (hN : N ≤ 100) (W : World) : (Instr.makeSlice 26 (.int .i64 (N : Int)) (.int .i64 (N : Int))).run Try.prog W = .ok (.slice (some ⟨W.heap.size, 0, none⟩) N N) (W.alloc (.cells (rowT N []) 9)) := by
  obtain ⟨i, hi, hz0, hz1, hz2⟩ := info_parts info_str
  have h := run_makeSlice (P := Try.prog) W 26 9 i (.string ByteArray.empty) Try.underlying26 hi hz0 .i64 .i64 (N : Int) (N : Int) (by omega) (Int.le_refl _) (by rw [hz1]; simp; omega) (by rw [hz2]; omega) (by omega)
  rw [h, Int.toNat_natCast, hz1, Nat.mul_one]
  congr 3
  apply Array.ext_getElem?
  intro j
  by_cases hj : j < N
  · simp [madeCells, Value.cells, hj, Nat.mod_one, rowT]
  · simp [madeCells, Value.cells, hj, rowT]
theorem words_end {p : Nat → Bool} {all L : List (List UInt8)} {u : List UInt8} (h : all = L ++ wordsP p 0 u) : all = L ++ [trimP p u] := by rw [h]; rfl

set_option maxHeartbeats 4000000 in
set_option maxRecDepth 100000 in
theorem splitWords_is (s t : ByteArray) (n : Int) (hs : s.size ≤ 1048576) (ht : t.size ≤ 1048576) (w : World) :
    Calls Try.prog 16 #[.string s, .string t, .int .i64 n] w (LinesLeft w (wordsP (ofS t.data.toList) (wordsN n - 1) s.data.toList)) := by
  have hz := zero_marks
  have HM := Lib.hid (marked_is t ht)
  have HN := fun b u w hu hB => Lib.hid (next_is t.data.toList b u w hu hB)
  have HT := fun b u w hu hB => Lib.hid (trim_is t.data.toList b u w hu hB)
  obtain ⟨hn1, hn2, hn3⟩ := wordsN_in n
  obtain ⟨N, hN⟩ : ∃ N, wordsN n = N := ⟨_, rfl⟩
  rw [hN] at hn1 hn2 hn3
  rw [hN]
  clear hN
  obtain ⟨N1, hN1⟩ : ∃ N1, N - 1 = N1 := ⟨_, rfl⟩
  have EN : (N : Int) - 1 = (N1 : Int) := by omega
  have hNN : N = N1 + 1 := by omega
  have HNN := Lib.hid hNN
  have hN9 : N ≤ 100 := by omega
  rw [hN1]
  clear hN1 hNN
  have hmk := make_strs N hN9
  obtain ⟨W, hW⟩ : ∃ W, wordsP (ofS t.data.toList) N1 s.data.toList = W := ⟨_, rfl⟩
  rw [hW]
  have HWl : Hid (W.length = N1 + 1) := Lib.hid (by rw [← hW]; exact words_len _ _)
  have HW : Hid (W = [] ++ wordsP (ofS t.data.toList) (N1 - 0) s.data.toList) := Lib.hid (by rw [← hW]; rfl)
  clear hW
  go_enter Try.func16, Try.ntmps16
  go_wp2_with fail
  refine (HM.out _).mono ?_
  rintro ending w1 ⟨rfl, hb⟩
  clear HM
  obtain ⟨w2, hw2, hB, hb2, hsz2⟩ := marks_laid w w1 hb t.data.toList
  have HW2 := Lib.hid hw2
  have hb1s := hb.size
  clear hw2 hb
  have hA := BlkAt.new w2 (rowT N []) 9
  have hB3 := hB.alloc (.cells (rowT N []) 9)
  have hb3 := bel_alloc hb2 (.cells (rowT N []) 9)
  obtain ⟨g, hg⟩ : ∃ g, w2.heap.size = g := ⟨_, rfl⟩
  rw [hg] at hA hsz2
  have hmk2 := hmk w2
  rw [hg] at hmk2
  have HGW : Hid (w.heap.size ≤ g) := Lib.hid (by omega)
  have HGN : Hid (w1.heap.size ≠ g) := Lib.hid (by omega)
  clear hmk hB hb2 hsz2 hb1s
  go_wp2_with (first | (refine wpList_store_row rfl 35 _ _ rfl w1.heap.size _ rfl rfl _ _ (BlkAt.new w1 _ _) (size_marks _) (by rw [Lib.setCells_size, Array.size_replicate]) (Lib.setCells_one _) ?_; rw [HW2.out]) | fail)
  clear hmk2 hg
  generalize w2.alloc (.cells (rowT N []) 9) = w3 at *
  go_loopw [0, 21] (fun x i wr => ∃ (u : ByteArray) (L : List (List UInt8)), u.size ≤ s.size ∧ L.length ≤ N1 ∧ x = .string u ∧ i = .int .i64 (L.length : Int) ∧ BlkAt wr g (rowT N L) 9 ∧ BlkAt wr w1.heap.size (Lib.setCells t.data.toList) 35 ∧ Below w.heap.size w wr ∧ Hid (W = L ++ wordsP (ofS t.data.toList) (N1 - L.length) u.data.toList)) (fun _ i _ => N1 - (intOf i).toNat)
  case atStart => exact ⟨s, [], Nat.le_refl _, Nat.zero_le _, rfl, rfl, hA, hB3, hb3, HW⟩
  case round =>
    clear HW HW2 hA hB3 hb3
    obtain ⟨u, L, hu, hL, rfl, rfl, hA, hB, hb, HR⟩ := hrel
    by_cases hlt : L.length < N1
    · have HN1 := HN w1.heap.size u wr (by omega) hB
      clear HN HT
      have hlen := next_len (ofS t.data.toList) u.data.toList
      obtain ⟨m, hm⟩ : ∃ m, N1 - L.length = m + 1 := ⟨N1 - L.length - 1, by omega⟩
      have HR2 := HR.out
      rw [hm] at HR2
      have HX := Lib.hid (words_next HR2)
      clear HR HR2
      have hc := rowT_get N L (by have := HNN.out; omega)
      generalize nextF (ofS t.data.toList) u.data.toList = f at *
      generalize nextR (ofS t.data.toList) u.data.toList = r at *
      have HRV : Hid (strV r = .string ⟨r.toArray⟩) := Lib.hid rfl
      have HRd : Hid ((⟨r.toArray⟩ : ByteArray).data.toList = r) := Lib.hid rfl
      have HRs : Hid ((⟨r.toArray⟩ : ByteArray).size = r.length) := Lib.hid rfl
      rw [HRV.out] at HN1
      generalize (⟨r.toArray⟩ : ByteArray) = R at *
      have hul : u.data.toList.length = u.size := by simp
      rw [hul] at hlen
      have hRu : R.size ≤ s.size := by have := HRs.out; omega
      have HM : Hid (N1 - (L ++ [f]).length = m) := Lib.hid (by simp; omega)
      have hl2 : (L ++ [f]).length ≤ N1 := by simp; omega
      have HL2 : Hid (((L ++ [f]).length : Int) = (L.length : Int) + 1) := Lib.hid (by simp)
      have hset := rowT_set N L f (by have := HNN.out; omega)
      have hFV : ∃ F, strV f = .string F := ⟨_, rfl⟩
      obtain ⟨F, hF⟩ := hFV
      rw [hF] at HN1 hset
      clear hul HRV hlen HRs hm hF
      obtain ⟨k, hk⟩ : ∃ k, L.length = k := ⟨_, rfl⟩
      have HK := Lib.hid hk
      rw [hk] at hlt hset hc HL2
      simp only [hk]
      clear hk hL
      have hki : (k : Int) < (N1 : Int) := by omega
      have hkn : (k : Int) < (N : Int) := by omega
      have hk0 : (0 : Int) ≤ (k : Int) := by omega
      go_wp2_with fail
      refine HN1.out.mono ?_
      rintro ending w4 ⟨rfl, q, rfl⟩
      have hA2 := blk_drewN hA q
      have hB2 := blk_drewN hB q
      have hb2 := bel_drewN hb q
      clear hA hB hb HN1
      generalize wr.drewN q = wr at *
      have c0 := hA2.cell k hc
      have f0 := hA2.frozen k
      have hA3 := hA2.set k (.string F)
      rw [hset] at hA3
      have hB3 := hB2.far (a := ⟨g, k, none⟩) (by exact HGN.out) (.string F)
      have hb3 := bel_set hb2 ⟨g, k, none⟩ (by exact HGW.out) (.string F)
      clear hA2 hB2 hb2 hc hset
      go_wp2
      go_roundw
      case rel => exact ⟨R, L ++ [f], hRu, hl2, rfl, by rw [HL2.out], hA3, hB3, hb3, Lib.hid (by rw [HRd.out, HM.out]; exact HX.out)⟩
      case measure => simp [intOf]; omega
    · have hLe : L.length = N1 := by omega
      have HR2 := HR.out
      rw [hLe, Nat.sub_self] at HR2
      have HX := Lib.hid (words_end HR2)
      have HT1 := HT w1.heap.size u wr (by omega) hB
      clear HR HR2 HN HT
      generalize trimP (ofS t.data.toList) u.data.toList = f at *
      have hc := rowT_get N L (by have := HNN.out; omega)
      have hset := rowT_set N L f (by have := HNN.out; omega)
      obtain ⟨F, hF⟩ : ∃ F, strV f = .string F := ⟨_, rfl⟩
      rw [hF] at HT1 hset
      rw [hLe] at hset hc hlt hL
      have HLe := Lib.hid hLe
      simp only [hLe]
      clear hF hLe
      have hkn : (N1 : Int) < (N : Int) := by omega
      have hk0 : (0 : Int) ≤ (N1 : Int) := by omega
      go_wp2_with fail
      refine HT1.out.mono ?_
      rintro ending w4 ⟨rfl, q, rfl⟩
      have hA2 := blk_drewN hA q
      have hb2 := bel_drewN hb q
      clear hA hB hb HT1
      generalize wr.drewN q = wr at *
      have c0 := hA2.cell N1 hc
      have f0 := hA2.frozen N1
      have hA3 := hA2.set N1 (.string F)
      rw [hset] at hA3
      have hb3 := bel_set hb2 ⟨g, N1, none⟩ (by exact HGW.out) (.string F)
      clear hA2 hb2 hc hset
      have HNW : Hid (N = W.length) := Lib.hid (by rw [HWl.out, HNN.out])
      have HE : Hid (rowT N (L ++ [f]) = (W.map strV).toArray) := Lib.hid (by rw [← HX.out, HNW.out, rowT_full])
      go_wp2
      go_ret
      refine ⟨_, rfl, ⟨by simp, .inr ⟨g, N, _, (by rw [HNW.out]; rfl), HGW.out, hA3, by rw [HNW.out]; exact Nat.le_refl _, by unfold maxLen; omega, ?_, ?_⟩⟩, hb3⟩
      · rw [HE.out, HNW.out]; simp
      · rw [HE.out]; simp only [Nat.mul_one]; exact List.take_of_length_le (by simp)
end Go.Proofs.Ytdehjkmjebplbaa
