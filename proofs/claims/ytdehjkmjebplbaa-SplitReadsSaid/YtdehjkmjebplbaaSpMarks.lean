/-
  Contracts of package split's marked (the marks of a text's bytes), row, next and trim (over marks that lie in a block).
-/
import Derived.Test.YtdehjkmjebplbaaRefWords
import Derived.Test.YtdehjkmjebplbaaSpPlain
import Derived.Deep.WholeRow
import Derived.BigQuiet
import Derived.Deep.QuietTactic
namespace Go.Proofs.Ytdehjkmjebplbaa
open Go.RowKit

theorem info_marks : (Try.prog.info? 35).map (fun i => (i.zero, i.size)) = some (some (.agg (Array.replicate 256 (.bool false))), 256) := by kernel_rfl
theorem zero_marks : ∀ w, (zeroValue 35).run Try.prog w = .ok (.agg (Array.replicate 256 (.bool false))) w := (zero_of_info info_marks).1
theorem size_marks (l : List UInt8) : (Try.prog.info? 35).map (·.size) = some (Lib.setCells l).size := by rw [Lib.setCells_size]; exact (zero_of_info info_marks).2
theorem below_row {w w' : World} {B g : Nat} (hb : Below B w w') (hg : B ≤ g) (cs : Array Value) : Below B w (w'.setRow g cs) := hb.trans ⟨rfl, rfl, rfl, by simp [World.setRow], fun k hk => setRow_other w' g k _ (by omega)⟩
theorem blk_row {w : World} {g : Nat} {cs cs' : Array Value} {t : TypeId} (h : BlkAt w g cs t) : BlkAt (w.setRow g cs') g cs' t := setRow_heap w g cs cs' t (0, 0) h

set_option maxHeartbeats 2000000 in
set_option maxRecDepth 100000 in
theorem marked_is (t : ByteArray) (ht : t.size ≤ 1048576) (w : World) :
    Calls Try.prog 19 #[.string t] w (Gives w (.agg (Lib.setCells t.data.toList))) := by
  have hz := zero_marks
  go_enter Try.func19, Try.ntmps19
  go_wp2
  rw [← Lib.setCells_nil]
  go_loopw [7] (fun i wr => ∃ k : Nat, k ≤ t.size ∧ i = .int .i64 k ∧ BlkAt wr w.heap.size (Lib.setCells []) 35 ∧ BlkAt wr (w.heap.size + 1) (Lib.setCells (t.data.toList.take k)) 35 ∧ Below w.heap.size w wr) (fun i _ => t.size - (intOf i).toNat)
  case atStart => exact ⟨0, Nat.zero_le _, rfl, (BlkAt.new _ _ _).alloc _, BlkAt.new_at _ _ _ _ (by simp), bel_alloc (bel_alloc (Below.refl _ _) _) _⟩
  case round =>
    obtain ⟨k, hk, rfl, hA, hB, hb⟩ := hrel
    by_cases hlt : k < t.size
    · have hi0 : (0 : Int) ≤ (k : Int) := by omega
      have hi1 : (k : Int) < (t.size : Int) := by omega
      have hx1 : (t[k].toNat : Int) < 256 := by have := t[k].toNat_lt; omega
      have hx0 : (0 : Int) ≤ (t[k].toNat : Int) := by omega
      have c0 := hB.cell t[k].toNat (marks_at _ t[k])
      have f0 := hB.frozen t[k].toNat
      have hB2 := hB.set t[k].toNat (.bool true)
      rw [← Lib.setCells_snoc, ← byte_snoc t k hlt] at hB2
      have hA2 := hA.far (a := ⟨w.heap.size + 1, t[k].toNat, none⟩) (by show w.heap.size ≠ w.heap.size + 1; omega) (.bool true)
      have hb2 := bel_set hb ⟨w.heap.size + 1, t[k].toNat, none⟩ (by show w.heap.size ≤ w.heap.size + 1; omega) (.bool true)
      clear hA hB hb
      go_wp2
      go_roundw
      case rel => exact ⟨k + 1, by omega, by go_num, hA2, hB2, hb2⟩
      case measure => simp [intOf]; omega
    · have hk2 : k = t.size := by omega
      have hT : t.data.toList.take k = t.data.toList := List.take_of_length_le (by simp; omega)
      rw [hT] at hB
      clear hT
      go_wp2_with (first | (refine wpList_load_row rfl 35 _ rfl (w.heap.size + 1) rfl _ _ _ _ hB Try.underlying35 rfl (size_marks _) ?_) | (refine wpList_store_row rfl 35 _ _ rfl w.heap.size _ rfl rfl _ _ hA (size_marks _) (by rw [Lib.setCells_size, Lib.setCells_size]) (Lib.setCells_one _) ?_))
      refine bodyPost_ret (v := .agg (Lib.setCells t.data.toList)) ?_ rfl ⟨rfl, below_row hb (Nat.le_refl _) _⟩
      exact results_cell_row rfl _ _ _ _ _ _ _ rfl (blk_row hA) Try.underlying35 rfl (size_marks _)

set_option maxHeartbeats 2000000 in
set_option maxRecDepth 100000 in
theorem row_is (l : List UInt8) (b : Nat) (s : ByteArray) (m : Bool) (w : World) (hs : s.size ≤ 1048576) (hB : BlkAt w b (Lib.setCells l) 35) :
    Calls Try.prog 23 #[.pointer (some ⟨b, 0, none⟩), .string s, .bool m] w fun e w' => e = .returned (.int .i64 (rowN (ofS l) m s.data.toList : Nat)) ∧ ∃ n, w' = w.drewN n := by
  have HC : Hid (∀ (x : UInt8), w.cell? ⟨b, x.toNat, none⟩ = some (.bool (ofS l x.toNat))) := Lib.hid fun x => hB.cell _ (marks_at l x)
  clear hB
  go_enter Try.func23, Try.ntmps23
  go_wp2
  go_loopw [7] (fun i wr => ∃ (k q : Nat), k ≤ s.size ∧ i = .int .i64 k ∧ wr = w.drewN q ∧ Hid (∀ c ∈ s.data.toList.take k, (inP (ofS l) c == m) = true)) (fun i _ => s.size - (intOf i).toNat)
  case atStart => exact ⟨0, 0, Nat.zero_le _, rfl, rfl, Lib.hid (fun c hc => by simp at hc)⟩
  case round =>
    obtain ⟨k, q, hk, rfl, rfl, HR⟩ := hrel
    by_cases hlt : k < s.size
    · have hi0 : (0 : Int) ≤ (k : Int) := by omega
      have hi1 : (k : Int) < (s.size : Int) := by omega
      have hx1 : (s[k].toNat : Int) < 256 := by have := s[k].toNat_lt; omega
      have hx0 : (0 : Int) ≤ (s[k].toNat : Int) := by omega
      have c0 := HC.out s[k]
      have hd := decide_eq_true hi1
      have HS := Lib.hid (byte_snoc s k hlt)
      have HG : Hid (s.data.toList[k]? = some s[k]) := Lib.hid (List.getElem?_eq_getElem (by simpa using hlt))
      obtain ⟨z, hz⟩ : ∃ z, ofS l s[k].toNat = z := ⟨_, rfl⟩
      have HZ : Hid (inP (ofS l) s[k] = z) := Lib.hid hz
      rw [hz] at c0
      clear hz
      have H1 : Hid (z = m → ∀ c ∈ s.data.toList.take (k + 1), (inP (ofS l) c == m) = true) := Lib.hid fun h c hc => by
        rw [HS.out] at hc
        rcases List.mem_append.1 hc with h1 | h1
        · exact HR.out c h1
        · rw [List.mem_singleton.1 h1, HZ.out, h]; simp
      have H2 : Hid (z ≠ m → rowN (ofS l) m s.data.toList = k) := Lib.hid fun h => rowN_eq _ _ _ k (by simpa using hk) HR.out (fun c hc => by
        rw [HG.out] at hc
        injection hc with hc
        rw [← hc, HZ.out]
        simpa using h)
      clear HR HS HG HZ
      by_cases hzm : z = m
      · have HX := Lib.hid (H1.out hzm)
        have hzb : (z == m) = true := by simpa using hzm
        clear H1 H2 hzm
        go_wp2
        go_quiet (fail)
        go_wp2
        go_roundw
        case rel => exact ⟨k + 1, _, by omega, by go_num, rfl, HX⟩
        case measure => simp [intOf]; omega
      · have HX := Lib.hid (H2.out hzm)
        have hzb : (z == m) = false := by simpa using hzm
        clear H1 H2 hzm
        go_wp2
        go_quiet (fail)
        go_wp2
        go_ret
        exact ⟨by rw [HX.out]; rfl, _, World.drewN_drewN _ _ _⟩
    · have HX : Hid (rowN (ofS l) m s.data.toList = k) := Lib.hid (rowN_eq _ _ _ k (by simpa using hk) HR.out (fun c hc => by rw [List.getElem?_eq_none (by simp; omega)] at hc; cases hc))
      have hd : decide ((k : Int) < (s.size : Int)) = false := decide_eq_false (by omega)
      clear HR
      go_wp2
      go_quiet (fail)
      go_wp2
      go_ret
      exact ⟨by rw [HX.out]; rfl, _, World.drewN_drewN _ _ _⟩
end Go.Proofs.Ytdehjkmjebplbaa
