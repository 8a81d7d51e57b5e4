/-
  The contract of Go's slices.Reverse at slices of sets.
-/
import Derived.Test.YtmpneifjjnfckaaPmRev
namespace Go.Proofs.Ytmpneifjjnfckaa
open Go.RowKit

theorem rowS_seto {fs : List (Nat → Bool)} {i o : Nat} {f : Nat → Bool} (h : i * 4 = o) : (((((rowS fs).set o (.int .u64 (wd f 0 : Nat))).set (o + 1) (.int .u64 (wd f 1 : Nat))).set (o + 2) (.int .u64 (wd f 2 : Nat))).set (o + 3) (.int .u64 (wd f 3 : Nat))) = rowS (fs.set i f) := by
  subst h
  exact rowS_set fs i f

set_option maxHeartbeats 16000000 in
set_option maxRecDepth 100000 in
theorem revSets_is (base g cap : Nat) (fs : List (Nat → Bool)) (hgs : fs.length ≤ 1048577) (w : World) (h : w.ownsRow base 57 4 (.slice (some ⟨g, 0, none⟩) fs.length cap) fs.length (rowS fs)) :
    Calls Try.prog 36 #[(.slice (some ⟨g, 0, none⟩) fs.length cap)] w (RevLeft w base 57 4 (.slice (some ⟨g, 0, none⟩) fs.length cap) fs.length (rowS fs.reverse)) := by
  go_enter Try.func36, Try.ntmps36
  go_wp2
  go_loopw [2, 3] (fun x y wr => ∃ (i : Nat) (es : List (Nat → Bool)), i ≤ fs.length ∧ x = .int .i64 (i : Int) ∧ y = .int .i64 ((fs.length : Int) - 1 - (i : Int)) ∧ wr.ownsRow base 57 4 (.slice (some ⟨g, 0, none⟩) fs.length cap) fs.length (rowS es) ∧ w.grownBy wr (some g) ∧ Hid (RevTo fs i es)) (fun x _ _ => fs.length + 1 - (intOf x).toNat)
  case atStart => exact ⟨0, fs, Nat.zero_le _, rfl, by simp, h, World.grownBy.refl _ _, Lib.hid (RevTo.zero fs)⟩
  case round =>
    clear h
    obtain ⟨i, es, hi, rfl, rfl, hO, hg, HR⟩ := hrel
    by_cases hlt : (i : Int) < (fs.length : Int) - 1 - (i : Int)
    · obtain ⟨j, hj⟩ : ∃ j, fs.length - 1 - i = j := ⟨_, rfl⟩
      have ej : (fs.length : Int) - 1 - (i : Int) = (j : Int) := by omega
      rw [ej] at hlt
      rw [ej]
      have hij : i < j := by omega
      have hjl : j < fs.length := by omega
      have hil : i < fs.length := by omega
      have hes := HR.out.1
      have hje : j < es.length := by omega
      have hie : i < es.length := by omega
      have HR2 : Hid (RevTo fs (i + 1) ((es.set i es[j]).set j es[i])) := Lib.hid (HR.out.step hj hij hie hje)
      have HN : Hid ((j : Int) - 1 = (fs.length : Int) - 1 - ((i + 1 : Nat) : Int)) := Lib.hid (by omega)
      have hjI : (j : Int) < (fs.length : Int) := by omega
      have hiI : (i : Int) < (fs.length : Int) := by omega
      obtain ⟨oi, hoi⟩ : ∃ oi, i * 4 = oi := ⟨_, rfl⟩
      obtain ⟨oj, hoj⟩ : ∃ oj, j * 4 = oj := ⟨_, rfl⟩
      have hoij : oi + 3 < oj := by omega
      have ci0 : wr.cell? ⟨g, oi, none⟩ = some (.int .u64 (wd es[i] 0 : Nat)) := by
        have := hO.cellAt (i * 4 + 0) (by omega)
        rw [rowS_get es i 0 hie (by decide)] at this
        rw [← hoi]
        exact this
      have fi0 : wr.frozen? ⟨g, oi, none⟩ = false := hO.frozenAt _
      have ci1 : wr.cell? ⟨g, oi + 1, none⟩ = some (.int .u64 (wd es[i] 1 : Nat)) := by
        have := hO.cellAt (i * 4 + 1) (by omega)
        rw [rowS_get es i 1 hie (by decide)] at this
        rw [← hoi]
        exact this
      have fi1 : wr.frozen? ⟨g, oi + 1, none⟩ = false := hO.frozenAt _
      have ci2 : wr.cell? ⟨g, oi + 2, none⟩ = some (.int .u64 (wd es[i] 2 : Nat)) := by
        have := hO.cellAt (i * 4 + 2) (by omega)
        rw [rowS_get es i 2 hie (by decide)] at this
        rw [← hoi]
        exact this
      have fi2 : wr.frozen? ⟨g, oi + 2, none⟩ = false := hO.frozenAt _
      have ci3 : wr.cell? ⟨g, oi + 3, none⟩ = some (.int .u64 (wd es[i] 3 : Nat)) := by
        have := hO.cellAt (i * 4 + 3) (by omega)
        rw [rowS_get es i 3 hie (by decide)] at this
        rw [← hoi]
        exact this
      have fi3 : wr.frozen? ⟨g, oi + 3, none⟩ = false := hO.frozenAt _
      have cj0 : wr.cell? ⟨g, oj, none⟩ = some (.int .u64 (wd es[j] 0 : Nat)) := by
        have := hO.cellAt (j * 4 + 0) (by omega)
        rw [rowS_get es j 0 hje (by decide)] at this
        rw [← hoj]
        exact this
      have fj0 : wr.frozen? ⟨g, oj, none⟩ = false := hO.frozenAt _
      have cj1 : wr.cell? ⟨g, oj + 1, none⟩ = some (.int .u64 (wd es[j] 1 : Nat)) := by
        have := hO.cellAt (j * 4 + 1) (by omega)
        rw [rowS_get es j 1 hje (by decide)] at this
        rw [← hoj]
        exact this
      have fj1 : wr.frozen? ⟨g, oj + 1, none⟩ = false := hO.frozenAt _
      have cj2 : wr.cell? ⟨g, oj + 2, none⟩ = some (.int .u64 (wd es[j] 2 : Nat)) := by
        have := hO.cellAt (j * 4 + 2) (by omega)
        rw [rowS_get es j 2 hje (by decide)] at this
        rw [← hoj]
        exact this
      have fj2 : wr.frozen? ⟨g, oj + 2, none⟩ = false := hO.frozenAt _
      have cj3 : wr.cell? ⟨g, oj + 3, none⟩ = some (.int .u64 (wd es[j] 3 : Nat)) := by
        have := hO.cellAt (j * 4 + 3) (by omega)
        rw [rowS_get es j 3 hje (by decide)] at this
        rw [← hoj]
        exact this
      have fj3 : wr.frozen? ⟨g, oj + 3, none⟩ = false := hO.frozenAt _
      clear ej hes
      generalize es[i] = bi at *
      generalize es[j] = bj at *
      obtain ⟨o1, g1⟩ := hO.stored (oi) (.int .u64 (wd bj 0 : Nat))
      obtain ⟨o2, g2⟩ := o1.stored (oi + 1) (.int .u64 (wd bj 1 : Nat))
      obtain ⟨o3, g3⟩ := o2.stored (oi + 2) (.int .u64 (wd bj 2 : Nat))
      obtain ⟨o4, g4⟩ := o3.stored (oi + 3) (.int .u64 (wd bj 3 : Nat))
      obtain ⟨o5, g5⟩ := o4.stored (oj) (.int .u64 (wd bi 0 : Nat))
      obtain ⟨o6, g6⟩ := o5.stored (oj + 1) (.int .u64 (wd bi 1 : Nat))
      obtain ⟨o7, g7⟩ := o6.stored (oj + 2) (.int .u64 (wd bi 2 : Nat))
      obtain ⟨o8, g8⟩ := o7.stored (oj + 3) (.int .u64 (wd bi 3 : Nat))
      rw [rowS_seto hoi, rowS_seto hoj] at o8
      have hg2 := grow_drew (grow2 (grow2 (grow2 (grow2 (grow2 (grow2 (grow2 (grow2 hg g1) g2) g3) g4) g5) g6) g7) g8)
      have hO2 := o8.drew
      clear o1 o2 o3 o4 o5 o6 o7 o8 g1 g2 g3 g4 g5 g6 g7 g8
      have HO := Lib.hid (And.intro hO2 hg2)
      clear hO2 hg2 hO hg
      go_wp2
      go_region
      go_wp2
      go_roundw
      case rel => exact ⟨i + 1, _, by omega, by go_num, by rw [← HN.out], HO.out.1, HO.out.2, HR2⟩
      case measure => simp [intOf]; omega
    · have HE : Hid (es = fs.reverse) := Lib.hid (HR.out.done (by omega))
      have hld : decide ((i : Int) < (fs.length : Int) - 1 - (i : Int)) = false := decide_eq_false hlt
      go_wp2
      refine bodyPost_end (results_none rfl _ _ _) rfl ?_
      exact ⟨⟨_, rfl⟩, by rw [← HE.out]; exact hO, hg⟩

end Go.Proofs.Ytmpneifjjnfckaa
