/-
  Contracts of text.Lines (it returns a slice of its own that owns just the lines of its text) and of the statements' SameTexts (whether two rows of texts are the same); of what was there nothing turns.
-/
import Derived.Test.YtfmmdhmoogjnhaaDoorChecked
import Derived.Test.YtfmmdhmoogjnhaaDoorPlain
import Derived.WalkKit
import Derived.Lib.Hide
import Derived.Lib.Strings
import Derived.BigQuiet
import Derived.Deep.QuietTactic
import Derived.Laws.OwnMore
namespace Go.Proofs.YtfmmdhmoogjnhaaDoor
open Go.RowKit

theorem info_str : (Tryd.prog.info? 9).map (fun i => (i.zero, i.size, i.bytes)) = some (some (.string ByteArray.empty), 1, 16) := by kernel_rfl

/-- what Lines leaves -/
def LinesLeft (w : World) (ls : List (List UInt8)) (e : Ending) (w' : World) : Prop :=
  ∃ v, e = .returned v ∧ w'.ownsRow w.heap.size 9 1 v ls.length (ls.map strV) ∧ Below w.heap.size w w'

theorem rel_line {w wr w1 : World} {v v' : Value} {L : List (List UInt8)} {x : List UInt8} {o : Obj}
    (hbx : Below w.heap.size w wr) (hown : wr.ownsRow w.heap.size 9 1 v L.length (L.map strV))
    (hown' : w1.ownsRow w.heap.size 9 1 v' (L.length + 1) (L.map strV ++ [strV x])) (hg : (wr.alloc o).grownBy w1 v.ownBlock) :
    w1.ownsRow w.heap.size 9 1 v' (L ++ [x]).length ((L ++ [x]).map strV) ∧ Below w.heap.size w w1 := by
  refine ⟨by simpa using hown', ?_⟩
  have hs := hbx.size
  refine (hbx.alloc hs o).grown hg (by simp; omega) (fun k hk => (hown.lt k hk).1)

set_option maxHeartbeats 1000000 in
theorem Lines_any (s : ByteArray) (w : World) (hs : s.size ≤ 1048576) :
    Calls Tryd.prog 17 #[.string s] w (LinesLeft w (linesOf s.data.toList)) := by
  obtain ⟨i0, hi, hz0, hz1, hz2⟩ := info_parts info_str
  go_enter Tryd.func17, Tryd.ntmps17
  go_wp2
  go_loopw [3, 4, 8] (fun v b i wr => ∃ (k bn : Nat) (L : List (List UInt8)), bn ≤ k ∧ k ≤ s.size ∧ L.length ≤ k ∧ i = .int .i64 k ∧ b = .int .i64 bn ∧
      wr.ownsRow w.heap.size 9 1 v L.length (L.map strV) ∧ Below w.heap.size w wr ∧
      Hid (linesOf s.data.toList = L ++ lgo (s.data.toList.drop k) ((s.data.toList.drop bn).take (k - bn)))) (fun _ _ i _ => s.size - (intOf i).toNat)
  case atStart => exact ⟨0, 0, [], Nat.le_refl _, Nat.zero_le _, Nat.le_refl _, rfl, rfl, World.ownsRow_nil _ _ _ _, Below.refl _ _, Lib.hid (by simp [linesOf])⟩
  case round =>
    obtain ⟨k, bn, L, hbk, hk, hL, rfl, rfl, hown, hbx, HR⟩ := hrel
    by_cases hlt : k < s.size
    · have HD := Lib.hid (drop_cons s k hlt)
      have hc1 : (s[k].toNat : Int) ≤ 255 := by have := s[k].toNat_lt; omega
      by_cases hf : (s[k].toNat : Int) = 10
      · have HF := Lib.hid hf
        have hfb : ((s[k].toNat : Int) == 10) = true := by simpa using hf
        clear hf
        go_wp2_with (at_builtin; refine wpList_append_own _ rfl _ _ 30 rfl w.heap.size 9 i0 (.string ByteArray.empty) 1 16 Tryd.underlying30 hi hz0 hz1 hz2 rfl (by decide) _ _ _ rfl (hown.alloc _) ⟨wr.heap.size, 0, none⟩ 1 1 [.string (s.extract bn k)] rfl rfl ?c1 ?c2 ?c3 ?c4 ?c5 ?_)
        case c1 =>
          intro j u hj
          match j, hj with
          | 0, hj => simp at hj; subst hj; simp [Addr.add]
        case c2 => intro u hu; simp at hu; subst hu; rfl
        case c3 => unfold maxLen; omega
        case c4 => omega
        case c5 => have := hbx.size; simp; omega
        intro v' w1 hown' hgrow _
        rw [extract_bytes] at hown'
        have R := rel_line (x := (s.data.toList.drop bn).take (k - bn)) hbx hown hown' hgrow
        clear hown' hgrow hown hbx
        go_wp2
        go_roundw
        case rel => exact ⟨k + 1, k + 1, L ++ [(s.data.toList.drop bn).take (k - bn)], Nat.le_refl _, by omega, by simp; omega, by go_num, by go_num, R.1, R.2, Lib.hid (by rw [HR.out, HD.out, lgo_feed HF.out]; simp)⟩
        case measure => simp [intOf]; omega
      · have HF := Lib.hid hf
        have hfb : ((s[k].toNat : Int) == 10) = false := by simpa using hf
        clear hf
        have HT := Lib.hid (take_more s bn k hbk hlt)
        go_wp2
        go_roundw
        case rel => exact ⟨k + 1, bn, L, by omega, by omega, by omega, by go_num, rfl, hown, hbx, Lib.hid (by rw [HR.out, HD.out, lgo_other HF.out, HT.out])⟩
        case measure => simp [intOf]; omega
    · have hks : s.size ≤ k := by omega
      have HD : Hid (s.data.toList.drop k = []) := Lib.hid (List.drop_of_length_le (by simp; omega))
      have HT : Hid ((s.data.toList.drop bn).take (k - bn) = s.data.toList.drop bn) := Lib.hid (List.take_of_length_le (by simp; omega))
      by_cases hb : bn < s.size
      · have HL : Hid (linesOf s.data.toList = L ++ [s.data.toList.drop bn]) := Lib.hid (by
          rw [HR.out, HD.out, HT.out]
          have : (s.data.toList.drop bn).isEmpty = false := by simp; omega
          simp [lgo, this])
        go_wp2_with (at_builtin; refine wpList_append_own _ rfl _ _ 30 rfl w.heap.size 9 i0 (.string ByteArray.empty) 1 16 Tryd.underlying30 hi hz0 hz1 hz2 rfl (by decide) _ _ _ rfl (hown.alloc _) ⟨wr.heap.size, 0, none⟩ 1 1 [.string (s.extract bn s.size)] rfl rfl ?d1 ?d2 ?d3 ?d4 ?d5 ?_)
        case d1 =>
          intro j u hj
          match j, hj with
          | 0, hj => simp at hj; subst hj; simp [Addr.add]
        case d2 => intro u hu; simp at hu; subst hu; rfl
        case d3 => unfold maxLen; omega
        case d4 => omega
        case d5 => have := hbx.size; simp; omega
        intro v' w1 hown' hgrow _
        rw [extract_bytes, List.take_of_length_le (by simp)] at hown'
        have R := rel_line (x := s.data.toList.drop bn) hbx hown hown' hgrow
        clear hown' hgrow hown hbx
        go_wp2
        go_ret
        exact ⟨_, rfl, by rw [HL.out]; exact R.1, R.2⟩
      · have HL : Hid (linesOf s.data.toList = L) := Lib.hid (by
          rw [HR.out, HD.out, HT.out, List.drop_of_length_le (by simp; omega)]
          simp [lgo])
        go_wp2
        go_ret
        exact ⟨_, rfl, by rw [HL.out]; exact hown, hbx⟩
end Go.Proofs.YtfmmdhmoogjnhaaDoor
