/-
  Plain: operators, what ends a word, reserved words, what is passed over, quoted rows; the document's in (conchref1).
-/
import Derived.Test.YtgdaipgmlibpiaaPlain
import Derived.Test.YtgdaipgmlibpiaaBase
import Derived.RowKit
namespace Go.Proofs.Ytgdaipgmlibpiaa
open Go.RowKit

/-- is byte c in l? -/
def inL (l : List UInt8) (c : Nat) : Bool := l.any fun b => decide (b.toNat = c)
def endB (c : Nat) : Bool := inL [32, 9, 10, 59, 38, 124, 40, 41, 60, 62] c
def oneO (c : Nat) : Bool := inL [59, 124, 38, 40, 41, 60, 62, 10] c
def twos : List (List UInt8) := [[59, 59], [38, 38], [124, 124], [62, 62], [60, 60], [60, 38], [62, 38], [60, 62], [62, 124]]
def twoO (l : List UInt8) : Bool := twos.contains l
/-- the operator that begins t -/
def opT (t : List UInt8) : Option (List UInt8) :=
  if twoO (t.take 2) then some (t.take 2) else match t with
    | [] => none
    | c :: _ => if oneO c.toNat then some [c] else none
def opP (l : List UInt8) (at_ : Int) : Option (List UInt8) := if 0 ≤ at_ then opT (l.drop at_.toNat) else none
def words : List (List UInt8) := [[105, 102], [116, 104, 101, 110], [101, 108, 115, 101], [101, 108, 105, 102], [102, 105], [119, 104, 105, 108, 101], [117, 110, 116, 105, 108], [100, 111], [100, 111, 110, 101], [102, 111, 114], [99, 97, 115, 101], [101, 115, 97, 99], [105, 110], [123], [125], [33]]
def resB (l : List UInt8) : Bool := words.contains l
/-- how many bytes are passed over; com: in a comment -/
def skipGo : List UInt8 → Nat
  | [] => 0
  | [c] => if c = 32 ∨ c = 9 then 1 else if c = 35 then 1 else 0
  | c :: d :: r => if c = 32 ∨ c = 9 then 1 + skipGo (d :: r) else if c = 92 ∧ d = 10 then 2 + skipGo r else if c = 35 then ((c :: d :: r).takeWhile (fun b => b ≠ 10)).length else 0
def atIn (l : List UInt8) (at_ : Int) : Nat := (min (max at_ 0) l.length).toNat
def skipP (l : List UInt8) (at_ : Int) : Nat := atIn l at_ + skipGo (l.drop (atIn l at_))
/-- between the quote that begins t and the next one -/
def singT : List UInt8 → Option (List UInt8)
  | 39 :: r => if r.contains 39 then some (r.takeWhile (fun b => b ≠ 39)) else none
  | _ => none
def singP (l : List UInt8) (at_ : Int) : Option (List UInt8 × Nat) := if 0 ≤ at_ then (singT (l.drop at_.toNat)).map (fun x => (x, at_.toNat + x.length + 2)) else none
def lxV (o : Option (List UInt8)) : Value := .tuple #[strV (o.getD []), .bool o.isSome]
def singV (o : Option (List UInt8 × Nat)) : Value := match o with | some (x, k) => .tuple #[strV x, .int .i64 (k : Int), .bool true] | none => .tuple #[strV [], .int .i64 0, .bool false]

theorem inL_snoc (s : ByteArray) (k : Nat) (h : k < s.size) (c : Nat) : inL (s.data.toList.take (k + 1)) c = (inL (s.data.toList.take k) c || decide (s[k].toNat = c)) := by
  have e : s.data.toList.take (k + 1) = s.data.toList.take k ++ [s[k]] := by
    rw [List.take_succ_eq_append_getElem (by simpa using h)]
    rfl
  rw [e]
  unfold inL
  rw [List.any_append]
  simp
theorem inL_more {l : List UInt8} (k c : Nat) (h : inL (l.take k) c = true) : inL l c = true := by
  unfold inL at *
  rw [List.any_eq_true] at *
  obtain ⟨b, hb, hc⟩ := h
  exact ⟨b, List.mem_of_mem_take hb, hc⟩
theorem emp_of0 {s : ByteArray} (h : s.size = 0) : s = ⟨#[]⟩ := by
  obtain ⟨⟨l⟩⟩ := s
  cases l with
  | nil => rfl
  | cons c l => exact absurd h (by show (c :: l).length ≠ 0; simp)
theorem bytes_beqL (s : ByteArray) (l : List UInt8) : (s.toList == l) = (s.data.toList == l) := by rw [toList_data]
theorem bytes_eqL {s : ByteArray} {l : List UInt8} (h : s.data.toList = l) : s = ⟨l.toArray⟩ := by
  subst h; obtain ⟨⟨l⟩⟩ := s; rfl
theorem bytes_neL {s : ByteArray} {l : List UInt8} (h : ¬ s.data.toList = l) : (s.toList == l) = false := by
  rw [toList_data]; simpa using h

set_option maxHeartbeats 1000000 in
set_option maxRecDepth 100000 in
theorem refIn_any (s : ByteArray) (hs : s.size ≤ 1048576) (c : Nat) (w : World) :
    Calls Try.prog 18 #[.string s, .int .u8 (c : Int)] w fun e w' => e = .returned (.bool (inL s.data.toList c)) ∧ w = w' := by
  go_enter Try.func18, Try.ntmps18
  go_wp2
  go_loop [5] (fun i => ∃ k : Nat, k ≤ s.size ∧ i = .int .i64 k ∧ Hid (inL (s.data.toList.take k) c = false)) (fun i => s.size - (intOf i).toNat)
  case atStart => exact ⟨0, Nat.zero_le _, rfl, Lib.hid rfl⟩
  case round =>
    obtain ⟨k, hks, rfl, HP⟩ := hrel
    by_cases hk : k < s.size
    · have hi0 : (0 : Int) ≤ (k : Int) := by omega
      have hi1 : (k : Int) < (s.size : Int) := by omega
      have HS : Hid (inL (s.data.toList.take (k + 1)) c = decide (s[k].toNat = c)) := Lib.hid (by rw [inL_snoc s k hk, HP.out, Bool.false_or])
      by_cases hz : s[k].toNat = c
      · have HT : Hid (inL s.data.toList c = true) := Lib.hid (inL_more (k + 1) c (by rw [HS.out]; exact decide_eq_true hz))
        have hz2 : ((s[k].toNat : Int) == (c : Int)) = true := by rw [hz]; simp
        clear hz HS
        go_wp2
        go_ret
        exact ⟨by rw [HT.out]; rfl, rfl⟩
      · have HZ := Lib.hid hz
        have hz2 : ((s[k].toNat : Int) == (c : Int)) = false := by rw [beq_eq_false_iff_ne]; omega
        clear hz
        go_wp2
        go_round
        case rel => exact ⟨k + 1, by omega, rfl, Lib.hid (by rw [HS.out]; exact decide_eq_false HZ.out)⟩
        case measure => simp [intOf]; omega
    · have hk2 : k = s.size := by omega
      have HT : Hid (inL s.data.toList c = false) := Lib.hid (by rw [← HP.out, hk2, List.take_of_length_le (by simp)])
      go_wp2
      go_ret
      exact ⟨by rw [HT.out]; rfl, rfl⟩

set_option maxHeartbeats 1000000 in
theorem refEnds_is (c : Nat) (w : World) : Calls Try.prog 15 #[.int .u8 (c : Int)] w fun e w' => e = .returned (.bool (endB c)) ∧ w = w' := by
  have H := Lib.hid (fun w => refIn_any ⟨#[32, 9, 10, 59, 38, 124, 40, 41, 60, 62]⟩ (by decide) c w)
  have HE : Hid (inL (⟨#[32, 9, 10, 59, 38, 124, 40, 41, 60, 62]⟩ : ByteArray).data.toList c = endB c) := Lib.hid rfl
  rw [HE.out] at H
  clear HE
  generalize endB c = z at *
  go_enter Try.func15, Try.ntmps15
  go_wp2_with fail
  refine (H.out _).mono ?_
  rintro e w1 ⟨rfl, rfl⟩
  go_wp2
  go_ret
  exact ⟨rfl, rfl⟩
end Go.Proofs.Ytgdaipgmlibpiaa
