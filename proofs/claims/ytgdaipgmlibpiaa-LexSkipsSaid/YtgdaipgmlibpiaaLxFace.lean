/-
  What the statements of layer 9 ask of package lex (its contracts, as hypotheses); the fixed checks over it.
-/
import Derived.Test.YtgdaipgmlibpiaaLxSkip
namespace Go.Proofs.Ytgdaipgmlibpiaa
open Go.RowKit

/-- package lex, as the statements see it -/
structure LexFace : Prop where
  op : ∀ (s : ByteArray) (at_ : Int), s.size ≤ 1000 → -9223372036854775808 ≤ at_ → at_ ≤ 9223372036854775807 → ∀ w, Calls Try.prog 8 #[.string s, .int .i64 at_] w (Gives w (lxV (opP s.data.toList at_)))
  skip : ∀ (s : ByteArray) (at_ : Int), s.size ≤ 1000 → -9223372036854775808 ≤ at_ → at_ ≤ 9223372036854775807 → ∀ w, Calls Try.prog 12 #[.string s, .int .i64 at_] w (Gives w (.int .i64 (skipP s.data.toList at_ : Nat)))
  ends : ∀ (c : Nat), c < 256 → ∀ w, Calls Try.prog 9 #[.int .u8 (c : Int)] w (Gives w (.bool (endB c)))
  reserved : ∀ (s : ByteArray), s.size ≤ maxLen → ∀ w, Calls Try.prog 7 #[.string s] w (Gives w (.bool (resB s.data.toList)))
  single : ∀ (s : ByteArray) (at_ : Int), s.size ≤ 1000 → -9223372036854775808 ≤ at_ → at_ ≤ 9223372036854775807 → ∀ w, Calls Try.prog 14 #[.string s, .int .i64 at_] w (Gives w (singV (singP s.data.toList at_)))

section
theorem LexFace.op_some (F : LexFace) (s : ByteArray) (at_ : Int) {x : List UInt8} (h : opP s.data.toList at_ = some x) (hs : s.size ≤ 1000) (h0 : -9223372036854775808 ≤ at_) (h1 : at_ ≤ 9223372036854775807) (w : World) :
    Calls Try.prog 8 #[.string s, .int .i64 at_] w (Gives w (.tuple #[.string ⟨x.toArray⟩, .bool true])) := by
  have := F.op s at_ hs h0 h1 w
  rw [h] at this
  exact this
theorem LexFace.op_none (F : LexFace) (s : ByteArray) (at_ : Int) (h : opP s.data.toList at_ = none) (hs : s.size ≤ 1000) (h0 : -9223372036854775808 ≤ at_) (h1 : at_ ≤ 9223372036854775807) (w : World) :
    Calls Try.prog 8 #[.string s, .int .i64 at_] w (Gives w (.tuple #[.string ⟨#[]⟩, .bool false])) := by
  have := F.op s at_ hs h0 h1 w
  rw [h] at this
  exact this
theorem LexFace.skip_at (F : LexFace) (s : ByteArray) (at_ : Int) {n : Nat} (h : skipP s.data.toList at_ = n) (hs : s.size ≤ 1000) (h0 : -9223372036854775808 ≤ at_) (h1 : at_ ≤ 9223372036854775807) (w : World) :
    Calls Try.prog 12 #[.string s, .int .i64 at_] w (Gives w (.int .i64 (n : Int))) := by
  have := F.skip s at_ hs h0 h1 w
  rw [h] at this
  exact this
theorem LexFace.res_at (F : LexFace) (s : ByteArray) {b : Bool} (h : resB s.data.toList = b) (hs : s.size ≤ maxLen) (w : World) : Calls Try.prog 7 #[.string s] w (Gives w (.bool b)) := by
  have := F.reserved s hs w
  rw [h] at this
  exact this
theorem LexFace.ends_at (F : LexFace) (c : Nat) {b : Bool} (h : endB c = b) (hc : c < 256) (w : World) : Calls Try.prog 9 #[.int .u8 (c : Int)] w (Gives w (.bool b)) := by
  have := F.ends c hc w
  rw [h] at this
  exact this
theorem LexFace.single_some (F : LexFace) (s : ByteArray) (at_ : Int) {x : List UInt8} {k : Nat} (h : singP s.data.toList at_ = some (x, k)) (hs : s.size ≤ 1000) (h0 : -9223372036854775808 ≤ at_) (h1 : at_ ≤ 9223372036854775807) (w : World) :
    Calls Try.prog 14 #[.string s, .int .i64 at_] w (Gives w (.tuple #[.string ⟨x.toArray⟩, .int .i64 (k : Int), .bool true])) := by
  have := F.single s at_ hs h0 h1 w
  rw [h] at this
  exact this
theorem LexFace.single_none (F : LexFace) (s : ByteArray) (at_ : Int) (h : singP s.data.toList at_ = none) (hs : s.size ≤ 1000) (h0 : -9223372036854775808 ≤ at_) (h1 : at_ ≤ 9223372036854775807) (w : World) :
    Calls Try.prog 14 #[.string s, .int .i64 at_] w (Gives w (.tuple #[.string ⟨#[]⟩, .int .i64 0, .bool false])) := by
  have := F.single s at_ hs h0 h1 w
  rw [h] at this
  exact this
end

set_option maxHeartbeats 4000000 in
set_option maxRecDepth 100000 in
theorem awake9_is (F : LexFace) (w : World) : Calls Try.prog 10 #[] w (Gives w (.bool true)) := by
  have H1 := Lib.hid (F.op_some ⟨#[62, 62, 97]⟩ 0 (x := [62, 62]) (by kernel_rfl) (by decide) (by decide) (by decide))
  have H2 := Lib.hid (F.single_some ⟨#[39, 97, 39, 98]⟩ 0 (x := [97]) (k := 3) (by kernel_rfl) (by decide) (by decide) (by decide))
  have H3 := Lib.hid (F.skip_at ⟨#[32, 32, 35, 32, 120, 10, 97]⟩ 0 (n := 5) (by kernel_rfl) (by decide) (by decide) (by decide))
  have H4 := Lib.hid (F.ends_at 59 (b := true) (by kernel_rfl) (by decide))
  have H5 := Lib.hid (F.ends_at 97 (b := false) (by kernel_rfl) (by decide))
  have H6 := Lib.hid (F.res_at ⟨#[102, 105]⟩ (b := true) (by kernel_rfl) (by decide))
  have H7 := Lib.hid (F.res_at ⟨#[102, 111]⟩ (b := false) (by kernel_rfl) (by decide))
  go_enter Try.func10, Try.ntmps10
  go_wp2_with fail
  refine (H1.out _).mono ?_
  rintro e w1 ⟨rfl, hb1⟩
  clear H1
  go_wp2_with fail
  refine (H2.out _).mono ?_
  rintro e w2 ⟨rfl, hb2⟩
  have hb := bel_step hb1 hb2
  clear H2 hb1 hb2
  go_wp2_with fail
  refine (H3.out _).mono ?_
  rintro e w3 ⟨rfl, hb3⟩
  have hb := bel_step hb hb3
  clear H3 hb3
  go_wp2_with fail
  refine (H4.out _).mono ?_
  rintro e w4 ⟨rfl, hb4⟩
  have hb := bel_step hb hb4
  clear H4 hb4
  go_wp2_with fail
  refine (H5.out _).mono ?_
  rintro e w5 ⟨rfl, hb5⟩
  have hb := bel_step hb hb5
  clear H5 hb5
  go_wp2_with fail
  refine (H6.out _).mono ?_
  rintro e w6 ⟨rfl, hb6⟩
  have hb := bel_step hb hb6
  clear H6 hb6
  go_wp2_with fail
  refine (H7.out _).mono ?_
  rintro e w7 ⟨rfl, hb7⟩
  have hb := bel_step hb hb7
  clear H7 hb7
  go_wp2
  go_ret
  exact ⟨rfl, hb⟩
end Go.Proofs.Ytgdaipgmlibpiaa
