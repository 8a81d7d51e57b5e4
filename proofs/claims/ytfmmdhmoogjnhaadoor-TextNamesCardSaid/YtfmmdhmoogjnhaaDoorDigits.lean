/-
  The contract of text.Digits: it returns the number's digits; of what was there nothing turns (it reads Go's own table of powers of ten).
-/
import Derived.Test.YtfmmdhmoogjnhaaDoorChecked
import Derived.Test.YtfmmdhmoogjnhaaDoorShelf
import Derived.Test.YtfmmdhmoogjnhaaDoorPlain
import Derived.WalkKit
import Derived.Lib.Hide
import Derived.WalkSmall
namespace Go.Proofs.YtfmmdhmoogjnhaaDoor
open Go.RowKit

/-- Go's own table of powers of ten reads as its initialiser lays it -/
def TabOk (w : World) : Prop := Lib.TabIs Tryd.prog w "internal/strconv.uint64pow10" .u64 Lib.pow10Tab ∧ 0 < w.heap.size

theorem gTab : Tryd.prog.globalNamed "internal/strconv.uint64pow10" = some 0 := by kernel_rfl

theorem TabOk.below {w w' : World} (h : TabOk w) (hb : Below w.heap.size w w') : TabOk w' :=
  ⟨var?_below hb gTab h.2 h.1, Nat.lt_of_lt_of_le h.2 hb.size⟩
theorem TabOk.drew {w : World} (h : TabOk w) (n : Nat) : TabOk (w.drewN n) := h.below (below_drewN (Below.refl _ _) n)

theorem below_grows (w : World) (k : Nat) (os : Array Obj) : Below w.heap.size w (Sort.grow (w.drewN k) os) :=
  ⟨rfl, rfl, rfl, by simp [Sort.grow, World.drewN], fun j hj => by simp only [Sort.grow]; rw [Array.getElem?_append_left (by simpa [World.drewN] using hj)]; rfl⟩

/-- it returns v, and of what was there nothing turns -/
def Gives (w : World) (v : Value) (e : Ending) (w' : World) : Prop := e = .returned v ∧ Below w.heap.size w w'

set_option maxHeartbeats 400000 in
theorem Digits_any (n : Int) (h0 : -9223372036854775808 ≤ n) (h1 : n ≤ 9223372036854775807) (w : World) (ht : TabOk w) :
    Calls Tryd.prog 7 #[.int .i64 n] w (Gives w (strV (Lib.itoa n))) := by
  have HT := Lib.hid ht.1
  clear ht
  go_enter Tryd.func7, Tryd.ntmps7
  go_wp2_with fail
  refine (Tryd.strconv_Itoa n h0 h1 _ HT.out).mono ?_
  rintro e w' ⟨rfl, k, os, rfl⟩
  go_wp2
  go_ret
  exact ⟨rfl, below_grows _ _ _⟩
end Go.Proofs.YtfmmdhmoogjnhaaDoor
