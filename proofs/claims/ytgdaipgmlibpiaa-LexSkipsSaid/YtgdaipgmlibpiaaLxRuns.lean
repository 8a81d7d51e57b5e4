/-
  The walks of conchlaw9's laws, a byte as an integer.
-/
import Derived.Test.YtgdaipgmlibpiaaLxTells
import Derived.Test.YtgdaipgmlibpiaaLxSkips
import Derived.Test.YtgdaipgmlibpiaaLxWords
import Derived.Test.YtgdaipgmlibpiaaLxOps
namespace Go.Proofs.Ytgdaipgmlibpiaa
open Go.RowKit

theorem LexWords_run (F : LexFace) (c : Int) (h : 0 ≤ c ∧ c ≤ 255) (s : ByteArray) (hs : s.size ≤ maxLen) (w : World) :
    Calls Try.prog 3 #[.int .u8 c, .string s] w (Gives w (.bool true)) := by
  obtain ⟨n, rfl⟩ := Int.eq_ofNat_of_zero_le h.1
  exact LexWords_walk F n (by omega) s hs w
theorem LexTells_run (F : LexFace) (s : ByteArray) (at_ : Int) (c : Int) (w : World) (hs : s.size ≤ maxLen) (h0 : -9223372036854775808 ≤ at_ ∧ at_ ≤ 9223372036854775807) (h : 0 ≤ c ∧ c ≤ 255) :
    Calls Try.prog 4 #[.string s, .int .i64 at_, .int .u8 c] w (Gives w (.bool true)) := by
  obtain ⟨n, rfl⟩ := Int.eq_ofNat_of_zero_le h.1
  exact LexTells_walk F s at_ n w hs h0.1 h0.2 (by omega)
end Go.Proofs.Ytgdaipgmlibpiaa
