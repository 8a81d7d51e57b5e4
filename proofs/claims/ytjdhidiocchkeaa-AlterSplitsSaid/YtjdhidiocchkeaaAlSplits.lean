/-
  The walk of conchlaw5.AlterSplits. (By wip/tools/gen_alsplits.py.)
-/
import Derived.Test.YtjdhidiocchkeaaAlSplitsT
import Derived.Test.YtjdhidiocchkeaaAlSplitsF
namespace Go.Proofs.Ytjdhidiocchkeaa
open Go.RowKit

theorem AlterSplits_walk (a i : Sh) (v t : ByteArray) (is : Bool) (w : World) : Calls Try.prog 6 #[shV a, shV i, .string v, .string t, .bool is] w (Gives w (.bool true)) := by
  cases is with
  | true => exact AlterSplits_T a i v t w
  | false => exact AlterSplits_F a i v t w
end Go.Proofs.Ytjdhidiocchkeaa
