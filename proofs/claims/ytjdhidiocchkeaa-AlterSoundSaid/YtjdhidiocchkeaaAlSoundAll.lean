/-
  The walk of conchlaw5.AlterSound, whether the value is set or not.
-/
import Derived.Test.YtjdhidiocchkeaaAlSound
import Derived.Test.YtjdhidiocchkeaaAlSoundF
namespace Go.Proofs.Ytjdhidiocchkeaa
open Go.RowKit

theorem AlterSound_walk (a b : Sh) (v t : ByteArray) (is c : Bool) (f g : Int) (w : World) : Calls Try.prog 5 #[shV a, shV b, .string v, .string t, .bool is, .bool c, .int .i64 f, .int .i64 g] w (Gives w (.bool true)) := by
  cases is with
  | true => exact AlterSound_T a b v t c f g w
  | false => exact AlterSound_F a b v t c f g w
end Go.Proofs.Ytjdhidiocchkeaa
