/-
  Plain facts on texts that have a byte of patterns. (By wip/tools/gen_alsplits.py.)
-/
import Derived.Test.YtjdhidiocchkeaaAlTells
import Derived.Test.YtjdhidiocchkeaaRefFields
namespace Go.Proofs.Ytjdhidiocchkeaa
open Go.RowKit

def glAny (l : List UInt8) : Bool := l.any fun b => ofS signs b.toNat
theorem emp_list {v : ByteArray} (h : empB v = false) : v.data.toList.isEmpty = false := bfalse fun h2 => no_both ((empB_list v).2 (by simpa using h2)) h
end Go.Proofs.Ytjdhidiocchkeaa
