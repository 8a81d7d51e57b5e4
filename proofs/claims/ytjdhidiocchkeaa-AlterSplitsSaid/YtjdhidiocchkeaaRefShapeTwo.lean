/-
  Contracts of the document's answer on shapes (conchref1: May, ShapeOk, Leq), over the translation. (By wip/tools/gen_refsh.py.)
-/
import Derived.Test.YtjdhidiocchkeaaRefShape
namespace Go.Proofs.Ytjdhidiocchkeaa
open Go.RowKit

def refOkF (h0 k s64 z ss e em : Bool) : Bool := if h0 then false else if k then (if (s64 && !z) then (if ss then e == em else false) else false) else em

def refLeqF (au bu cb bk ak q ae na eb s be : Bool) : Bool := if (if au then !bu else false) then false else if cb then (if bk then (if (if ak then q else false) then true else if ak then false else if ae then (if na then eb else false) else false) else (if s then (if ae then be else true) else false)) else true

end Go.Proofs.Ytjdhidiocchkeaa
