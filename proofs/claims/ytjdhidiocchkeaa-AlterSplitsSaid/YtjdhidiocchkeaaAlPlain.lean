/-
  Plain functions of the layer alter over shapes (no program in it): the program's (..P, ..B) and the document's (..R).
-/
import Derived.Test.YtjdhidiocchkeaaShLaws
namespace Go.Proofs.Ytjdhidiocchkeaa

/-- x where it is set -/
def setSh (x : Sh) : Sh := ⟨false, x.e, x.h, x.k, x.l⟩
def kkB (a b : Sh) : Bool := if a.k then (if b.k then decide (a.l.size + b.l.size ≤ 64) else false) else false
def catS (a b : Sh) : Sh := if noneB a then zeroSh else if noneB b then zeroSh else if kkB a b then litSh (a.l ++ b.l) else ofSh (orS a.h b.h) (if a.e then b.e else false)
def catP (a b : Sh) : Sh := catS (setSh a) (setSh b)
def readP (x : Sh) : Sh := if x.u then (if noneB (setSh x) then litSh ⟨#[]⟩ else ofSh x.h true) else x
def cutP (x : Sh) : Sh := if noneB x then x else if sameSh x (litSh ⟨#[]⟩) then x else ofSh x.h true
def nums : List UInt8 := [45, 48, 49, 50, 51, 52, 53, 54, 55, 56, 57]
def numP : Sh := ofSh (ofS nums) false
def usedP (x : Sh) (c : Bool) : Sh := if c then (if x.k then (if empB x.l then zeroSh else setSh x) else ⟨false, false, x.h, x.k, x.l⟩) else setSh x
def othB (x : Sh) (c : Bool) : Bool := if x.u then true else if c then x.e else false
def defP (x w : Sh) (c : Bool) : Sh := if othB x c then joinP (usedP x c) w else usedP x c
def elseP (x w : Sh) (c : Bool) : Sh := if noneB (usedP x c) then zeroSh else w
def othP (x w : Sh) (c : Bool) : Sh := if othB x c then joinP (elseP x w c) (litSh ⟨#[]⟩) else elseP x w c
def blanks : List UInt8 := [32, 9, 10]
def sepP (x : Sh) : Nat → Bool := if x.u then orS (if x.k then ofS x.l.data.toList else x.h) (ofS blanks) else (if x.k then ofS x.l.data.toList else x.h)
def meetB (p q : Nat → Bool) : Bool := !sameS (andS p q) noS
def splitB (x ifs : Sh) : Bool := if x.e then true else meetB x.h (sepP ifs)
def signs : List UInt8 := [42, 63, 91]
def globB (x : Sh) : Bool := meetB x.h (ofS signs)

/-- the document's -/
def readR (x : Sh) : Sh := if x.u then (if couldB x then ⟨false, true, x.h, false, ⟨#[]⟩⟩ else litSh ⟨#[]⟩) else x
def catR (a b : Sh) : Sh := if noneB a then zeroSh else if noneB b then zeroSh else if kkB a b then litSh (a.l ++ b.l) else ⟨false, if a.e then b.e else false, orS a.h b.h, false, ⟨#[]⟩⟩
def cutR (x : Sh) : Sh := if noneB x then x else if (if x.k then empB x.l else false) then x else ⟨false, true, x.h, false, ⟨#[]⟩⟩
def usedR (x : Sh) (c : Bool) : Sh := if c then (if (if x.k then empB x.l else false) then zeroSh else ⟨false, false, x.h, x.k, x.l⟩) else setSh x
def defR (x w : Sh) (c : Bool) : Sh := if othB x c then joinR (usedR x c) w else usedR x c
def elseR (x w : Sh) (c : Bool) : Sh := if couldB (usedR x c) then w else zeroSh
def othR (x w : Sh) (c : Bool) : Sh := if othB x c then joinR (elseR x w c) (litSh ⟨#[]⟩) else elseR x w c
def splitR (x ifs : Sh) : Bool := if couldB x then (if x.e then true else meetB x.h (sepP ifs)) else false
def numsR : List UInt8 := [48, 49, 50, 51, 52, 53, 54, 55, 56, 57, 45]
def numR : Sh := ofSh (ofS numsR) false
end Go.Proofs.Ytjdhidiocchkeaa
