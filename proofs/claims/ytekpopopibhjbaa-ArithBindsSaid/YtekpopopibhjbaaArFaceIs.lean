/-
  What the statements of layer 8 ask of package arith, by the contracts of its Parse and Eval.
-/
import Derived.Test.YtekpopopibhjbaaArParseIs
import Derived.Test.YtekpopopibhjbaaArEval
import Derived.Test.YtekpopopibhjbaaArFacts
namespace Go.Proofs.Ytekpopopibhjbaa
open Go.RowKit

theorem arith_face : ArithFace parseP where
  parse s hs w := parse_is s (by omega) w
  eval v ops f caps val w h1 h2 h3 h4 := eval_is v ops f caps val w h1 h2 h3 h4
end Go.Proofs.Ytekpopopibhjbaa
