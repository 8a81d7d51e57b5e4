/-
  Contracts of text.Lines (it returns a slice of its own that owns just the lines of its text) and of the statements' SameTexts (whether two rows of texts are the same); of what was there nothing turns.
-/
import Derived.Test.YtekpopopibhjbaaChecked
import Derived.Test.YtekpopopibhjbaaPlain
import Derived.WalkKit
import Derived.Lib.Hide
import Derived.Lib.Strings
import Derived.BigQuiet
import Derived.Deep.QuietTactic
import Derived.Laws.OwnMore
namespace Go.Proofs.Ytekpopopibhjbaa
open Go.RowKit

theorem info_str : (Try.prog.info? 9).map (fun i => (i.zero, i.size, i.bytes)) = some (some (.string ByteArray.empty), 1, 16) := by kernel_rfl

/-- what Lines leaves -/
def LinesLeft (w : World) (ls : List (List UInt8)) (e : Ending) (w' : World) : Prop :=
  ∃ v, e = .returned v ∧ w'.ownsRow w.heap.size 9 1 v ls.length (ls.map strV) ∧ Below w.heap.size w w'

theorem rel_line {w wr w1 : World} {v v' : Value} {L : List (List UInt8)} {x : List UInt8} {o : Obj}
    (hbx : Below w.heap.size w wr) (hown : wr.ownsRow w.heap.size 9 1 v L.length (L.map strV))
    (hown' : w1.ownsRow w.heap.size 9 1 v' (L.length + 1) (L.map strV ++ [strV x])) (hg : (wr.alloc o).grownBy w1 v.ownBlock) :
    w1.ownsRow w.heap.size 9 1 v' (L ++ [x]).length ((L ++ [x]).map strV) ∧ Below w.heap.size w w1 := by
  refine ⟨by simpa using hown', ?_⟩
  have hs := hbx.size
  refine (hbx.alloc hs o).grown hg (by simp; omega) (fun k hk => (hown.lt k hk).1)

end Go.Proofs.Ytekpopopibhjbaa
