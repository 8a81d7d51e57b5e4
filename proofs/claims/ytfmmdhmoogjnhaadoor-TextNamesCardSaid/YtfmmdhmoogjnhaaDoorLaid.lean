/-
  From the row's condition (Go's own tables read as they are laid) to what the walks ask; the door's own heap meets it.
-/
import Derived.Test.YtfmmdhmoogjnhaaDoorRows
import Derived.Test.YtfmmdhmoogjnhaaDoorDigits
import Derived.ProofKit
import Derived.LaidMore
import Derived.OpenShut
import Derived.Stop.Joined
import Derived.Stop.LaidErr
import Derived.Lib.LaidTab
import Derived.SizedLaws
namespace Go.Proofs.YtfmmdhmoogjnhaaDoor
open Go.ChangeShapes Go.WideShapes Go.ChangeAt Go.RowKit

theorem own : ownKnob Tryd.prog.godebug = none := by kernel_rfl
/-- what the rows list -/
def laidL : List (String × DataW Unit) := [("math/bits.deBruijn32tab", Rows.laid_math_bits_deBruijn32tab), ("math/bits.deBruijn64tab", Rows.laid_math_bits_deBruijn64tab), ("internal/strconv.uint64pow10", Rows.laid_internal_strconv_uint64pow10)]

theorem door_met (os : Os) (args : Array Value) : laidMetH Tryd.prog laidL ((World.doorLaid Tryd.prog 24 os).forCall (fun _ _ => 0) ⟨#[], args, []⟩).memory :=
  laidMetH_of_parts3 (fuel := 8) (laidMet_of_run' 8 (by kernel_rfl) (by kernel_rfl)) (by kernel_rfl) (by kernel_rfl)

theorem tTab : (Tryd.prog.globals[0]?).map (·.type) = some 47 := by kernel_rfl
theorem cTab : Tryd.prog.cellsOf 47 = 20 := by kernel_rfl
theorem cU64 : Tryd.prog.cellsOf 38 = 1 := by kernel_rfl
theorem dTab : (Rows.laid_internal_strconv_uint64pow10 : DataW Unit) = Lib.tabData .u64 Lib.pow10Tab := by rfl

theorem tab_of_laid {W : World} (h : laidMetH Tryd.prog laidL W) : TabOk W := by
  rw [MakeChecks.laidMetH_plain _ _ _ (by kernel_rfl)] at h
  have h2 := laidMet.tail (laidMet.tail h)
  rw [dTab] at h2
  have h3 := Lib.tabIs_of_head gTab tTab Tryd.underlying47 Tryd.underlying38 cU64 cTab h2
  refine ⟨h3, ?_⟩
  have h4 : W.var? Tryd.prog "internal/strconv.uint64pow10" = some _ := h3
  unfold World.var? at h4
  rw [gTab, Option.bind_some] at h4
  by_cases hg : 0 < W.heap.size
  · exact hg
  · rw [Array.getElem?_eq_none (by omega)] at h4; cases h4
end Go.Proofs.YtfmmdhmoogjnhaaDoor
