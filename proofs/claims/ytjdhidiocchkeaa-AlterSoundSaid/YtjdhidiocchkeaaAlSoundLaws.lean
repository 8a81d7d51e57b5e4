/-
  Plain facts on cut texts. (By wip/tools/gen_alsound.py.)
-/
import Derived.Test.YtjdhidiocchkeaaAlTells
namespace Go.Proofs.Ytjdhidiocchkeaa
open Go.RowKit

theorem ext_size (r : ByteArray) (i j : Nat) : (r.extract i j).size ≤ r.size := by
  rw [ByteArray.size_extract]
  omega
theorem ext_mem (r : ByteArray) (i j : Nat) : ∀ b ∈ (r.extract i j).data.toList, b ∈ r.data.toList := by
  intro b hb
  rw [ByteArray.data_extract, Array.toList_extract] at hb
  exact List.mem_of_mem_drop (List.mem_of_mem_take hb)

end Go.Proofs.Ytjdhidiocchkeaa
