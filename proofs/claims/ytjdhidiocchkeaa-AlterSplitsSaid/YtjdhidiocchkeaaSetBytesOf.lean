/-
  The contract of set.Bytes: the set's bytes, rising.
-/
import Derived.Test.YtjdhidiocchkeaaSetAt
import Derived.Laws.BytesArg
import Derived.OwnWalk
namespace Go.Proofs.Ytjdhidiocchkeaa
open Go.RowKit

def byteV (b : UInt8) : Value := .int .u8 (b.toNat : Int)

theorem own_after {w w1 : World} {base : Nat} {e : TypeId} {size : Nat} {v : Value} {n : Nat} {xs : List Value} (h : w.ownsRow base e size v n xs) (hb : Below w.heap.size w w1) : w1.ownsRow base e size v n xs := by
  refine ⟨h.1, ?_⟩
  rcases h.2 with h0 | ⟨g, cap, cur, hv, hg, hh, hr⟩
  · exact .inl h0
  · have hlt : g < w.heap.size := by
      rcases Nat.lt_or_ge g w.heap.size with hlt | hge
      · exact hlt
      · rw [Array.getElem?_eq_none hge] at hh; cases hh
    exact .inr ⟨g, cap, cur, hv, hg, (hb.block g hlt).trans hh, hr⟩

/-- a slice of bytes of the call's own, as a text -/
theorem str_of_own {w : World} {base n : Nat} {v : Value} {l : List UInt8} (h : w.ownsRow base 5 1 v n (l.map byteV)) :
    (convert 28 9 v).run Try.prog w = .ok (.string ⟨l.toArray⟩) w := by
  rcases h.2 with ⟨rfl, h0⟩ | ⟨g, cap, cur, hv, hg, hh, hn, hc, hs, ht⟩
  · have hl : l = [] := by
      have := h.1
      rw [h0] at this
      simpa using this
    subst hl
    exact run_convert_bytes_nil w _ _ Try.underlying28 Try.underlying5 0 0 _ Try.underlying9
  · have hlen : l.length = n := by have := h.1; simpa using this
    have e : strOfNums (l.map fun b => (b.toNat : Int)) = ⟨l.toArray⟩ := by
      unfold strOfNums
      congr 2
      rw [List.map_map]
      conv => rhs; rw [← List.map_id l]
      apply List.map_congr_left
      intro b _
      simp
    rw [hv, ← e]
    refine run_convert_bytes_arg w _ _ Try.underlying28 Try.underlying5 g 0 n cap _ (by simp [hlen]) (fun i hi => ?_) _ Try.underlying9
    have hil : i < l.length := by omega
    have hu : (l.map byteV)[i]? = some (byteV l[i]) := by simp [List.getElem?_eq_getElem hil]
    have hc := h.cells (g := g) (by rw [hv]; rfl) i _ hu
    have hadd : (⟨g, 0, none⟩ : Addr).add i = ⟨g, i, none⟩ := by unfold Addr.add; split <;> simp_all
    rw [hadd] at hc
    rw [Nat.zero_add, hc]
    simp [byteV, hil]

theorem info_u8 : (Try.prog.info? 5).map (fun i => (i.zero, i.size, i.bytes)) = some (some (.int .u8 0), 1, 1) := by kernel_rfl

theorem rel_byte {wA wr w1 : World} {B : Nat} {v v' : Value} {l : List UInt8} {x : UInt8} {o : Obj} (hB : B ≤ wA.heap.size)
    (hbx : Below B wA wr) (hown : wr.ownsRow B 5 1 v l.length (l.map byteV))
    (hown' : w1.ownsRow B 5 1 v' (l.length + 1) (l.map byteV ++ [byteV x])) (hg : (wr.alloc o).grownBy w1 v.ownBlock) :
    w1.ownsRow B 5 1 v' (l ++ [x]).length ((l ++ [x]).map byteV) ∧ Below B wA w1 := by
  refine ⟨by simpa using hown', ?_⟩
  have hs := hbx.size
  exact (hbx.alloc (by omega) o).grown hg (by simp; omega) (fun k hk => (hown.lt k hk).1)

end Go.Proofs.Ytjdhidiocchkeaa
