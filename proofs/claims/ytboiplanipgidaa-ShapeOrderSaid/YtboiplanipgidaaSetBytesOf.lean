/-
  The contract of set.Bytes: the set's bytes, rising.
-/
import Derived.Test.YtboiplanipgidaaSetAt
import Derived.Laws.BytesArg
import Derived.OwnWalk
namespace Go.Proofs.Ytboiplanipgidaa
open Go.RowKit

def byteV (b : UInt8) : Value := .int .u8 (b.toNat : Int)

theorem own_after {w w1 : World} {base : Nat} {e : TypeId} {size : Nat} {v : Value} {n : Nat} {xs : List Value} (h : w.ownsRow base e size v n xs) (hb : Below w.heap.size w w1) : w1.ownsRow base e size v n xs := by
  refine ⟨h.1, ?_⟩
  rcases h.2 with h0 | ⟨g, cap, cur, hv, hg, hh, hr⟩
  · exact .inl h0
  · have hlt : g < w.heap.size := by
      rcases Nat.lt_or_ge g w.heap.size with hlt | hge
      · exact hlt
      · rw [Array.getElem?_eq_none hge] at hh; cases hh
    exact .inr ⟨g, cap, cur, hv, hg, (hb.block g hlt).trans hh, hr⟩

/-- a slice of bytes of the call's own, as a text -/
theorem str_of_own {w : World} {base n : Nat} {v : Value} {l : List UInt8} (h : w.ownsRow base 5 1 v n (l.map byteV)) :
    (convert 54 9 v).run Try.prog w = .ok (.string ⟨l.toArray⟩) w := by
  rcases h.2 with ⟨rfl, h0⟩ | ⟨g, cap, cur, hv, hg, hh, hn, hc, hs, ht⟩
  · have hl : l = [] := by
      have := h.1
      rw [h0] at this
      simpa using this
    subst hl
    exact run_convert_bytes_nil w _ _ Try.underlying54 Try.underlying5 0 0 _ Try.underlying9
  · have hlen : l.length = n := by have := h.1; simpa using this
    have e : strOfNums (l.map fun b => (b.toNat : Int)) = ⟨l.toArray⟩ := by
      unfold strOfNums
      congr 2
      rw [List.map_map]
      conv => rhs; rw [← List.map_id l]
      apply List.map_congr_left
      intro b _
      simp
    rw [hv, ← e]
    refine run_convert_bytes_arg w _ _ Try.underlying54 Try.underlying5 g 0 n cap _ (by simp [hlen]) (fun i hi => ?_) _ Try.underlying9
    have hil : i < l.length := by omega
    have hu : (l.map byteV)[i]? = some (byteV l[i]) := by simp [List.getElem?_eq_getElem hil]
    have hc := h.cells (g := g) (by rw [hv]; rfl) i _ hu
    have hadd : (⟨g, 0, none⟩ : Addr).add i = ⟨g, i, none⟩ := by unfold Addr.add; split <;> simp_all
    rw [hadd] at hc
    rw [Nat.zero_add, hc]
    simp [byteV, hil]

theorem info_u8 : (Try.prog.info? 5).map (fun i => (i.zero, i.size, i.bytes)) = some (some (.int .u8 0), 1, 1) := by kernel_rfl

theorem rel_byte {wA wr w1 : World} {B : Nat} {v v' : Value} {l : List UInt8} {x : UInt8} {o : Obj} (hB : B ≤ wA.heap.size)
    (hbx : Below B wA wr) (hown : wr.ownsRow B 5 1 v l.length (l.map byteV))
    (hown' : w1.ownsRow B 5 1 v' (l.length + 1) (l.map byteV ++ [byteV x])) (hg : (wr.alloc o).grownBy w1 v.ownBlock) :
    w1.ownsRow B 5 1 v' (l ++ [x]).length ((l ++ [x]).map byteV) ∧ Below B wA w1 := by
  refine ⟨by simpa using hown', ?_⟩
  have hs := hbx.size
  exact (hbx.alloc (by omega) o).grown hg (by simp; omega) (fun k hk => (hown.lt k hk).1)

set_option maxHeartbeats 4000000 in
set_option maxRecDepth 100000 in
theorem Bytes_is (p : Nat → Bool) (w : World) :
    Calls Try.prog 30 #[setV p] w (Gives w (.string ⟨(bytesS p).toArray⟩)) := by
  obtain ⟨i0, hi, hz0, hz1, hz2⟩ := info_parts info_u8
  have HC := Lib.hid (Count_is p)
  have hcl := cntS_le p
  have HA := Lib.hid (SetAt.new w p)
  have HB := Lib.hid (bytesS_len p)
  unfold setV at HC ⊢
  obtain ⟨wA, hwA⟩ : ∃ wA, w.alloc (.cells #[.int .u64 (wd p 0 : Nat), .int .u64 (wd p 1 : Nat), .int .u64 (wd p 2 : Nat), .int .u64 (wd p 3 : Nat)] 24) = wA := ⟨_, rfl⟩
  have hbA : Hid (Below w.heap.size w wA) := Lib.hid (hwA ▸ bel_alloc (Below.refl _ _) _)
  rw [hwA] at HA
  obtain ⟨a0, a1, a2, a3⟩ := HA.out.cells
  go_enter Try.func30, Try.ntmps30
  go_wp2_with fail
  refine (HC.out _).mono ?_
  rintro e w1 ⟨rfl, hb1⟩
  have hb1s := hb1.size
  clear hwA
  go_wp2_with (at_make; refine wpList_make_own _ rfl _ _ 54 rfl wA.heap.size 5 i0 (.int .u8 0) 1 Try.underlying54 hi hz0 hz1 .i64 .i64 _ (cntS p) rfl rfl rfl ?c1 ?c2 ?c3 ?_)
  case c1 => rw [hz2]; omega
  case c2 => unfold maxLen; omega
  case c3 => omega
  intro w2 hown hg
  have hb2 : Below wA.heap.size wA w2 := hb1.grown hg (by omega) (by simp)
  clear a0 a1 a2 a3 hb1 hg hb1s
  go_wp2
  go_loopw [3, 4] (fun v i wr => ∃ k : Nat, k ≤ 256 ∧ i = .int .i64 k ∧ wr.ownsRow wA.heap.size 5 1 v (bytesUpto p k).length ((bytesUpto p k).map byteV) ∧ Below wA.heap.size wA wr) (fun _ i _ => 256 - (intOf i).toNat)
  case atStart => exact ⟨0, by omega, rfl, by simpa [bytesUpto] using hown, hb2⟩
  case round =>
    clear hown hb2
    obtain ⟨k, hk, rfl, hown, hb⟩ := hrel
    have hbs := hb.size
    have hp := HA.out.after hb
    obtain ⟨c0, c1, c2, c3⟩ := hp.cells
    by_cases hk2 : k < 256
    · have hk3 : (k : Int) ≤ 255 := by omega
      have hH := Has_is p k hk2
      have HL := Lib.hid (bytesUpto_succ p k)
      have hlen := bytesUpto_le p k
      unfold setV at hH
      have HH := Lib.hid hH
      clear hH
      go_wp2_with fail
      refine (HH.out _).mono ?_
      rintro e w3 ⟨rfl, hb3⟩
      have hown3 := own_after hown hb3
      have hb4 := hb.trans (hb3.mono hbs)
      have hb4s := hb4.size
      cases hpk : p k with
      | true =>
        rw [hpk] at HL
        go_wp2_with (at_builtin; refine wpList_append_own _ rfl _ _ 54 rfl wA.heap.size 5 i0 (.int .u8 0) 1 1 Try.underlying54 hi hz0 hz1 hz2 rfl (by decide) _ _ _ rfl (hown3.alloc _) ⟨w3.heap.size, 0, none⟩ 1 1 [.int .u8 (k : Int)] rfl rfl ?c1 ?c2 ?c3 ?c4 ?c5 ?_)
        case c1 =>
          intro j u hj
          match j, hj with
          | 0, hj => simp at hj; subst hj; simp [Addr.add]
        case c2 => intro u hu; simp at hu; subst hu; rfl
        case c3 => unfold maxLen; omega
        case c4 => omega
        case c5 => simp; omega
        intro v' w5 hown' hgrow _
        have hx : byteV (UInt8.ofNat k) = .int .u8 (k : Int) := by unfold byteV; rw [UInt8.toNat_ofNat', Nat.mod_eq_of_lt hk2]
        rw [← hx] at hown'
        have R := rel_byte (x := UInt8.ofNat k) (Nat.le_refl _) hb4 hown3 hown' hgrow
        clear hown' hgrow hown hown3 hb hb3 hb4 hx
        go_wp2
        go_roundw
        case rel => exact ⟨k + 1, by omega, by go_num, by rw [HL.out, if_pos trivial]; exact R.1, R.2⟩
        case measure => simp [intOf]; omega
      | false =>
        rw [hpk] at HL
        clear hown hb hb3
        go_wp2
        go_roundw
        case rel => exact ⟨k + 1, by omega, by go_num, by rw [HL.out, if_neg (by decide), List.append_nil]; exact hown3, hb4⟩
        case measure => simp [intOf]; omega
    · obtain rfl : k = 256 := by omega
      have hc := str_of_own hown
      go_wp2
      go_ret
      exact ⟨rfl, bel_step hbA.out hb⟩
end Go.Proofs.Ytboiplanipgidaa
