/-
  Contracts of package pat's turn and turned.
-/
import Derived.Test.YtmpneifjjnfckaaPmRevS
import Derived.Laws.IdiomStrings
namespace Go.Proofs.Ytmpneifjjnfckaa
open Go.RowKit

/-- block g holds these bytes, and they may be written -/
def BytesAt (w : World) (g : Nat) (bs : List UInt8) : Prop := ∀ k (hk : k < bs.length), w.cell? ⟨g, k, none⟩ = some (.int .u8 (bs[k].toNat : Int)) ∧ w.frozen? ⟨g, k, none⟩ = false
theorem BytesAt.set {w : World} {g : Nat} {bs : List UInt8} (h : BytesAt w g bs) (i : Nat) (hi : i < bs.length) (b : UInt8) : BytesAt (w.setCell ⟨g, i, none⟩ (.int .u8 (b.toNat : Int))) g (bs.set i b) := by
  intro k hk
  have hk' : k < bs.length := by simpa using hk
  refine ⟨?_, by rw [World.frozen?_setCell]; exact (h k hk').2⟩
  rw [List.getElem_set]
  by_cases hik : i = k
  · subst hik
    rw [if_pos rfl]
    exact World.cell?_setCell_same w _ _ (h i hi).1
  · rw [if_neg hik, World.cell?_setCell_other w _ _ _ (fun e => hik (congrArg Addr.off e))]
    exact (h k hk').1
theorem grow_set (w : World) (g i : Nat) (u : Value) : w.grownBy (w.setCell ⟨g, i, none⟩ u) (some g) := ⟨rfl, rfl, rfl, by simp, fun k _ hk => Below.heap_setCell w ⟨g, i, none⟩ u k (fun e => hk (congrArg some e))⟩
theorem BytesAt.drew {w : World} {g : Nat} {bs : List UInt8} (h : BytesAt w g bs) : BytesAt w.drew g bs := h

set_option maxHeartbeats 16000000 in
set_option maxRecDepth 100000 in
theorem revText_is (g cap : Nat) (bs : List UInt8) (hgs : bs.length ≤ 1048577) (w : World) (h : BytesAt w g bs) :
    Calls Try.prog 38 #[.slice (some ⟨g, 0, none⟩) bs.length cap] w (fun ending w' => (∃ u, ending = .returned u) ∧ BytesAt w' g bs.reverse ∧ w.grownBy w' (some g)) := by
  go_enter Try.func38, Try.ntmps38
  go_wp2
  go_loopw [2, 3] (fun x y wr => ∃ (i : Nat) (es : List UInt8), i ≤ bs.length ∧ x = .int .i64 (i : Int) ∧ y = .int .i64 ((bs.length : Int) - 1 - (i : Int)) ∧ BytesAt wr g es ∧ w.grownBy wr (some g) ∧ Hid (RevTo bs i es)) (fun x _ _ => bs.length + 1 - (intOf x).toNat)
  case atStart => exact ⟨0, bs, Nat.zero_le _, rfl, by simp, h, World.grownBy.refl _ _, Lib.hid (RevTo.zero bs)⟩
  case round =>
    clear h
    obtain ⟨i, es, hi, rfl, rfl, hO, hg, HR⟩ := hrel
    by_cases hlt : (i : Int) < (bs.length : Int) - 1 - (i : Int)
    · obtain ⟨j, hj⟩ : ∃ j, bs.length - 1 - i = j := ⟨_, rfl⟩
      have ej : (bs.length : Int) - 1 - (i : Int) = (j : Int) := by omega
      rw [ej] at hlt
      rw [ej]
      have hij : i < j := by omega
      have hjl : j < bs.length := by omega
      have hil : i < bs.length := by omega
      have hes := HR.out.1
      have hje : j < es.length := by omega
      have hie : i < es.length := by omega
      have HR2 : Hid (RevTo bs (i + 1) ((es.set i es[j]).set j es[i])) := Lib.hid (HR.out.step hj hij hie hje)
      have HN : Hid ((j : Int) - 1 = (bs.length : Int) - 1 - ((i + 1 : Nat) : Int)) := Lib.hid (by omega)
      have hjI : (j : Int) < (bs.length : Int) := by omega
      have hiI : (i : Int) < (bs.length : Int) := by omega
      obtain ⟨ci, fi⟩ := hO i hie
      obtain ⟨cj, fj⟩ := hO j hje
      clear ej hes
      have hO2 := ((hO.set i hie es[j]).set j (by simpa using hje) es[i]).drew
      generalize es[i] = bi at *
      generalize es[j] = bj at *
      have hg2 : w.grownBy ((wr.setCell ⟨g, i, none⟩ (.int .u8 (bj.toNat : Int))).setCell ⟨g, j, none⟩ (.int .u8 (bi.toNat : Int))).drew (some g) := grow_drew (grow2 (grow2 hg (grow_set _ _ _ _)) (grow_set _ _ _ _))
      have HO := Lib.hid (And.intro hO2 hg2)
      clear hO2 hg2 hO hg
      go_wp2
      go_region
      go_wp2
      go_roundw
      case rel => exact ⟨i + 1, _, by omega, by go_num, by rw [← HN.out], HO.out.1, HO.out.2, HR2⟩
      case measure => simp [intOf]; omega
    · have HE : Hid (es = bs.reverse) := Lib.hid (HR.out.done (by omega))
      have hld : decide ((i : Int) < (bs.length : Int) - 1 - (i : Int)) = false := decide_eq_false hlt
      go_wp2
      refine bodyPost_end (results_none rfl _ _ _) rfl ?_
      exact ⟨⟨_, rfl⟩, by rw [← HE.out]; exact hO, hg⟩

set_option maxHeartbeats 4000000 in
set_option maxRecDepth 100000 in
theorem turned_is (s : ByteArray) (hs : s.size ≤ 1048576) (w : World) : Calls Try.prog 30 #[.string s] w (Gives w (.string ⟨s.data.toList.reverse.toArray⟩)) := by
  have hcv := run_bytes_of_string (P := Try.prog) w 9 35 5 s Try.underlying9 Try.underlying35 Try.underlying5
  obtain ⟨cap, hcap⟩ : ∃ cap, grownCap w s.size 0 5 = cap := ⟨_, rfl⟩
  rw [hcap] at hcv
  obtain ⟨w1, hw1⟩ : ∃ w1, w.drew.alloc (.cells (bytesRow s cap) 5 ((bytesRow s cap).size, (bytesRow s cap).size + 1)) = w1 := ⟨_, rfl⟩
  have hb1 : Below w.heap.size w w1 := by rw [← hw1]; exact bel_alloc (bel_drew (Below.refl _ _)) _
  have hBy : BytesAt w1 w.heap.size s.data.toList := by
    have hh : w1.heap[w.heap.size]? = some (.cells (bytesRow s cap) 5 ((bytesRow s cap).size, (bytesRow s cap).size + 1)) := by rw [← hw1]; exact heap_alloc_new w.drew _
    intro k hk
    have hk2 : k < s.data.size := by simpa using hk
    have hrow : (bytesRow s cap)[k]? = some (.int .u8 (s.data.toList[k].toNat : Int)) := by
      unfold bytesRow
      rw [Array.getElem?_append_left (by simpa using hk2), Array.getElem?_map, Array.getElem?_eq_getElem hk2]
      rfl
    have hsz : k < (bytesRow s cap).size := (Array.getElem?_eq_some_iff.1 hrow).1
    constructor
    · simp [World.cell?, hh, hrow]
    · simp [World.frozen?, hh]; omega
  rw [hw1] at hcv
  have hlen : s.data.toList.length = s.size := len_list s
  have HR := Lib.hid (revText_is w.heap.size cap s.data.toList (by rw [hlen]; omega) w1 hBy)
  rw [hlen] at HR
  have HB1 := Lib.hid hb1
  clear hw1 hBy hb1 hcap
  go_enter Try.func30, Try.ntmps30
  go_wp2_with fail
  refine HR.out.mono ?_
  rintro ending w2 ⟨⟨u, rfl⟩, hBy2, hg2⟩
  have hb2 : Below w.heap.size w w2 := HB1.out.trans ⟨hg2.os, hg2.tape, hg2.output, hg2.size, fun k hk => hg2.block k (by have := HB1.out.size; omega) (fun e => by injection e with e; omega)⟩
  have hbk := run_convert_bytes_back (P := Try.prog) w2 35 9 5 ⟨w.heap.size, 0, none⟩ cap s.data.toList.reverse Try.underlying35 Try.underlying5 Try.underlying9 (fun j hj => by
    have hadd : (⟨w.heap.size, 0, none⟩ : Addr).add j = ⟨w.heap.size, j, none⟩ := by unfold Addr.add; split <;> simp_all
    rw [hadd]
    exact (hBy2 j hj).1)
  rw [List.length_reverse, hlen] at hbk
  have HB2 := Lib.hid hb2
  clear hBy2 hg2 hb2 HR HB1 hcv
  generalize (⟨s.data.toList.reverse.toArray⟩ : ByteArray) = R at *
  go_wp2
  go_ret
  exact ⟨rfl, HB2.out⟩

set_option maxHeartbeats 2000000 in
set_option maxRecDepth 100000 in
theorem revNil_is (w : World) : Calls Try.prog 36 #[.slice none 0 0] w (fun ending w' => (∃ u, ending = .returned u) ∧ w' = w) := by
  go_enter Try.func36, Try.ntmps36
  go_wp2
  apply wp_loop_rounds 1
  rw [rounds_succ]
  go_wp2
  refine bodyPost_end (results_none rfl _ _ _) rfl ?_
  exact ⟨⟨_, rfl⟩, rfl⟩

theorem revPlan_is (b0 : Nat) (T : Value) (fs : List (Nat → Bool)) (hfl : fs.length ≤ 1048577) (w : World) (h : w.ownsRow b0 57 4 T fs.length (rowS fs)) :
    Calls Try.prog 36 #[T] w (RevLeft w b0 57 4 T fs.length (rowS fs.reverse)) := by
  rcases h.2 with ⟨rfl, h0⟩ | ⟨g, cap, cur, rfl, _⟩
  · have hn : fs = [] := List.eq_nil_of_length_eq_zero h0
    subst hn
    refine (revNil_is w).mono ?_
    rintro e w' ⟨hu, rfl⟩
    exact ⟨hu, h, World.grownBy.refl _ _⟩
  · exact revSets_is b0 g cap fs hfl w h

set_option maxHeartbeats 4000000 in
set_option maxRecDepth 100000 in
theorem turn_is (b0 : Nat) (aT : Option Addr) (cT gG cG : Nat) (gs : List Bool) (fs : List (Nat → Bool)) (hgl : gs.length = fs.length + 1) (hfl : fs.length ≤ 1048576) (w : World) (hb0 : b0 ≤ w.heap.size) (hP : PlanAt w b0 (.slice aT fs.length cT) (.slice (some ⟨gG, 0, none⟩) gs.length cG) gs fs) :
    Calls Try.prog 29 #[planV (.slice aT fs.length cT) (.slice (some ⟨gG, 0, none⟩) gs.length cG)] w (fun ending w' => (∃ u, ending = .returned u) ∧ PlanAt w' b0 (.slice aT fs.length cT) (.slice (some ⟨gG, 0, none⟩) gs.length cG) gs.reverse fs.reverse ∧ Below b0 w w' ∧ ∀ (b : Nat) (cs : Array Value) (ty : TypeId), BlkAt w b cs ty → some b ≠ (Value.slice aT fs.length cT).ownBlock → b ≠ gG → BlkAt w' b cs ty) := by
  have hM := BlkAt.new w #[.slice aT fs.length cT, .slice (some ⟨gG, 0, none⟩) gs.length cG] 42
  have hb : Below b0 w (w.alloc (.cells #[.slice aT fs.length cT, .slice (some ⟨gG, 0, none⟩) gs.length cG] 42)) := (Below.refl b0 w).alloc hb0 _
  have hT := hP.1.alloc (.cells #[.slice aT fs.length cT, .slice (some ⟨gG, 0, none⟩) gs.length cG] 42)
  have hG := hP.2.alloc (.cells #[.slice aT fs.length cT, .slice (some ⟨gG, 0, none⟩) gs.length cG] 42)
  have hTl := hP.1.lt
  have hGl := hP.2.lt
  obtain ⟨w1, hw1⟩ : ∃ w1, w.alloc (.cells #[.slice aT fs.length cT, .slice (some ⟨gG, 0, none⟩) gs.length cG] 42) = w1 := ⟨_, rfl⟩
  rw [hw1] at hM hb hT hG
  have hK1 : ∀ (b : Nat) (cs : Array Value) (ty : TypeId), BlkAt w b cs ty → BlkAt w1 b cs ty := fun b cs ty h => by rw [← hw1]; exact h.alloc _
  have HW := Lib.hid hw1
  have HS := Lib.hid (revPlan_is b0 (.slice aT fs.length cT) fs (by omega) w1 hT)
  have HGL := Lib.hid hgl
  have hgm : gs.length ≤ 1048577 := by omega
  clear hw1 hP hgl
  have m0 := hM.cell 0 (v := .slice aT fs.length cT) rfl
  unfold planV
  go_enter Try.func29, Try.ntmps29
  go_upto_region 1 with fail
  rw [HW.out]
  go_wp2_with fail
  refine HS.out.mono ?_
  rintro ending w2 ⟨⟨u, rfl⟩, hT2, hg2⟩
  have hM2 := hM.grown hg2 (fun e => by have := (hTl _ e.symm).2; omega)
  have hG2 := hG.kept hg2 (own_ne hG hT (by decide))
  have hz1 : w.heap.size ≤ w1.heap.size := hb.size
  have hb2 : Below b0 w w2 := hb.grown hg2 (by omega) (fun k hk => (hTl k hk).1)
  have m1 := hM2.cell 1 (v := .slice (some ⟨gG, 0, none⟩) gs.length cG) rfl
  have HB := Lib.hid (revBools_is b0 gG cG gs hgm w2 hG2)
  clear hM hM2 hG hT hb m0 HS HW
  go_wp2_with fail
  refine HB.out.mono ?_
  rintro ending w3 ⟨⟨u2, rfl⟩, hG3, hg3⟩
  have hT3 := hT2.kept hg3 (own_ne hT2 hG2 (by decide))
  have hb3 : Below b0 w w3 := hb2.grown hg3 (by have := hb2.size; omega) (fun k hk => (hGl k hk).1)
  have hK3 : ∀ (b : Nat) (cs : Array Value) (ty : TypeId), BlkAt w b cs ty → some b ≠ (Value.slice aT fs.length cT).ownBlock → b ≠ gG → BlkAt w3 b cs ty := fun b cs ty h h1 h2 => ((hK1 b cs ty h).grown hg2 h1).grown hg3 (fun e => h2 (by injection e))
  have HH := Lib.hid (And.intro hT3 (And.intro hG3 (And.intro hb3 hK3)))
  clear hT2 hG2 hT3 hG3 hb2 hb3 hg3 m1 HB hK3 hK1 hg2
  go_wp2
  refine bodyPost_end (results_none rfl _ _ _) rfl ?_
  exact ⟨⟨_, rfl⟩, ⟨by rw [List.length_reverse]; exact HH.out.1, by rw [List.length_reverse]; exact HH.out.2.1⟩, HH.out.2.2.1, HH.out.2.2.2⟩
end Go.Proofs.Ytmpneifjjnfckaa
