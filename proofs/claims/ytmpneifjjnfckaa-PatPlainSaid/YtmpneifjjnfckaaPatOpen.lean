/-
  A pattern among the arguments: opened to its text and its live bytes.
-/
import Derived.Test.YtmpneifjjnfckaaRefPat
import Derived.Deep.Fields
import Derived.Deep.Slices
import Derived.OpenShut
import Derived.ProofKit
namespace Go.Proofs.Ytmpneifjjnfckaa
open Go.ChangeShapes Go.WideShapes Go.ChangeAt Go.RowKit

theorem cells_pat : Try.prog.cellsOf 25 = 2 := by kernel_rfl
theorem cells_str1 : Try.prog.cellsOf 9 = 1 := by kernel_rfl
theorem cells_bool1 : Try.prog.cellsOf 4 = 1 := by kernel_rfl
theorem cells_bools : Try.prog.cellsOf 23 = 1 := by kernel_rfl

theorem spot_none {w : World} {a : Addr} {x : Value} (h : w.cell? a = some x) : a.spot = none := by
  unfold World.cell? at h
  split at h
  · split at h
    · cases h
    · rename_i h2
      cases hs : a.spot with
      | none => rfl
      | some s => rw [hs] at h2; exact absurd rfl h2
  · cases h

theorem open_pat {H : Type} {enc : TypeId × Value → H} {w : World} {r : Reach} {b0 : Nat} {v : Value} {d : DataW H} {p : List MemPlace} (hv : Value.okWide Try.prog w r b0 25 v)
    (h : DataW.Trod enc Try.prog w 0 (fun _ => true) true 25 v d p) : ∃ t L u, v = patV t L ∧ t.size ≤ maxLen ∧ LiveAt w L u := by
  obtain ⟨cs, rfl, hsz⟩ := okWide_struct Try.underlying25 hv
  obtain ⟨fuel, hf⟩ := h
  obtain ⟨l⟩ := cs
  have hl : l.length = 2 := by rw [cells_pat] at hsz; exact hsz
  match l, hl with
  | [c0, c1], _ =>
    obtain ⟨xs, n, _, hx, _, hlen, hg⟩ := DataW.trod_struct Try.underlying25 hf
    match xs, hlen with
    | [y0, y1], _ =>
      have g0 : DataW.trod enc Try.prog w 0 (fun _ => true) true n 9 ((List.drop 0 [c0, c1]).take (Try.prog.cellsOf 9)) = some y0 := hg 0 _ rfl
      rw [cells_str1] at g0
      replace g0 : DataW.trod enc Try.prog w 0 (fun _ => true) true n 9 [c0] = some y0 := g0
      have g1 : DataW.trod enc Try.prog w 0 (fun _ => true) true n 23 ((List.drop 1 [c0, c1]).take (Try.prog.cellsOf 23)) = some y1 := hg 1 _ rfl
      rw [cells_bools] at g1
      replace g1 : DataW.trod enc Try.prog w 0 (fun _ => true) true n 23 [c1] = some y1 := g1
      obtain ⟨t, e0, rfl, hs⟩ := DataW.trod_string Try.underlying9 g0
      simp only [List.cons.injEq, and_true] at e0
      subst e0
      rcases Go.Deep.open_slice1 Try.underlying23 cells_bool1 g1 with ⟨hcs, _⟩ | ⟨a, len, cap, m, n', V, D, Pl, hcs, _, hl, hcap, hm, _, hcell⟩
      · simp only [List.cons.injEq, and_true] at hcs
        subst hcs
        exact ⟨t, .slice none 0 0, [], rfl, hs, none, 0, rfl, Nat.zero_le _, fun j x hj => (by cases hj)⟩
      · simp only [List.cons.injEq, and_true] at hcs
        subst hcs
        simp only [if_true] at hm
        have hone : ∀ i, ∃ x : Bool, i < len → w.cell? (a.add i) = some (.bool x) := fun i => by
          by_cases hi : i < len
          · obtain ⟨h1, h2⟩ := hcell i (by omega)
            obtain ⟨x, hx1, _⟩ := DataW.trod_bool Try.underlying4 h2
            simp only [List.cons.injEq, and_true] at hx1
            exact ⟨x, fun _ => by rw [h1, hx1]⟩
          · exact ⟨false, fun h => absurd h hi⟩
        refine ⟨t, _, (List.range len).map (fun i => Classical.choose (hone i)), rfl, hs, some a, cap, by simp, by simp; omega, fun j x hj => ?_⟩
        rw [List.getElem?_map] at hj
        by_cases hjl : j < len
        · rw [List.getElem?_range hjl] at hj
          injection hj with hj
          have hc := Classical.choose_spec (hone j) hjl
          obtain ⟨x0, hx0⟩ := hone 0
          have h0 := hx0 (by omega)
          have hsp : a.spot = none := spot_none (a := a) (by rw [show a.add 0 = a from by unfold Addr.add; rw [if_pos rfl]] at h0; exact h0)
          obtain ⟨b, o, sp⟩ := a
          simp only at hsp
          subst hsp
          refine ⟨b, o, rfl, ?_⟩
          rw [← hj]
          refine Eq.trans ?_ hc
          congr 1
          unfold Addr.add
          by_cases hz : j = 0
          · subst hz; rfl
          · rw [if_neg hz]
        · rw [List.getElem?_eq_none (by simp; omega)] at hj
          cases hj
end Go.Proofs.Ytmpneifjjnfckaa
