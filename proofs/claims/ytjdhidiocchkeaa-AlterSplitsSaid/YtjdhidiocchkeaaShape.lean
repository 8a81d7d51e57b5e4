/-
  Contracts of package shape (couldBeSet, None, Loose, Unset, Of, Any, kept, Lit), over the translation: each returns what the plain functions of ShPlain say, and of the memory that was there nothing has turned.
-/
import Derived.Test.YtjdhidiocchkeaaShAt
import Derived.Test.YtjdhidiocchkeaaSetOf
import Derived.Test.YtjdhidiocchkeaaTail
import Derived.Lib.Bytealg
import Derived.StillTailTactics
namespace Go.Proofs.Ytjdhidiocchkeaa
open Go.RowKit

set_option maxHeartbeats 1000000 in
set_option maxRecDepth 100000 in
theorem could_is (x : Sh) (w : World) : Calls Try.prog 71 #[shV x] w (Gives w (.bool (couldB x))) := by
  obtain ⟨u, e, h, k, l⟩ := x
  have hE := run_eq_set h noS
  rw [setV_no] at hE
  unfold setV at hE
  simp only [shV, couldB]
  cases k with
  | true =>
    go_enter Try.func71, Try.ntmps71
    go_wp2
    go_ret
    exact ⟨rfl, bel_alloc (Below.refl _ _) _⟩
  | false =>
    cases e with
    | true =>
      go_enter Try.func71, Try.ntmps71
      go_wp2
      go_ret
      exact ⟨rfl, bel_alloc (Below.refl _ _) _⟩
    | false =>
      generalize sameS h noS = z at *
      go_enter Try.func71, Try.ntmps71
      go_wp2
      go_ret
      exact ⟨rfl, bel_alloc (Below.refl _ _) _⟩

set_option maxHeartbeats 1000000 in
set_option maxRecDepth 100000 in
theorem None_is (x : Sh) (w : World) : Calls Try.prog 49 #[shV x] w (Gives w (.bool (noneB x))) := by
  have hC := Lib.hid (could_is x)
  obtain ⟨u, e, h, k, l⟩ := x
  unfold noneB
  generalize couldB ⟨u, e, h, k, l⟩ = z at *
  simp only [shV] at hC ⊢
  cases u with
  | true =>
    go_enter Try.func49, Try.ntmps49
    go_wp2
    go_ret
    exact ⟨rfl, bel_alloc (Below.refl _ _) _⟩
  | false =>
    go_enter Try.func49, Try.ntmps49
    go_wp2_with fail
    refine (hC.out _).mono ?_
    rintro e w' ⟨rfl, hb⟩
    go_wp2
    go_ret
    exact ⟨rfl, bel_step (bel_alloc (Below.refl _ _) _) hb⟩

theorem nz_less (p : Nat → Bool) (c : Nat) : lessS p (ofS [0]) c = nz p c := by
  unfold lessS nz ofS
  simp [eq_comm]

set_option maxHeartbeats 1000000 in
set_option maxRecDepth 100000 in
theorem OfSh_is (p : Nat → Bool) (e : Bool) (w : World) : Calls Try.prog 36 #[setV p, .bool e] w (Gives w (shV (ofSh p e))) := by
  have hO := Lib.hid (Of_is ⟨#[0]⟩ (by decide))
  have hL := Lib.hid (Less_is p (ofS [0]))
  rw [setV_congr (fun c _ => nz_less p c)] at hL
  simp only [setV] at hO hL ⊢
  obtain ⟨wA, hwA⟩ : ∃ wA, (w.alloc (.cells #[.int .u64 (wd p 0 : Nat), .int .u64 (wd p 1 : Nat), .int .u64 (wd p 2 : Nat), .int .u64 (wd p 3 : Nat)] 24)).alloc (.cells #[.bool false, .bool false, .int .u64 0, .int .u64 0, .int .u64 0, .int .u64 0, .bool false, .string ⟨#[]⟩] 26) = wA := ⟨_, rfl⟩
  have hbA : Below w.heap.size w wA := hwA ▸ bel_alloc (bel_alloc (Below.refl _ _) _) _
  have hp : SetAt wA w.heap.size p := hwA ▸ (SetAt.new _ p).alloc _
  have hz : ShAt wA (w.heap.size + 1) zeroSh := by
    have h1 := ShAt.zero (w.alloc (.cells #[.int .u64 (wd p 0 : Nat), .int .u64 (wd p 1 : Nat), .int .u64 (wd p 2 : Nat), .int .u64 (wd p 3 : Nat)] 24))
    simp at h1
    rw [← hwA]
    exact h1
  go_enter Try.func36, Try.ntmps36
  go_wp2
  clear hwA
  refine region_tail 5 (by kernel_rfl) (by kernel_rfl) ?_
  simp only [List.take_succ_cons, List.take_zero, List.drop_succ_cons, List.drop_zero]
  obtain ⟨L0, L1, L2, L3⟩ := hp.laters
  repeat (go_big_quiet_step (fail))
  go_big_quiet_step (exact later (hO.out _))
  repeat (go_big_quiet_step (fail))
  go_big_quiet_step (exact later (hL.out _))
  repeat (go_big_quiet_step (fail))
  refine wpQuiet_nil ?_
  rintro _ ⟨x, rfl⟩
  have hx := hz.after x.below
  obtain ⟨d0, d1, d2, d3, d4, d5, d6, d7⟩ := hx.cells
  obtain ⟨g0, g1, g2, g3, g4, g5, g6, g7⟩ := hx.frozens
  go_wp2
  refine bodyPost_ret (v := shV (ofSh p e)) ?_ rfl ⟨rfl, bel_putSh (bel_step hbA x.below) (by omega) (ofSh p e)⟩
  exact results_cell_row rfl _ _ _ _ _ _ _ rfl (hx.put (ofSh p e)) Try.underlying26 rfl (by kernel_rfl)
end Go.Proofs.Ytjdhidiocchkeaa
