/-
  The contract of conchlaw4.awake.
-/
import Derived.Test.YtboiplanipgidaaTame
import Derived.Test.YtboiplanipgidaaShLaws
namespace Go.Proofs.Ytboiplanipgidaa
open Go.RowKit

theorem emp_cons (b : UInt8) (l : List UInt8) : empB ⟨(b :: l).toArray⟩ = false := bfalse fun h => by
  have := (empB_list _).1 h
  simp at this
theorem emp_nil : empB ⟨#[]⟩ = true := (empB_iff _).2 rfl

theorem lit_a : litSh ⟨#[97]⟩ = ⟨false, false, ofS [97], true, ⟨#[97]⟩⟩ := by
  rw [litSh_k _ (by decide), emp_cons 97 []]
theorem lit_b : litSh ⟨#[98]⟩ = ⟨false, false, ofS [98], true, ⟨#[98]⟩⟩ := by
  rw [litSh_k _ (by decide), emp_cons 98 []]
theorem join_ab : joinP ⟨false, false, ofS [97], true, ⟨#[97]⟩⟩ ⟨false, false, ofS [98], true, ⟨#[98]⟩⟩ = ⟨false, false, orS (ofS [97]) (ofS [98]), false, ⟨#[]⟩⟩ := by
  have h : eqB ⟨#[97]⟩ ⟨#[98]⟩ = false := bfalse fun h => by
    have := congrArg (fun s => s.data.toList) ((eqB_iff _ _).1 h)
    simp at this
  simp only [joinP, joinSetP, noneB, couldB, h]
  rfl
theorem or_ab (c : Nat) : orS (ofS [97]) (ofS [98]) c = ofS [97, 98] c := by
  unfold orS ofS
  simp
theorem may_ab : mayB ⟨false, false, orS (ofS [97]) (ofS [98]), false, ⟨#[]⟩⟩ true ⟨#[97, 98]⟩ = true := by
  simp only [mayB, emp_cons 97 [98]]
  exact (subS_iff _ _).2 fun c _ h => by rw [or_ab]; exact h
theorem may_a : mayB ⟨false, false, orS (ofS [97]) (ofS [98]), false, ⟨#[]⟩⟩ true ⟨#[97]⟩ = true := by
  simp only [mayB, emp_cons 97 []]
  exact (subS_iff _ _).2 fun c _ h => by
    unfold orS
    rw [h]; rfl
theorem may_no : mayB ⟨false, false, orS (ofS [97]) (ofS [98]), false, ⟨#[]⟩⟩ true ⟨#[]⟩ = false := by
  simp only [mayB, emp_nil]
  rfl
theorem none_ab : noneB ⟨false, false, orS (ofS [97]) (ofS [98]), false, ⟨#[]⟩⟩ = false := by
  have h : sameS (orS (ofS [97]) (ofS [98])) noS = false := bfalse fun h => by
    have := (noS_iff _).1 h 97 (by decide)
    revert this
    decide
  simp only [noneB, couldB, h]
  rfl
theorem none_zero : noneB zeroSh = true := by
  have h : sameS noS noS = true := sameS_of fun _ _ => rfl
  simp only [noneB, couldB, zeroSh, h]
  rfl
theorem leq_ab : leqP ⟨false, false, ofS [97], true, ⟨#[97]⟩⟩ ⟨false, false, orS (ofS [97]) (ofS [98]), false, ⟨#[]⟩⟩ = true := by
  unfold leqP
  exact may_a

set_option maxHeartbeats 4000000 in
set_option maxRecDepth 100000 in
theorem awake_is (w : World) : Calls Try.prog 8 #[] w (Gives w (.bool true)) := by
  have hLa := Lit_is ⟨#[97]⟩ (by decide)
  have hLb := Lit_is ⟨#[98]⟩ (by decide)
  have hJ := Join_is ⟨false, false, ofS [97], true, ⟨#[97]⟩⟩ ⟨false, false, ofS [98], true, ⟨#[98]⟩⟩
  have hO := Of_is ⟨#[97, 98]⟩ (by decide)
  have hE := run_eq_set (orS (ofS [97]) (ofS [98])) (ofS [97, 98])
  have hM1 := May_is ⟨false, false, orS (ofS [97]) (ofS [98]), false, ⟨#[]⟩⟩ true ⟨#[97, 98]⟩ (by decide)
  have hM2 := May_is ⟨false, false, orS (ofS [97]) (ofS [98]), false, ⟨#[]⟩⟩ true ⟨#[]⟩ (by decide)
  have hA := Any_is
  have hM3 := May_is anySh false ⟨#[]⟩ (by decide)
  have hU := Unset_is
  have hN0 := None_is zeroSh
  have hNj := None_is ⟨false, false, orS (ofS [97]) (ofS [98]), false, ⟨#[]⟩⟩
  have hQ := Leq_is ⟨false, false, ofS [97], true, ⟨#[97]⟩⟩ ⟨false, false, orS (ofS [97]) (ofS [98]), false, ⟨#[]⟩⟩ (by show (1 : Nat) ≤ 1048576; decide)
  rw [lit_a] at hLa
  rw [lit_b] at hLb
  rw [join_ab] at hJ
  rw [sameS_of fun c _ => or_ab c] at hE
  rw [may_ab] at hM1
  rw [may_no] at hM2
  rw [show mayB anySh false ⟨#[]⟩ = true from rfl] at hM3
  rw [none_zero, shV_zero] at hN0
  rw [none_ab] at hNj
  rw [leq_ab] at hQ
  rw [show (⟨#[97, 98]⟩ : ByteArray).data.toList = [97, 98] from rfl] at hO
  generalize ofS [97, 98] = r at *
  generalize orS (ofS [97]) (ofS [98]) = q at *
  generalize ofS [97] = p at *
  generalize ofS [98] = p2 at *
  unfold anySh at hA hM3
  generalize (fun c => decide (c ≠ 0)) = f at *
  simp only [shV, setV, unsetSh, wd_no] at hLa hLb hJ hO hE hM1 hM2 hA hM3 hU hNj hQ
  have fK : ∀ w : World, (Instr.field 26 (.agg #[.bool false, .bool false, .int .u64 (wd p 0 : Nat), .int .u64 (wd p 1 : Nat), .int .u64 (wd p 2 : Nat), .int .u64 (wd p 3 : Nat), .bool true, .string ⟨#[97]⟩]) 3).run Try.prog w = .ok (.bool true) w := fun _ => by kernel_rfl
  have fU : ∀ w : World, (Instr.field 26 (.agg #[.bool true, .bool false, .int .u64 0, .int .u64 0, .int .u64 0, .int .u64 0, .bool false, .string ⟨#[]⟩]) 0).run Try.prog w = .ok (.bool true) w := fun _ => by kernel_rfl
  have HLa := Lib.hid hLa
  have HLb := Lib.hid hLb
  have HJ := Lib.hid hJ
  have HO := Lib.hid hO
  have HM1 := Lib.hid hM1
  have HM2 := Lib.hid hM2
  have HA := Lib.hid hA
  have HM3 := Lib.hid hM3
  have HU := Lib.hid hU
  have HN0 := Lib.hid hN0
  have HNj := Lib.hid hNj
  have HQ := Lib.hid hQ
  clear hLa hLb hJ hO hM1 hM2 hA hM3 hU hN0 hNj hQ
  go_enter Try.func8, Try.ntmps8
  go_wp2_with fail
  refine (HLa.out _).mono ?_
  rintro e w1 ⟨rfl, hb1⟩
  go_wp2_with fail
  refine (HLb.out _).mono ?_
  rintro e w2 ⟨rfl, hb2⟩
  go_wp2_with fail
  refine (HJ.out _).mono ?_
  rintro e w3 ⟨rfl, hb3⟩
  have hb := bel_step (bel_step hb1 hb2) hb3
  clear hb1 hb2 hb3
  have hj := ShAt.new w3 ⟨false, false, q, false, ⟨#[]⟩⟩
  go_wp2
  obtain ⟨L0, L1, L2, L3, L4, L5, L6, L7⟩ := hj.laters
  have hb2 := bel_alloc hb (.cells #[.bool false, .bool false, .int .u64 (wd q 0 : Nat), .int .u64 (wd q 1 : Nat), .int .u64 (wd q 2 : Nat), .int .u64 (wd q 3 : Nat), .bool false, .string ⟨#[]⟩] 26)
  dsimp only at L0 L1 L2 L3 L4 L5 L6 L7
  generalize w3.alloc (.cells #[.bool false, .bool false, .int .u64 (wd q 0 : Nat), .int .u64 (wd q 1 : Nat), .int .u64 (wd q 2 : Nat), .int .u64 (wd q 3 : Nat), .bool false, .string ⟨#[]⟩] 26) = W at *
  refine region_later (by kernel_rfl) (by kernel_rfl) ?_
  repeat (go_big_quiet_step (fail))
  go_big_quiet_step (exact later (HLa.out _))
  repeat (go_big_quiet_step (fail))
  go_big_quiet_step (exact later (HO.out _))
  repeat (go_big_quiet_step (fail))
  go_big_quiet_step (exact later (HM1.out _))
  repeat (go_big_quiet_step (fail))
  go_big_quiet_step (exact later (HM2.out _))
  repeat (go_big_quiet_step (fail))
  go_big_quiet_step (exact later (HA.out _))
  repeat (go_big_quiet_step (fail))
  go_big_quiet_step (exact later (HM3.out _))
  repeat (go_big_quiet_step (fail))
  go_big_quiet_step (exact later (HU.out _))
  repeat (go_big_quiet_step (fail))
  go_big_quiet_step (exact later (HN0.out _))
  repeat (go_big_quiet_step (fail))
  go_big_quiet_step (exact later (HNj.out _))
  repeat (go_big_quiet_step (fail))
  go_big_quiet_step (exact later (HLa.out _))
  repeat (go_big_quiet_step (fail))
  go_big_quiet_step (exact later (HQ.out _))
  repeat (go_big_quiet_step (fail))
  refine wpQuiet_nil ?_
  rintro _ ⟨x, rfl⟩
  go_wp2
  go_ret
  exact ⟨rfl, bel_step hb2 x.below⟩
end Go.Proofs.Ytboiplanipgidaa
