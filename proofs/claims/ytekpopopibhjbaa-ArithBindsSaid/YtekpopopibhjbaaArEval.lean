/-
  The contract of package arith's Eval. (By wip/tools/gen_areval.py.)
-/
import Derived.Test.YtekpopopibhjbaaArStack
import Derived.Test.YtekpopopibhjbaaLater
namespace Go.Proofs.Ytekpopopibhjbaa
open Go.RowKit

theorem ops_cells {w : World} {gl : Nat} {ops : List AOp} (hc : ∀ (j : Nat) (o : AOp), ops[j]? = some o → w.cell? ⟨gl, 3 * j, none⟩ = some (.int .i64 o.kind) ∧ w.cell? ⟨gl, 3 * j + 1, none⟩ = some (.int .i64 o.n) ∧ w.cell? ⟨gl, 3 * j + 2, none⟩ = some (strV o.name)) {k : Nat} {o : AOp} (hk : ops[k]? = some o) :
    w.cell? ⟨gl, k * 3, none⟩ = some (.int .i64 o.kind) ∧ w.cell? ⟨gl, k * 3 + 1, none⟩ = some (.int .i64 o.n) ∧ w.cell? ⟨gl, k * 3 + 2, none⟩ = some (strV o.name) := by
  rw [Nat.mul_comm k 3]
  exact hc k o hk
theorem eval_end {val : List UInt8 → List UInt8} {ops : List AOp} {st : List Int} (h : runP val ops [] = (st, 0)) (hs : st.length ≠ 1) : evalP val ops = (0, 6) := by
  unfold evalP
  rw [h]
  simp only [if_true]
  cases st with
  | nil => rfl
  | cons x r =>
    cases r with
    | nil => simp at hs
    | cons y r => rfl
theorem eval_bad {val : List UInt8 → List UInt8} {ops : List AOp} {e : Int} (h : (runP val ops []).2 = e) (he : e ≠ 0) : evalP val ops = (0, e) := by
  unfold evalP
  rw [h, if_neg he]
theorem drop_at {ops : List AOp} {k : Nat} {o : AOp} (h : ops[k]? = some o) : ops.drop k = o :: ops.drop (k + 1) := by
  obtain ⟨hl, he⟩ := List.getElem?_eq_some_iff.1 h
  rw [List.drop_eq_getElem_cons hl, he]

set_option maxHeartbeats 8000000 in
set_option maxRecDepth 100000 in
theorem eval_is (v : Value) (ops : List AOp) (f : FuncId) (caps : Array Value) (val : List UInt8 → List UInt8) (w : World) (hO : OpsAt w v ops) (hn : ∀ o ∈ ops, o.name.length ≤ 100000) (hv : ∀ x, (val x).length ≤ 100000) (HG : GetIs w f caps val) :
    Calls Try.prog 10 #[v, .func (.func f) #[] caps] w (Gives w (.tuple #[.int .i64 (evalP val ops).1, .int .i64 (evalP val ops).2])) := by
  obtain ⟨ao, capl, rfl, hl, hlc, hcells⟩ := hO
  obtain ⟨E, hE⟩ : ∃ E, evalP val ops = E := ⟨_, rfl⟩
  rw [hE]
  have HE := Lib.hid hE
  clear hE
  have HN := Lib.hid hn
  have HV := Lib.hid hv
  have HGG := Lib.hid HG
  clear hn hv HG
  by_cases h0 : ops.length = 0
  · have hnil := List.eq_nil_of_length_eq_zero h0
    subst hnil
    have HX : Hid (E = (0, 6)) := Lib.hid (by rw [← HE.out]; rfl)
    clear HE hcells h0 hl hlc
    go_enter Try.func10, Try.ntmps10
    go_wp2
    go_loopw [6, 16] (fun x i wr => x = .slice none 0 0 ∧ i = .int .i64 0 ∧ wr = w) (fun _ _ _ => 0)
    case atStart => exact ⟨rfl, rfl, rfl⟩
    case round =>
      obtain ⟨rfl, rfl, rfl⟩ := hrel
      go_wp2
      go_ret2
      rw [HX.out]
      exact ⟨rfl, Below.refl _ _⟩
  · obtain ⟨gl, rfl, hcl⟩ := hcells (by omega)
    obtain ⟨N, hN⟩ : ∃ N, ops.length = N := ⟨_, rfl⟩
    rw [hN] at hl hlc h0
    simp only [hN]
    have HNN := Lib.hid hN
    have HCL := Lib.hid hcl
    clear hcells hN hcl
    have HR0 : Hid (runP val (ops.drop 0) [] = runP val ops []) := Lib.hid rfl
    obtain ⟨RR, hRR⟩ : ∃ RR, runP val ops [] = RR := ⟨_, rfl⟩
    rw [hRR] at HR0
    have HRR := Lib.hid hRR
    clear hRR
    go_enter Try.func10, Try.ntmps10
    go_wp2
    go_loopw [6, 16] (fun lv i wr => ∃ (k : Nat) (st : List Int), k ≤ N ∧ st.length ≤ k ∧ i = .int .i64 (k : Int) ∧ StkAt wr w.heap.size lv st ∧ Below w.heap.size w wr ∧ Hid (runP val (ops.drop k) st = RR)) (fun _ i _ => N - (intOf i).toNat)
    case atStart => exact ⟨0, [], Nat.zero_le _, Nat.zero_le _, rfl, StkAt.nil _ _, Below.refl _ _, HR0⟩
    case round =>
      clear HR0
      obtain ⟨k, st, hk, hsk, rfl, hS, hb, HD⟩ := hrel
      by_cases hlt : k < N
      · obtain ⟨o, ho⟩ : ∃ o, ops[k]? = some o := ⟨ops[k]'(by rw [HNN.out]; exact hlt), List.getElem?_eq_getElem _⟩
        obtain ⟨d0, d1, d2⟩ := ops_cells HCL.out ho
        have c0 := (World.cell?_of_block (hb.block gl (World.block_lt_of_cell? _ _ d0))).trans d0
        have c1 := (World.cell?_of_block (hb.block gl (World.block_lt_of_cell? _ _ d1))).trans d1
        have c2 := (World.cell?_of_block (hb.block gl (World.block_lt_of_cell? _ _ d2))).trans d2
        clear d0 d1 d2
        have hol := HN.out o (List.mem_of_getElem? ho)
        obtain ⟨X, hX⟩ : ∃ X : ByteArray, (⟨o.name.toArray⟩ : ByteArray) = X := ⟨_, rfl⟩
        have hXd : X.data.toList = o.name := by rw [← hX]
        have hXs : X.size ≤ 100000 := by
          have : X.size = o.name.length := by rw [← hXd]; simp
          omega
        simp only [strV, hX] at c2
        have HXD := Lib.hid hXd
        clear hX hXd hol
        have HDD : Hid (runP val (o :: ops.drop (k + 1)) st = RR) := Lib.hid (by rw [← HD.out, drop_at ho])
        clear HD
        have HA := Lib.hid (asks_is o.kind)
        have hk0 : (0 : Int) ≤ (k : Int) := by omega
        have hk1 : (k : Int) < (N : Int) := by omega
        have hsl : st.length ≤ 1048576 := by omega
        have hwB := hb.size
        obtain ⟨w5, hw5⟩ : ∃ w5, wr.alloc (.cells #[.int .i64 (o.kind : Int), .int .i64 o.n, .string X] 46) = w5 := ⟨_, rfl⟩
        have hT := BlkAt.new wr #[.int .i64 (o.kind : Int), .int .i64 o.n, .string X] 46
        have hS5 := StkAt.after hS (bel_alloc (Below.refl _ wr) (.cells #[.int .i64 (o.kind : Int), .int .i64 o.n, .string X] 46))
        have hb5 := hb.alloc hwB (.cells #[.int .i64 (o.kind : Int), .int .i64 o.n, .string X] 46)
        obtain ⟨b5, hb5e⟩ : ∃ b5, wr.heap.size = b5 := ⟨_, rfl⟩
        rw [hw5] at hT hS5 hb5
        rw [hb5e] at hT
        have HW5 := Lib.hid hw5
        have t0 := hT.cell 0 (v := .int .i64 (o.kind : Int)) rfl
        have t1 := hT.cell 1 (v := .int .i64 o.n) rfl
        have t2 := hT.cell 2 (v := .string X) rfl
        clear hw5 ho
        rcases asks_cases o.kind with hbad | ⟨hk1', hak⟩ | ⟨hk2', hak⟩ | ⟨hk3, hk5, hak⟩ | ⟨hk6, hk18, hak⟩
        · have HX : Hid (E = (0, 6)) := Lib.hid (by rw [← HE.out, eval_bad (by rw [HRR.out, ← HDD.out, run_err (step_bad hbad) (by decide)]) (by decide)])
          obtain ⟨⟨q, z⟩, hq⟩ : ∃ p, asksP o.kind = p := ⟨_, rfl⟩
          rw [hq] at HA hbad
          dsimp only at hbad
          subst hbad
          clear HE HDD HRR hq HXD HNN HCL HN HV HGG
          go_wp2_with fail
          rw [HW5.out]
          refine (HA.out _).mono ?_
          rintro e w6 ⟨rfl, rfl⟩
          go_wp2
          go_ret2
          rw [HX.out]
          exact ⟨rfl, hb5⟩
        · obtain ⟨p1, hp⟩ : ∃ p, o.n = p := ⟨_, rfl⟩
          have HDo : ∀ (ao : Option Addr) (c : Nat) (x9 : Later w5), Hid (Calls Try.prog 22 #[.agg #[.int .i64 (o.kind : Int), .int .i64 o.n, .string X], .slice ao 0 c, .func (.func f) #[] caps] x9.at_ (Gives x9.at_ (.tuple #[.int .i64 p1, .int .i64 0]))) := fun ao c x9 => Lib.hid (by
            have := done_num o.n X ao c (.func (.func f) #[] caps) x9.at_
            rw [show (o.kind : Int) = 1 by omega]
            rw [hp] at this ⊢
            exact this)
          have HDM : Hid (runP val (ops.drop (k + 1)) (p1 :: st) = RR) := Lib.hid (by
            have hs := step_num (val := val) (o := o) (st := st) hk1'
            rw [hp] at hs
            rw [← HDD.out, run_ok hs])
          clear hp hk1'
          have hsf := hS5.form
          rcases hsf with ⟨rfl, hz⟩ | ⟨g, cp, rfl, hcp, hcm⟩
          · subst hz
            rw [hak] at HA
            have hR5 := hS5
            have HM : Hid (([] : List Int).length = 0) := Lib.hid rfl
            have dfew : decide ((0 : Int) < 0) = false := rfl
            have hw5s : wr.heap.size ≤ w5.heap.size := by rw [← HW5.out]; simp
            clear hS hS5 HDD hak
            go_wp2_with fail
            rw [HW5.out]
            refine (HA.out _).mono ?_
            rintro e w6 ⟨rfl, rfl⟩
            clear HA HW5
            go_wp2
            refine region_later (by kernel_rfl) (by kernel_rfl) ?_
            have LD := HDo
            have L0 : ∀ x9 : Later w5, x9.at_.cell? ⟨b5, 0, none⟩ = some (.int .i64 (o.kind : Int)) := fun x9 => cell_after x9.below t0
            have L1 : ∀ x9 : Later w5, x9.at_.cell? ⟨b5, 1, none⟩ = some (.int .i64 o.n) := fun x9 => cell_after x9.below t1
            have L2 : ∀ x9 : Later w5, x9.at_.cell? ⟨b5, 2, none⟩ = some (.string X) := fun x9 => cell_after x9.below t2
            repeat (go_big_quiet_step (fail))
            go_big_quiet_step (exact later ((LD _ _ _).out))
            repeat (go_big_quiet_step (fail))
            refine wpQuiet_nil ?_
            rintro w9 ⟨x9, rfl⟩
            have hb9 : Below w.heap.size w x9.at_ := hb5.trans (x9.below.mono (Nat.le_trans hwB hw5s))
            have hS9 := StkAt.after hR5 x9.below
            have hw9 := hb9.size
            generalize x9.at_ = w9 at *
            clear LD L0 L1 L2 HDo hR5 hb5 t0 t1 t2
            obtain ⟨g9, cp9, w10, HP⟩ := hS9.push p1 (by simp) hw9
            have hrun := HP.run
            have hst := HP.stk
            simp only [List.length_nil] at hrun hst
            have HRun := Lib.hid hrun
            clear hrun
            have hbe := hb9.trans HP.bel
            clear HP hS9 hb9
            go_wp2_with (at_builtin; refine wpList_append_runI rfl _ _ 44 rfl _ _ _ _ rfl rfl HRun.out ?_)
            go_wp2
            go_roundw
            case rel => exact ⟨k + 1, [p1], by omega, by simp, by go_num, hst, hbe, HDM⟩
            case measure => simp [intOf]; omega
          · have hR5 := hS5
            obtain ⟨m, hm⟩ : ∃ m, st.length = m := ⟨_, rfl⟩
            rw [hak] at HA
            have HM := Lib.hid hm
            rw [hm] at hR5 hcp hsl hsk ⊢
            have hs2 : (m : Int) - 0 = (m : Int) := by omega
            have hcpi : (m : Int) ≤ (cp : Int) := by omega
            have dfew : decide ((m : Int) < 0) = false := decide_eq_false (by omega)
            have hw5s : wr.heap.size ≤ w5.heap.size := by rw [← HW5.out]; simp
            clear hS hS5 hm HDD hak
            go_wp2_with fail
            rw [HW5.out]
            refine (HA.out _).mono ?_
            rintro e w6 ⟨rfl, rfl⟩
            clear HA HW5
            go_wp2
            refine region_later (by kernel_rfl) (by kernel_rfl) ?_
            have LD := HDo
            have L0 : ∀ x9 : Later w5, x9.at_.cell? ⟨b5, 0, none⟩ = some (.int .i64 (o.kind : Int)) := fun x9 => cell_after x9.below t0
            have L1 : ∀ x9 : Later w5, x9.at_.cell? ⟨b5, 1, none⟩ = some (.int .i64 o.n) := fun x9 => cell_after x9.below t1
            have L2 : ∀ x9 : Later w5, x9.at_.cell? ⟨b5, 2, none⟩ = some (.string X) := fun x9 => cell_after x9.below t2
            repeat (go_big_quiet_step (fail))
            go_big_quiet_step (exact later ((LD _ _ _).out))
            repeat (go_big_quiet_step (fail))
            refine wpQuiet_nil ?_
            rintro w9 ⟨x9, rfl⟩
            have hb9 : Below w.heap.size w x9.at_ := hb5.trans (x9.below.mono (Nat.le_trans hwB hw5s))
            have hS9 := StkAt.after hR5 x9.below
            have hw9 := hb9.size
            generalize x9.at_ = w9 at *
            clear LD L0 L1 L2 HDo hR5 hb5 t0 t1 t2
            obtain ⟨g9, cp9, w10, HP⟩ := hS9.push p1 (by have := HM.out; omega) hw9
            have hrun := HP.run
            have hst := HP.stk
            rw [HM.out] at hrun hst
            have HRun := Lib.hid hrun
            clear hrun
            have hbe := hb9.trans HP.bel
            clear HP hS9 hb9
            go_wp2_with (at_builtin; refine wpList_append_runI rfl _ _ 44 rfl _ _ _ _ rfl rfl HRun.out ?_)
            go_wp2
            go_roundw
            case rel => exact ⟨k + 1, p1 :: st, by omega, by rw [List.length_cons, HM.out]; omega, by go_num, hst, hbe, HDM⟩
            case measure => simp [intOf]; omega
        · cases hvn : valN (val o.name) with
          | some p1 =>
            have HDo : ∀ (ao : Option Addr) (c : Nat) (x9 : Later w5), Hid (Calls Try.prog 22 #[.agg #[.int .i64 (o.kind : Int), .int .i64 o.n, .string X], .slice ao 0 c, .func (.func f) #[] caps] x9.at_ (Gives x9.at_ (.tuple #[.int .i64 p1, .int .i64 0]))) := fun ao c x9 => Lib.hid (by
              have := done_name o.n X ao c f caps val x9.at_ (by omega) HV.out (HGG.out.later (hb5.trans (x9.below.mono (Nat.le_trans hwB (by rw [← HW5.out]; simp)))))
              rw [HXD.out, hvn] at this
              rw [show (o.kind : Int) = 2 by omega]
              exact this)
            have HDM : Hid (runP val (ops.drop (k + 1)) (p1 :: st) = RR) := Lib.hid (by
              have hs := step_name_ok (val := val) (o := o) (st := st) hk2' hvn
              rw [← HDD.out, run_ok hs])
            clear hvn hk2'
            have hsf := hS5.form
            rcases hsf with ⟨rfl, hz⟩ | ⟨g, cp, rfl, hcp, hcm⟩
            · subst hz
              rw [hak] at HA
              have hR5 := hS5
              have HM : Hid (([] : List Int).length = 0) := Lib.hid rfl
              have dfew : decide ((0 : Int) < 0) = false := rfl
              have hw5s : wr.heap.size ≤ w5.heap.size := by rw [← HW5.out]; simp
              clear hS hS5 HDD hak
              go_wp2_with fail
              rw [HW5.out]
              refine (HA.out _).mono ?_
              rintro e w6 ⟨rfl, rfl⟩
              clear HA HW5
              go_wp2
              refine region_later (by kernel_rfl) (by kernel_rfl) ?_
              have LD := HDo
              have L0 : ∀ x9 : Later w5, x9.at_.cell? ⟨b5, 0, none⟩ = some (.int .i64 (o.kind : Int)) := fun x9 => cell_after x9.below t0
              have L1 : ∀ x9 : Later w5, x9.at_.cell? ⟨b5, 1, none⟩ = some (.int .i64 o.n) := fun x9 => cell_after x9.below t1
              have L2 : ∀ x9 : Later w5, x9.at_.cell? ⟨b5, 2, none⟩ = some (.string X) := fun x9 => cell_after x9.below t2
              repeat (go_big_quiet_step (fail))
              go_big_quiet_step (exact later ((LD _ _ _).out))
              repeat (go_big_quiet_step (fail))
              refine wpQuiet_nil ?_
              rintro w9 ⟨x9, rfl⟩
              have hb9 : Below w.heap.size w x9.at_ := hb5.trans (x9.below.mono (Nat.le_trans hwB hw5s))
              have hS9 := StkAt.after hR5 x9.below
              have hw9 := hb9.size
              generalize x9.at_ = w9 at *
              clear LD L0 L1 L2 HDo hR5 hb5 t0 t1 t2
              obtain ⟨g9, cp9, w10, HP⟩ := hS9.push p1 (by simp) hw9
              have hrun := HP.run
              have hst := HP.stk
              simp only [List.length_nil] at hrun hst
              have HRun := Lib.hid hrun
              clear hrun
              have hbe := hb9.trans HP.bel
              clear HP hS9 hb9
              go_wp2_with (at_builtin; refine wpList_append_runI rfl _ _ 44 rfl _ _ _ _ rfl rfl HRun.out ?_)
              go_wp2
              go_roundw
              case rel => exact ⟨k + 1, [p1], by omega, by simp, by go_num, hst, hbe, HDM⟩
              case measure => simp [intOf]; omega
            · have hR5 := hS5
              obtain ⟨m, hm⟩ : ∃ m, st.length = m := ⟨_, rfl⟩
              rw [hak] at HA
              have HM := Lib.hid hm
              rw [hm] at hR5 hcp hsl hsk ⊢
              have hs2 : (m : Int) - 0 = (m : Int) := by omega
              have hcpi : (m : Int) ≤ (cp : Int) := by omega
              have dfew : decide ((m : Int) < 0) = false := decide_eq_false (by omega)
              have hw5s : wr.heap.size ≤ w5.heap.size := by rw [← HW5.out]; simp
              clear hS hS5 hm HDD hak
              go_wp2_with fail
              rw [HW5.out]
              refine (HA.out _).mono ?_
              rintro e w6 ⟨rfl, rfl⟩
              clear HA HW5
              go_wp2
              refine region_later (by kernel_rfl) (by kernel_rfl) ?_
              have LD := HDo
              have L0 : ∀ x9 : Later w5, x9.at_.cell? ⟨b5, 0, none⟩ = some (.int .i64 (o.kind : Int)) := fun x9 => cell_after x9.below t0
              have L1 : ∀ x9 : Later w5, x9.at_.cell? ⟨b5, 1, none⟩ = some (.int .i64 o.n) := fun x9 => cell_after x9.below t1
              have L2 : ∀ x9 : Later w5, x9.at_.cell? ⟨b5, 2, none⟩ = some (.string X) := fun x9 => cell_after x9.below t2
              repeat (go_big_quiet_step (fail))
              go_big_quiet_step (exact later ((LD _ _ _).out))
              repeat (go_big_quiet_step (fail))
              refine wpQuiet_nil ?_
              rintro w9 ⟨x9, rfl⟩
              have hb9 : Below w.heap.size w x9.at_ := hb5.trans (x9.below.mono (Nat.le_trans hwB hw5s))
              have hS9 := StkAt.after hR5 x9.below
              have hw9 := hb9.size
              generalize x9.at_ = w9 at *
              clear LD L0 L1 L2 HDo hR5 hb5 t0 t1 t2
              obtain ⟨g9, cp9, w10, HP⟩ := hS9.push p1 (by have := HM.out; omega) hw9
              have hrun := HP.run
              have hst := HP.stk
              rw [HM.out] at hrun hst
              have HRun := Lib.hid hrun
              clear hrun
              have hbe := hb9.trans HP.bel
              clear HP hS9 hb9
              go_wp2_with (at_builtin; refine wpList_append_runI rfl _ _ 44 rfl _ _ _ _ rfl rfl HRun.out ?_)
              go_wp2
              go_roundw
              case rel => exact ⟨k + 1, p1 :: st, by omega, by rw [List.length_cons, HM.out]; omega, by go_num, hst, hbe, HDM⟩
              case measure => simp [intOf]; omega
          | none =>
            have HDo : ∀ (ao : Option Addr) (c : Nat) (x9 : Later w5), Hid (Calls Try.prog 22 #[.agg #[.int .i64 (o.kind : Int), .int .i64 o.n, .string X], .slice ao 0 c, .func (.func f) #[] caps] x9.at_ (Gives x9.at_ (.tuple #[.int .i64 0, .int .i64 13]))) := fun ao c x9 => Lib.hid (by
              have := done_name o.n X ao c f caps val x9.at_ (by omega) HV.out (HGG.out.later (hb5.trans (x9.below.mono (Nat.le_trans hwB (by rw [← HW5.out]; simp)))))
              rw [HXD.out, hvn] at this
              rw [show (o.kind : Int) = 2 by omega]
              exact this)
            have HX : Hid (E = (0, 13)) := Lib.hid (by
              have hs := step_name_err (val := val) (o := o) (st := st) hk2' hvn
              rw [← HE.out, eval_bad (by rw [HRR.out, ← HDD.out, run_err hs (by decide)]) (by decide)])
            clear hvn hk2'
            have hsf := hS5.form
            rcases hsf with ⟨rfl, hz⟩ | ⟨g, cp, rfl, hcp, hcm⟩
            · subst hz
              rw [hak] at HA
              have hR5 := hS5
              have HM : Hid (([] : List Int).length = 0) := Lib.hid rfl
              have dfew : decide ((0 : Int) < 0) = false := rfl
              have hw5s : wr.heap.size ≤ w5.heap.size := by rw [← HW5.out]; simp
              clear hS hS5 HDD hak
              go_wp2_with fail
              rw [HW5.out]
              refine (HA.out _).mono ?_
              rintro e w6 ⟨rfl, rfl⟩
              clear HA HW5
              go_wp2
              refine region_later (by kernel_rfl) (by kernel_rfl) ?_
              have LD := HDo
              have L0 : ∀ x9 : Later w5, x9.at_.cell? ⟨b5, 0, none⟩ = some (.int .i64 (o.kind : Int)) := fun x9 => cell_after x9.below t0
              have L1 : ∀ x9 : Later w5, x9.at_.cell? ⟨b5, 1, none⟩ = some (.int .i64 o.n) := fun x9 => cell_after x9.below t1
              have L2 : ∀ x9 : Later w5, x9.at_.cell? ⟨b5, 2, none⟩ = some (.string X) := fun x9 => cell_after x9.below t2
              repeat (go_big_quiet_step (fail))
              go_big_quiet_step (exact later ((LD _ _ _).out))
              repeat (go_big_quiet_step (fail))
              refine wpQuiet_nil ?_
              rintro w9 ⟨x9, rfl⟩
              have hb9 : Below w.heap.size w x9.at_ := hb5.trans (x9.below.mono (Nat.le_trans hwB hw5s))
              have hS9 := StkAt.after hR5 x9.below
              have hw9 := hb9.size
              generalize x9.at_ = w9 at *
              clear LD L0 L1 L2 HDo hR5 hb5 t0 t1 t2
              go_wp2
              all_goals (go_ret2; rw [HX.out]; exact ⟨rfl, hb9⟩)
            · have hR5 := hS5
              obtain ⟨m, hm⟩ : ∃ m, st.length = m := ⟨_, rfl⟩
              rw [hak] at HA
              have HM := Lib.hid hm
              rw [hm] at hR5 hcp hsl hsk ⊢
              have hs2 : (m : Int) - 0 = (m : Int) := by omega
              have hcpi : (m : Int) ≤ (cp : Int) := by omega
              have dfew : decide ((m : Int) < 0) = false := decide_eq_false (by omega)
              have hw5s : wr.heap.size ≤ w5.heap.size := by rw [← HW5.out]; simp
              clear hS hS5 hm HDD hak
              go_wp2_with fail
              rw [HW5.out]
              refine (HA.out _).mono ?_
              rintro e w6 ⟨rfl, rfl⟩
              clear HA HW5
              go_wp2
              refine region_later (by kernel_rfl) (by kernel_rfl) ?_
              have LD := HDo
              have L0 : ∀ x9 : Later w5, x9.at_.cell? ⟨b5, 0, none⟩ = some (.int .i64 (o.kind : Int)) := fun x9 => cell_after x9.below t0
              have L1 : ∀ x9 : Later w5, x9.at_.cell? ⟨b5, 1, none⟩ = some (.int .i64 o.n) := fun x9 => cell_after x9.below t1
              have L2 : ∀ x9 : Later w5, x9.at_.cell? ⟨b5, 2, none⟩ = some (.string X) := fun x9 => cell_after x9.below t2
              repeat (go_big_quiet_step (fail))
              go_big_quiet_step (exact later ((LD _ _ _).out))
              repeat (go_big_quiet_step (fail))
              refine wpQuiet_nil ?_
              rintro w9 ⟨x9, rfl⟩
              have hb9 : Below w.heap.size w x9.at_ := hb5.trans (x9.below.mono (Nat.le_trans hwB hw5s))
              have hS9 := StkAt.after hR5 x9.below
              have hw9 := hb9.size
              generalize x9.at_ = w9 at *
              clear LD L0 L1 L2 HDo hR5 hb5 t0 t1 t2
              go_wp2
              all_goals (go_ret2; rw [HX.out]; exact ⟨rfl, hb9⟩)
        · by_cases hfew : st.length < 1
          · have HX : Hid (E = (0, 6)) := Lib.hid (by rw [← HE.out, eval_bad (by rw [HRR.out, ← HDD.out, run_err (step_few1 ⟨hk3, hk5⟩ hfew) (by decide)]) (by decide)])
            rw [hak] at HA
            obtain ⟨a1, c1', rfl⟩ := hS5.form2
            have dfew : decide ((st.length : Int) < 1) = true := decide_eq_true (by omega)
            clear HE HDD HRR HXD HNN HCL HN HV HGG hak hS5 hS
            go_wp2_with fail
            rw [HW5.out]
            refine (HA.out _).mono ?_
            rintro e w6 ⟨rfl, rfl⟩
            go_wp2
            go_ret2
            rw [HX.out]
            exact ⟨rfl, hb5⟩
          · obtain ⟨y, r, rfl⟩ : ∃ y r, st = y :: r := by
              match st, hfew with
              | y :: r, _ => exact ⟨y, r, rfl⟩
              | [], h => exact absurd h (by simp)
            have hsf := hS5.form
            rcases hsf with ⟨_, hz⟩ | ⟨g, cp, rfl, hcp, hcm⟩
            · cases hz
            have hm2 : (y :: r).length = r.length + 1 := rfl
            have hR5 : StkAt w5 w.heap.size (.slice (some ⟨g, 0, none⟩) r.length cp) r := StkAt.drop hS5 1 r.length rfl
            have e1 := stk_cell hS5 (j := r.length) (x := y) (by simp)
            obtain ⟨p1, hp⟩ : ∃ p, oneP o.kind y = p := ⟨_, rfl⟩
            have HDo : ∀ x9 : Later w5, Hid (Calls Try.prog 22 #[.agg #[.int .i64 (o.kind : Int), .int .i64 o.n, .string X], .slice (some ⟨g, r.length, none⟩) 1 (cp - r.length), .func (.func f) #[] caps] x9.at_ (Gives x9.at_ (.tuple #[.int .i64 p1, .int .i64 0]))) := fun x9 => Lib.hid (by
              have := done_one o.kind ⟨hk3, hk5⟩ o.n X g r.length (cp - r.length) y (.func (.func f) #[] caps) x9.at_ (cell_after x9.below e1)
              rw [hp] at this
              exact this)
            have HDM : Hid (runP val (ops.drop (k + 1)) (p1 :: r) = RR) := Lib.hid (by
              have hs := step_one (val := val) (o := o) (a := y) (r := r) ⟨hk3, hk5⟩
              rw [hp] at hs
              rw [← HDD.out, run_ok hs])
            rw [hak] at HA
            have hrl : r.length + 1 ≤ k := hsk
            simp only [hm2] at hS5 hcp hsl hsk ⊢
            obtain ⟨m, hm⟩ : ∃ m, r.length = m := ⟨_, rfl⟩
            have HM := Lib.hid hm
            rw [hm] at e1 HDo hR5 hcp hsl hsk hrl ⊢
            have hs2 : ((m + 1 : Nat) : Int) - 1 = (m : Int) := by omega
            have hcpi : (m : Int) ≤ (cp : Int) := by omega
            have hcne : ¬ cp = m := by omega
            have dfew : decide (((m + 1 : Nat) : Int) < 1) = false := decide_eq_false (by omega)
            have hw5s : wr.heap.size ≤ w5.heap.size := by rw [← HW5.out]; simp
            clear hS hS5 hm2 hp hfew e1 HDD hak

            go_wp2_with fail
            rw [HW5.out]
            refine (HA.out _).mono ?_
            rintro e w6 ⟨rfl, rfl⟩
            clear HA HW5
            go_wp2
            refine region_later (by kernel_rfl) (by kernel_rfl) ?_
            have LD := fun x9 : Later w5 => HDo x9
            have L0 : ∀ x9 : Later w5, x9.at_.cell? ⟨b5, 0, none⟩ = some (.int .i64 (o.kind : Int)) := fun x9 => cell_after x9.below t0
            have L1 : ∀ x9 : Later w5, x9.at_.cell? ⟨b5, 1, none⟩ = some (.int .i64 o.n) := fun x9 => cell_after x9.below t1
            have L2 : ∀ x9 : Later w5, x9.at_.cell? ⟨b5, 2, none⟩ = some (.string X) := fun x9 => cell_after x9.below t2
            repeat (go_big_quiet_step (fail))
            go_big_quiet_step (exact later ((LD _).out))
            repeat (go_big_quiet_step (fail))
            refine wpQuiet_nil ?_
            rintro w9 ⟨x9, rfl⟩
            have hb9 : Below w.heap.size w x9.at_ := hb5.trans (x9.below.mono (Nat.le_trans hwB hw5s))
            have hS9 := StkAt.after hR5 x9.below
            have hw9 := hb9.size
            generalize x9.at_ = w9 at *
            clear LD L0 L1 L2 HDo hR5 hb5 t0 t1 t2

            obtain ⟨g9, cp9, w10, HP⟩ := hS9.push p1 (by have := HM.out; omega) hw9
            have hrun := HP.run
            have hst := HP.stk
            rw [HM.out] at hrun hst
            have HRun := Lib.hid hrun
            clear hrun
            have hbe := hb9.trans HP.bel
            clear HP hS9 hb9
            go_wp2_with (at_builtin; refine wpList_append_runI rfl _ _ 44 rfl _ _ _ _ rfl rfl HRun.out ?_)
            go_wp2
            go_roundw
            case rel => exact ⟨k + 1, p1 :: r, by omega, by rw [List.length_cons, HM.out]; omega, by go_num, hst, hbe, HDM⟩
            case measure => simp [intOf]; omega
        · by_cases hfew : st.length < 2
          · have HX : Hid (E = (0, 6)) := Lib.hid (by rw [← HE.out, eval_bad (by rw [HRR.out, ← HDD.out, run_err (step_few2 ⟨hk6, hk18⟩ hfew) (by decide)]) (by decide)])
            rw [hak] at HA
            obtain ⟨a1, c1', rfl⟩ := hS5.form2
            have dfew : decide ((st.length : Int) < 2) = true := decide_eq_true (by omega)
            clear HE HDD HRR HXD HNN HCL HN HV HGG hak hS5 hS
            go_wp2_with fail
            rw [HW5.out]
            refine (HA.out _).mono ?_
            rintro e w6 ⟨rfl, rfl⟩
            go_wp2
            go_ret2
            rw [HX.out]
            exact ⟨rfl, hb5⟩
          · obtain ⟨y, x, r, rfl⟩ : ∃ y x r, st = y :: x :: r := by
              match st, hfew with
              | y :: x :: r, _ => exact ⟨y, x, r, rfl⟩
              | [y], h => exact absurd h (by simp)
              | [], h => exact absurd h (by simp)
            have hsf := hS5.form
            rcases hsf with ⟨_, hz⟩ | ⟨g, cp, rfl, hcp, hcm⟩
            · cases hz
            have hm2 : (y :: x :: r).length = r.length + 2 := rfl
            have hR5 : StkAt w5 w.heap.size (.slice (some ⟨g, 0, none⟩) r.length cp) r := StkAt.drop hS5 2 r.length rfl
            have e1 := stk_cell hS5 (j := r.length) (x := x) (by simp)
            have e2 := stk_cell hS5 (j := r.length + 1) (x := y) (by simp)
            obtain ⟨⟨p1, p2⟩, hp⟩ : ∃ p, twoP o.kind x y = p := ⟨_, rfl⟩
            have HDo : ∀ x9 : Later w5, Hid (Calls Try.prog 22 #[.agg #[.int .i64 (o.kind : Int), .int .i64 o.n, .string X], .slice (some ⟨g, r.length, none⟩) 2 (cp - r.length), .func (.func f) #[] caps] x9.at_ (Gives x9.at_ (.tuple #[.int .i64 p1, .int .i64 p2]))) := fun x9 => Lib.hid (by
              have := done_two o.kind ⟨hk6, hk18⟩ o.n X g r.length (cp - r.length) x y (.func (.func f) #[] caps) x9.at_ (cell_after x9.below e1) (cell_after x9.below e2)
              rw [hp] at this
              exact this)
            have hpe := two_err o.kind x y
            rw [hp] at hpe
            have HDN : Hid (p2 = 0 → runP val (ops.drop (k + 1)) (p1 :: r) = RR) := Lib.hid fun h => by
              have hs := step_two_ok (val := val) (o := o) (r := r) ⟨hk6, hk18⟩ (by rw [hp]; exact h)
              rw [hp] at hs
              rw [← HDD.out, run_ok hs]
            have HXX : Hid (p2 ≠ 0 → E = (0, p2)) := Lib.hid fun h => by
              have hs := step_two_err (val := val) (o := o) (r := r) ⟨hk6, hk18⟩ (by rw [hp]; exact h)
              rw [hp] at hs
              rw [← HE.out, eval_bad (by rw [HRR.out, ← HDD.out, run_err hs h]) h]
            rw [hak] at HA
            have hrl : r.length + 2 ≤ k := hsk
            simp only [hm2] at hS5 hcp hsl hsk ⊢
            obtain ⟨m, hm⟩ : ∃ m, r.length = m := ⟨_, rfl⟩
            have HM := Lib.hid hm
            rw [hm] at e1 e2 HDo hR5 hcp hsl hsk hrl ⊢
            have hs2 : ((m + 2 : Nat) : Int) - 2 = (m : Int) := by omega
            have hcpi : (m : Int) ≤ (cp : Int) := by omega
            have hcne : ¬ cp = m := by omega
            have dfew : decide (((m + 2 : Nat) : Int) < 2) = false := decide_eq_false (by omega)
            have hw5s : wr.heap.size ≤ w5.heap.size := by rw [← HW5.out]; simp
            clear hS hS5 hm2 hp hfew e1 e2 HDD hak
            rcases hpe with hpz | hpz
            · subst hpz
              have HDM := Lib.hid (HDN.out rfl)
              clear HXX HDN
              go_wp2_with fail
              rw [HW5.out]
              refine (HA.out _).mono ?_
              rintro e w6 ⟨rfl, rfl⟩
              clear HA HW5
              go_wp2
              refine region_later (by kernel_rfl) (by kernel_rfl) ?_
              have LD := fun x9 : Later w5 => HDo x9
              have L0 : ∀ x9 : Later w5, x9.at_.cell? ⟨b5, 0, none⟩ = some (.int .i64 (o.kind : Int)) := fun x9 => cell_after x9.below t0
              have L1 : ∀ x9 : Later w5, x9.at_.cell? ⟨b5, 1, none⟩ = some (.int .i64 o.n) := fun x9 => cell_after x9.below t1
              have L2 : ∀ x9 : Later w5, x9.at_.cell? ⟨b5, 2, none⟩ = some (.string X) := fun x9 => cell_after x9.below t2
              repeat (go_big_quiet_step (fail))
              go_big_quiet_step (exact later ((LD _).out))
              repeat (go_big_quiet_step (fail))
              refine wpQuiet_nil ?_
              rintro w9 ⟨x9, rfl⟩
              have hb9 : Below w.heap.size w x9.at_ := hb5.trans (x9.below.mono (Nat.le_trans hwB hw5s))
              have hS9 := StkAt.after hR5 x9.below
              have hw9 := hb9.size
              generalize x9.at_ = w9 at *
              clear LD L0 L1 L2 HDo hR5 hb5 t0 t1 t2
              obtain ⟨g9, cp9, w10, HP⟩ := hS9.push p1 (by have := HM.out; omega) hw9
              have hrun := HP.run
              have hst := HP.stk
              rw [HM.out] at hrun hst
              have HRun := Lib.hid hrun
              clear hrun
              have hbe := hb9.trans HP.bel
              clear HP hS9 hb9
              go_wp2_with (at_builtin; refine wpList_append_runI rfl _ _ 44 rfl _ _ _ _ rfl rfl HRun.out ?_)
              go_wp2
              go_roundw
              case rel => exact ⟨k + 1, p1 :: r, by omega, by rw [List.length_cons, HM.out]; omega, by go_num, hst, hbe, HDM⟩
              case measure => simp [intOf]; omega

            · subst hpz
              have HX := Lib.hid (HXX.out (by decide))
              clear HDN HXX
              go_wp2_with fail
              rw [HW5.out]
              refine (HA.out _).mono ?_
              rintro e w6 ⟨rfl, rfl⟩
              clear HA HW5
              go_wp2
              refine region_later (by kernel_rfl) (by kernel_rfl) ?_
              have LD := fun x9 : Later w5 => HDo x9
              have L0 : ∀ x9 : Later w5, x9.at_.cell? ⟨b5, 0, none⟩ = some (.int .i64 (o.kind : Int)) := fun x9 => cell_after x9.below t0
              have L1 : ∀ x9 : Later w5, x9.at_.cell? ⟨b5, 1, none⟩ = some (.int .i64 o.n) := fun x9 => cell_after x9.below t1
              have L2 : ∀ x9 : Later w5, x9.at_.cell? ⟨b5, 2, none⟩ = some (.string X) := fun x9 => cell_after x9.below t2
              repeat (go_big_quiet_step (fail))
              go_big_quiet_step (exact later ((LD _).out))
              repeat (go_big_quiet_step (fail))
              refine wpQuiet_nil ?_
              rintro w9 ⟨x9, rfl⟩
              have hb9 : Below w.heap.size w x9.at_ := hb5.trans (x9.below.mono (Nat.le_trans hwB hw5s))
              have hS9 := StkAt.after hR5 x9.below
              have hw9 := hb9.size
              generalize x9.at_ = w9 at *
              clear LD L0 L1 L2 HDo hR5 hb5 t0 t1 t2
              go_wp2
              all_goals (go_ret2; rw [HX.out]; exact ⟨rfl, hb9⟩)
      · have hkN : k = N := by omega
        have HF : Hid (runP val ops [] = (st, 0)) := Lib.hid (by rw [HRR.out, ← HD.out, List.drop_of_length_le (by rw [HNN.out]; omega)]; rfl)
        have dk : decide ((k : Int) < (N : Int)) = false := decide_eq_false (by omega)
        by_cases h1 : st.length = 1
        · obtain ⟨x, rfl⟩ : ∃ x, st = [x] := by
            match st, h1 with
            | [x], _ => exact ⟨x, rfl⟩
          have hsf := hS.form
          rcases hsf with ⟨_, hz⟩ | ⟨g, cp, rfl, hcp, hcm⟩
          · cases hz
          have e1 := stk_cell hS (j := 0) (x := x) rfl
          have HX : Hid (E = (x, 0)) := Lib.hid (by rw [← HE.out, eval_of HF.out])
          clear HF HE HRR HD HNN hS
          simp only [List.length_singleton] at *
          go_wp2
          go_ret2
          rw [HX.out]
          exact ⟨rfl, hb⟩
        · have HX : Hid (E = (0, 6)) := Lib.hid (by rw [← HE.out, eval_end HF.out h1])
          obtain ⟨a1, c1', rfl⟩ := hS.form2
          have d1 : ((st.length : Int) == 1) = false := by rw [beq_eq_false_iff_ne]; omega
          clear HF HE HRR HD HNN hS
          go_wp2
          go_ret2
          rw [HX.out]
          exact ⟨rfl, hb⟩
end Go.Proofs.Ytekpopopibhjbaa
