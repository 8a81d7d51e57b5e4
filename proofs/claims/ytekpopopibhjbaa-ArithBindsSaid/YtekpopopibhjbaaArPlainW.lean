/-
  The contract of package arith's reader.plain: a number or a name.
-/
import Derived.Test.YtekpopopibhjbaaArReader
import Derived.Test.YtekpopopibhjbaaSeq
namespace Go.Proofs.Ytekpopopibhjbaa
open Go.RowKit

/-- an append whose run is known -/
theorem wp_append_run {P : Program} {w : World} {o : Oper} {a : Act} {K : Act → World → Prop} {Q : Exit → Act → World → Prop} (s x : Operand) (t : TypeId)
    (ho : o.op = .call { callee := .builtin .append, args := #[s, x], argTypes := #[t, t] }) (v xv v' : Value) (w' : World) (hs : a.eval s = v) (hx : a.eval x = xv)
    (hr : (Builtin.append_ #[t, t] o.type #[v, xv]).run P w = .ok v' w') (h : K (a.put o.dst v') w') : o.wp P a w K Q := by
  unfold Oper.wp execOp
  simp only [ho, resolve, invoke, builtin, Sem.run_bind, Sem.run_pure, Result.andThen_ok, List.map_toArray, List.map_cons, List.map_nil, hs, hx, hr]
  exact h
theorem wpList_append_run {P : Program} {ops : Array Oper} {rest : List Oper} {o : Oper} {a : Act} {w : World} {Q : Exit → Act → World → Prop} (hw : Region.wanted o (yielded ops a.tmps) = true) (s x : Operand) (t : TypeId)
    (ho : o.op = .call { callee := .builtin .append, args := #[s, x], argTypes := #[t, t] }) (v xv v' : Value) (w' : World) (hs : a.eval s = v) (hx : a.eval x = xv)
    (hr : (Builtin.append_ #[t, t] o.type #[v, xv]).run P w = .ok v' w') (h : wpList P ops Q rest (a.put o.dst v') w') : wpList P ops Q (o :: rest) a w := by
  simp only [wpList, hw, if_true]
  exact .inl (wp_append_run s x t ho v xv v' w' hs hx hr h)
theorem NameLen_q (s : ByteArray) (a : Int) (hs : s.size ≤ maxLen) (w : World) (n : Nat) : Calls Try.prog 39 #[.string s, .int .i64 a] (w.drewN n) fun e w' => e = .returned (.int .i64 (nlen s.data.toList a)) ∧ ∃ m, w' = w.drewN m :=
  (NameLen_any s a _ hs).mono fun _ _ ⟨h1, h2⟩ => ⟨h1, n, h2.symm⟩
theorem Number_q (s : ByteArray) (hs : s.size ≤ maxLen) (w : World) (n : Nat) : Calls Try.prog 38 #[.string s] (w.drewN n) fun e w' => e = .returned (.tuple #[.int .i64 ((numB s.data.toList).getD 0), .bool (numB s.data.toList).isSome]) ∧ ∃ m, w' = w.drewN m :=
  (Number_any s _ hs).mono fun _ _ ⟨h1, h2⟩ => ⟨h1, n, h2.symm⟩
theorem wrapI (n : Int) (h : -9223372036854775808 ≤ n ∧ n ≤ 9223372036854775807) : IntKind.i64.wrap n = n := IntWalk.i64_in _ h
theorem digs_yes {l r : List UInt8} {i : Nat} {c : UInt8} (h : l.drop i = c :: r) (hc : digB c.toNat = true) : digs l i = 1 + digs l (i + 1) := by
  have h2 : l.drop (i + 1) = r := by rw [← List.drop_drop, h]; rfl
  unfold digs
  rw [h, h2, List.takeWhile_cons, if_pos hc, List.length_cons]
  omega
theorem digs_no {l r : List UInt8} {i : Nat} {c : UInt8} (h : l.drop i = c :: r) (hc : digB c.toNat = false) : digs l i = 0 := by
  unfold digs
  rw [h, List.takeWhile_cons, hc]
  simp
theorem digs_end {l : List UInt8} {i : Nat} (h : l.length ≤ i) : digs l i = 0 := by
  unfold digs
  rw [List.drop_of_length_le h]
  rfl
def PlainLeft (g : Nat) (s : ByteArray) (w : World) (r : RRes) (e : Ending) (w' : World) : Prop :=
  ∃ v', e = .returned (.int .i64 (r.2.2 : Int)) ∧ RdAt w' g s r.1 r.2.1 v' ∧ Below g w w'

set_option maxHeartbeats 4000000 in
set_option maxRecDepth 100000 in
theorem plain_is (g : Nat) (s : ByteArray) (i : Nat) (ops : List AOp) (v : Value) (w : World) (hs : s.size ≤ 1048576) (hi : i ≤ s.size) (hl : ops.length ≤ 1000000) (h : RdAt w g s i ops v) :
    Calls Try.prog 30 #[.pointer (some ⟨g, 0, none⟩)] w (PlainLeft g s w (plainP s.data.toList i ops)) := by
  obtain ⟨R, hR⟩ : ∃ R, plainP s.data.toList i ops = R := ⟨_, rfl⟩
  rw [hR]
  have HR := Lib.hid hR
  clear hR
  have hb := Below.refl g w
  have hnl := nlen_le (l := s.data.toList) (i := i) (by simpa using hi)
  have HN := Lib.hid (NameLen_q s (i : Int) (by unfold maxLen; omega))
  obtain ⟨N, hN⟩ : ∃ N : Nat, nlen s.data.toList i = (N : Int) := ⟨(nlen s.data.toList i).toNat, by omega⟩
  rw [hN] at HN hnl
  have hNs : i + N ≤ s.size := by have := hnl.2; simpa using this
  clear hnl
  have c0 := h.blk.cell 0 (v := .string s) rfl
  have c1 := h.blk.cell 1 (v := .int .i64 (i : Int)) rfl
  by_cases hp : 0 < N
  · have HR2 : Hid (R = (i + N, ops ++ [nameO ((s.data.toList.drop i).take N)], 0)) := Lib.hid (by
      rw [← HR.out]
      unfold plainP
      rw [hN, if_pos (by omega), Int.toNat_natCast])
    have hp0 : (0 : Int) < (N : Int) := by omega
    have hi0 : (0 : Int) ≤ (i : Int) := by omega
    have hiN : (i : Int) ≤ (i : Int) + (N : Int) := by omega
    have his : (i : Int) + (N : Int) ≤ (s.size : Int) := by omega
    have hwr : IntKind.i64.wrap ((i : Int) + (N : Int)) = (i : Int) + (N : Int) := wrapI _ (by omega)
    clear HR hN
    go_enter Try.func30, Try.ntmps30
    go_wp2
    go_quiet ((go_at_call 39; exact HN.out _ _))
    have h2 := h.drewN nq
    have hb2 := belN hb nq
    generalize w.drewN nq = w1 at *
    clear c0 c1 HN
    have c0 := h2.blk.cell 0 (v := .string s) rfl
    have c1 := h2.blk.cell 1 (v := .int .i64 (i : Int)) rfl
    have c2 := h2.blk.cell 2 (v := v) rfl
    obtain ⟨g1, cp, w2, HP⟩ := h2.drew.push (nameO ((s.data.toList.drop i).take N)) hl
    have p0 := HP.old.cell 0 (v := .string s) rfl
    have p1 := HP.old.cell 1 (v := .int .i64 (i : Int)) rfl
    have p2 := HP.old.cell 2 (v := v) rfl
    have p3 := HP.old.frozen 2
    have hrd := HP.rd
    have hbl := HP.bel
    have hrun := HP.run
    have hsV : strV ((s.data.toList.drop i).take N) = .string (s.extract i (i + N)) := (bytes_str (ext_bytes s i N)).symm
    simp only [opCells, nameO, hsV] at hrun
    have HRun := Lib.hid hrun
    have q0 := hrd.blk.cell 0 (v := .string s) rfl
    have q1 := hrd.blk.cell 1 (v := .int .i64 (i : Int)) rfl
    have HO := Lib.hid HP.old
    clear HP hsV hrun c0 c1 c2
    go_wp2
    refine region_seq 21 25 (fun x => BlkAt x g #[.string s, .int .i64 (i : Int), v] 42) ?A1 (by kernel_rfl) (by kernel_rfl) (by kernel_rfl) (by kernel_rfl) (by kernel_rfl) (by decide) (by decide) (by kernel_rfl) ?hQ1 ?S1 ?head1 ?tail1
    case hQ1 =>
      intro c a d v w1 h
      cases d <;> exact h
    case S1 => exact h2.blk.drew
    case head1 =>
      intro x hx
      have c0 := hx.cell 0 (v := .string s) rfl
      have c1 := hx.cell 1 (v := .int .i64 (i : Int)) rfl
      have c2 := hx.cell 2 (v := v) rfl
      simp only [List.take_succ_cons, List.take_zero]
      repeat (go_big_quiet_step (fail))
      refine wpQuiet_nil ?_
      rfl
    case tail1 =>
      change wpHeadS _ _ _ _ _ _ _ (3 + 1) _ _ _
      refine wpHeadS_one (k := 21) (by kernel_rfl) (by decide) (wpOp_plain rfl rfl ?_)
      go_simp
      refine ⟨h2.blk.drew.alloc _, ?_⟩
      refine wpHeadS_one (k := 22) (by kernel_rfl) (by decide) (wpOp_plain rfl rfl (wp_append_run _ _ _ rfl _ _ _ _ rfl rfl HRun.out ⟨HO.out, ?_⟩))
      refine wpHeadS_one (k := 23) (by kernel_rfl) (by decide) (wpOp_plain rfl rfl ?_)
      go_simp
      refine ⟨HO.out, ?_⟩
      refine wpHeadS_one (k := 24) (by kernel_rfl) (by decide) (wpOp_plain rfl rfl ?_)
      go_simp
      refine ⟨HO.out, ?_⟩
      refine ⟨by kernel_rfl, ?_⟩
      simp only [List.drop_succ_cons, List.drop_zero]
      have q0 := hrd.blk.cell 0 (v := .string s) rfl
      have q1 := hrd.blk.cell 1 (v := .int .i64 (i : Int)) rfl
      have q2 := hrd.blk.frozen 1
      go_wp2
      go_ret
      rw [HR2.out]
      exact ⟨_, rfl, hrd.go (i + N), (hb2.drew.trans hbl).setCell (p := ⟨g, 1, none⟩) (Nat.le_refl _) _⟩

  · have hz : N = 0 := by omega
    subst hz
    have HN0 : Hid (nlen s.data.toList i = 0) := Lib.hid hN
    have hp0 : decide ((0 : Int) < 0) = false := rfl
    clear hN hp hNs
    go_enter Try.func30, Try.ntmps30
    go_wp2
    go_quiet ((go_at_call 39; exact HN.out _ _))
    have h2 := h.drewN nq
    have hb2 := belN hb nq
    generalize w.drewN nq = w1 at *
    clear c0 c1 HN h hb
    have c0 := h2.blk.cell 0 (v := .string s) rfl
    have c1 := h2.blk.cell 1 (v := .int .i64 (i : Int)) rfl
    go_wp2
    go_loopw [4] (fun x wr => ∃ K : Nat, i ≤ K ∧ K ≤ s.size ∧ x = .int .i64 (K : Int) ∧ RdAt wr g s i ops v ∧ Below g w wr ∧ Hid (i + digs s.data.toList i = K + digs s.data.toList K)) (fun x _ => s.size - (intOf x).toNat)
    case atStart => exact ⟨i, Nat.le_refl _, hi, rfl, h2, hb2, Lib.hid rfl⟩
    case round =>
      clear h2 hb2 c0 c1
      obtain ⟨K, hiK, hKs, rfl, h, hb, HD⟩ := hrel
      have c0 := h.blk.cell 0 (v := .string s) rfl
      have c1 := h.blk.cell 1 (v := .int .i64 (i : Int)) rfl
      by_cases hlt : K < s.size
      · have hx1 : (s[K].toNat : Int) < 256 := by have := s[K].toNat_lt; omega
        have hx0 : (0 : Int) ≤ (s[K].toNat : Int) := by omega
        have hk0 : (0 : Int) ≤ (K : Int) := by omega
        have hk1 : (K : Int) < (s.size : Int) := by omega
        have H1 : Hid (digB s[K].toNat = true → i + digs s.data.toList i = (K + 1) + digs s.data.toList (K + 1)) := Lib.hid fun hc => by rw [HD.out, digs_yes (drop_cons s K hlt) hc]; omega
        have H0 : Hid (digB s[K].toNat = false → i + digs s.data.toList i = K) := Lib.hid fun hc => by rw [HD.out, digs_no (drop_cons s K hlt) hc]; rfl
        clear HD
        by_cases h48 : (48 : Int) ≤ (s[K].toNat : Int)
        · have d48 : decide ((48 : Int) ≤ (s[K].toNat : Int)) = true := decide_eq_true h48
          by_cases h57 : (s[K].toNat : Int) ≤ 57
          · have d57 : decide ((s[K].toNat : Int) ≤ 57) = true := decide_eq_true h57
            have HQ := Lib.hid (H1.out (digB_mk ⟨h48, h57⟩))
            clear H1 H0
            go_wp2
            go_roundw
            case rel => exact ⟨K + 1, by omega, by omega, by go_num, h, hb, HQ⟩
            case measure => simp [intOf]; omega
          · have d57 : decide ((s[K].toNat : Int) ≤ 57) = false := decide_eq_false h57
            have HD := Lib.hid (H0.out (by simp [digB, h57]))
            clear H1 H0
            obtain ⟨T, hT⟩ : ∃ T, s.extract i K = T := ⟨_, rfl⟩
            have HTd : Hid (T.data.toList = (s.data.toList.drop i).take (digs s.data.toList i)) := Lib.hid (by rw [← hT, extract_bytes, show K - i = digs s.data.toList i by have := HD.out; omega])
            have hTs : T.size ≤ maxLen := by
              have : T.data.toList.length ≤ s.size := by rw [HTd.out]; simp; omega
              unfold maxLen
              simp at this
              omega
            have HT := Lib.hid hT
            have HNu := Lib.hid (Number_q T hTs)
            have hK0 : (0 : Int) ≤ (i : Int) := by omega
            have hK1 : (i : Int) ≤ (K : Int) := by omega
            have hK2 : (K : Int) ≤ (s.size : Int) := by omega
            clear hT hTs
            cases ho : numB T.data.toList with
            | none =>
              rw [ho] at HNu
              have HRn : Hid (R = (i, ops, 6)) := Lib.hid (by rw [← HR.out]; unfold plainP; rw [if_neg (by have := HN0.out; omega), ← HTd.out, ho])
              clear ho HTd HR HD
              simp only [Option.getD_none, Option.isSome_none] at HNu
              go_wp2
              go_quiet ((go_at_call 38; rw [HT.out]; exact HNu.out _ _))
              go_wp2
              go_ret
              rw [HRn.out]
              exact ⟨_, rfl, h.drewN _, belN hb _⟩
            | some n =>
              rw [ho] at HNu
              have HRn : Hid (R = (K, ops ++ [numO n], 0)) := Lib.hid (by rw [← HR.out]; unfold plainP; rw [if_neg (by have := HN0.out; omega), ← HTd.out, ho]; simp only; rw [HD.out])
              clear ho HTd HR HD
              simp only [Option.getD_some, Option.isSome_some] at HNu
              go_wp2
              go_quiet ((go_at_call 38; rw [HT.out]; exact HNu.out _ _))
              have h3 := h.drewN nq
              have hb3 := belN hb nq
              clear h hb c0 c1
              generalize wr.drewN nq = w5 at *
              have c0 := h3.blk.cell 0 (v := .string s) rfl
              have c1 := h3.blk.cell 1 (v := .int .i64 (i : Int)) rfl
              have c2 := h3.blk.cell 2 (v := v) rfl
              obtain ⟨g1, cp, w2, HP⟩ := h3.push (numO n) hl
              have p2 := HP.old.cell 2 (v := v) rfl
              have p3 := HP.old.frozen 2
              have hrd := HP.rd
              have hbl := HP.bel
              have q1 := hrd.blk.cell 1 (v := .int .i64 (i : Int)) rfl
              have q2 := hrd.blk.frozen 1
              have hrun := HP.run
              simp only [opCells, numO] at hrun
              have HRun := Lib.hid hrun
              clear hrun HP
              go_wp2_with (at_builtin; refine wpList_append_run rfl _ _ 23 rfl _ _ _ _ rfl rfl HRun.out ?_)
              go_wp2
              go_ret
              rw [HRn.out]
              exact ⟨_, rfl, hrd.go K, (hb3.trans hbl).setCell (p := ⟨g, 1, none⟩) (Nat.le_refl _) _⟩
        · have d48 : decide ((48 : Int) ≤ (s[K].toNat : Int)) = false := decide_eq_false h48
          have HD := Lib.hid (H0.out (by simp [digB, h48]))
          clear H1 H0
          obtain ⟨T, hT⟩ : ∃ T, s.extract i K = T := ⟨_, rfl⟩
          have HTd : Hid (T.data.toList = (s.data.toList.drop i).take (digs s.data.toList i)) := Lib.hid (by rw [← hT, extract_bytes, show K - i = digs s.data.toList i by have := HD.out; omega])
          have hTs : T.size ≤ maxLen := by
            have : T.data.toList.length ≤ s.size := by rw [HTd.out]; simp; omega
            unfold maxLen
            simp at this
            omega
          have HT := Lib.hid hT
          have HNu := Lib.hid (Number_q T hTs)
          have hK0 : (0 : Int) ≤ (i : Int) := by omega
          have hK1 : (i : Int) ≤ (K : Int) := by omega
          have hK2 : (K : Int) ≤ (s.size : Int) := by omega
          clear hT hTs
          cases ho : numB T.data.toList with
          | none =>
            rw [ho] at HNu
            have HRn : Hid (R = (i, ops, 6)) := Lib.hid (by rw [← HR.out]; unfold plainP; rw [if_neg (by have := HN0.out; omega), ← HTd.out, ho])
            clear ho HTd HR HD
            simp only [Option.getD_none, Option.isSome_none] at HNu
            go_wp2
            go_quiet ((go_at_call 38; rw [HT.out]; exact HNu.out _ _))
            go_wp2
            go_ret
            rw [HRn.out]
            exact ⟨_, rfl, h.drewN _, belN hb _⟩
          | some n =>
            rw [ho] at HNu
            have HRn : Hid (R = (K, ops ++ [numO n], 0)) := Lib.hid (by rw [← HR.out]; unfold plainP; rw [if_neg (by have := HN0.out; omega), ← HTd.out, ho]; simp only; rw [HD.out])
            clear ho HTd HR HD
            simp only [Option.getD_some, Option.isSome_some] at HNu
            go_wp2
            go_quiet ((go_at_call 38; rw [HT.out]; exact HNu.out _ _))
            have h3 := h.drewN nq
            have hb3 := belN hb nq
            clear h hb c0 c1
            generalize wr.drewN nq = w5 at *
            have c0 := h3.blk.cell 0 (v := .string s) rfl
            have c1 := h3.blk.cell 1 (v := .int .i64 (i : Int)) rfl
            have c2 := h3.blk.cell 2 (v := v) rfl
            obtain ⟨g1, cp, w2, HP⟩ := h3.push (numO n) hl
            have p2 := HP.old.cell 2 (v := v) rfl
            have p3 := HP.old.frozen 2
            have hrd := HP.rd
            have hbl := HP.bel
            have q1 := hrd.blk.cell 1 (v := .int .i64 (i : Int)) rfl
            have q2 := hrd.blk.frozen 1
            have hrun := HP.run
            simp only [opCells, numO] at hrun
            have HRun := Lib.hid hrun
            clear hrun HP
            go_wp2_with (at_builtin; refine wpList_append_run rfl _ _ 23 rfl _ _ _ _ rfl rfl HRun.out ?_)
            go_wp2
            go_ret
            rw [HRn.out]
            exact ⟨_, rfl, hrd.go K, (hb3.trans hbl).setCell (p := ⟨g, 1, none⟩) (Nat.le_refl _) _⟩
      · have HDD := HD.out
        rw [digs_end (l := s.data.toList) (i := K) (by simp; omega)] at HDD
        have HD := Lib.hid (show i + digs s.data.toList i = K from HDD)
        clear HDD
        obtain ⟨T, hT⟩ : ∃ T, s.extract i K = T := ⟨_, rfl⟩
        have HTd : Hid (T.data.toList = (s.data.toList.drop i).take (digs s.data.toList i)) := Lib.hid (by rw [← hT, extract_bytes, show K - i = digs s.data.toList i by have := HD.out; omega])
        have hTs : T.size ≤ maxLen := by
          have : T.data.toList.length ≤ s.size := by rw [HTd.out]; simp; omega
          unfold maxLen
          simp at this
          omega
        have HT := Lib.hid hT
        have HNu := Lib.hid (Number_q T hTs)
        have hK0 : (0 : Int) ≤ (i : Int) := by omega
        have hK1 : (i : Int) ≤ (K : Int) := by omega
        have hK2 : (K : Int) ≤ (s.size : Int) := by omega
        clear hT hTs
        cases ho : numB T.data.toList with
        | none =>
          rw [ho] at HNu
          have HRn : Hid (R = (i, ops, 6)) := Lib.hid (by rw [← HR.out]; unfold plainP; rw [if_neg (by have := HN0.out; omega), ← HTd.out, ho])
          clear ho HTd HR HD
          simp only [Option.getD_none, Option.isSome_none] at HNu
          go_wp2
          go_quiet ((go_at_call 38; rw [HT.out]; exact HNu.out _ _))
          go_wp2
          go_ret
          rw [HRn.out]
          exact ⟨_, rfl, h.drewN _, belN hb _⟩
        | some n =>
          rw [ho] at HNu
          have HRn : Hid (R = (K, ops ++ [numO n], 0)) := Lib.hid (by rw [← HR.out]; unfold plainP; rw [if_neg (by have := HN0.out; omega), ← HTd.out, ho]; simp only; rw [HD.out])
          clear ho HTd HR HD
          simp only [Option.getD_some, Option.isSome_some] at HNu
          go_wp2
          go_quiet ((go_at_call 38; rw [HT.out]; exact HNu.out _ _))
          have h3 := h.drewN nq
          have hb3 := belN hb nq
          clear h hb c0 c1
          generalize wr.drewN nq = w5 at *
          have c0 := h3.blk.cell 0 (v := .string s) rfl
          have c1 := h3.blk.cell 1 (v := .int .i64 (i : Int)) rfl
          have c2 := h3.blk.cell 2 (v := v) rfl
          obtain ⟨g1, cp, w2, HP⟩ := h3.push (numO n) hl
          have p2 := HP.old.cell 2 (v := v) rfl
          have p3 := HP.old.frozen 2
          have hrd := HP.rd
          have hbl := HP.bel
          have q1 := hrd.blk.cell 1 (v := .int .i64 (i : Int)) rfl
          have q2 := hrd.blk.frozen 1
          have hrun := HP.run
          simp only [opCells, numO] at hrun
          have HRun := Lib.hid hrun
          clear hrun HP
          go_wp2_with (at_builtin; refine wpList_append_run rfl _ _ 23 rfl _ _ _ _ rfl rfl HRun.out ?_)
          go_wp2
          go_ret
          rw [HRn.out]
          exact ⟨_, rfl, hrd.go K, (hb3.trans hbl).setCell (p := ⟨g, 1, none⟩) (Nat.le_refl _) _⟩
end Go.Proofs.Ytekpopopibhjbaa
