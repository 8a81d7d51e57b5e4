/-
  Package arith's reader in memory (RdAt), a step put behind its steps; the contract of its sign.
-/
import Derived.Test.YtekpopopibhjbaaArParse
import Derived.Test.YtekpopopibhjbaaPmRow
import Derived.Test.YtekpopopibhjbaaText
import Derived.Test.YtekpopopibhjbaaBits
namespace Go.Proofs.Ytekpopopibhjbaa
open Go.RowKit

def opCells (o : AOp) : List Value := [.int .i64 (o.kind : Int), .int .i64 o.n, strV o.name]
def opsCells (l : List AOp) : List Value := l.flatMap opCells
theorem opsCells_snoc (l : List AOp) (o : AOp) : opsCells (l ++ [o]) = opsCells l ++ opCells o := by simp [opsCells, List.flatMap_append]
theorem opsCells_len : ∀ l : List AOp, (opsCells l).length = l.length * 3
  | [] => rfl
  | o :: l => by
    show (opCells o ++ opsCells l).length = _
    rw [List.length_append, opsCells_len l, List.length_cons]
    show 3 + _ = _
    omega

/-- the reader in block g, its steps in a block of their own behind it -/
structure RdAt (w : World) (g : Nat) (s : ByteArray) (i : Nat) (ops : List AOp) (v : Value) : Prop where
  blk : BlkAt w g #[.string s, .int .i64 (i : Int), v] 42
  row : w.ownsRow (g + 1) 46 3 v ops.length (opsCells ops)

section
variable {w w' : World} {g i : Nat} {s : ByteArray} {ops : List AOp} {v : Value}
theorem RdAt.lt (h : RdAt w g s i ops v) : g < w.heap.size := h.blk.lt
theorem RdAt.drew (h : RdAt w g s i ops v) : RdAt w.drew g s i ops v := ⟨h.blk, h.row⟩
theorem RdAt.drewN (h : RdAt w g s i ops v) (n : Nat) : RdAt (w.drewN n) g s i ops v := ⟨h.blk, h.row⟩
theorem own_farR {base n : Nat} {e : TypeId} {size : Nat} {x : Value} {xs : List Value} {o b : Nat} (h : w.ownsRow base e size x n xs) (hb : b < base) (u : Value) : (w.setCell ⟨b, o, none⟩ u).ownsRow base e size x n xs := ownsRow_setCell_below h (a := ⟨b, o, none⟩) hb u
theorem RdAt.go (h : RdAt w g s i ops v) (j : Nat) : RdAt (w.setCell ⟨g, 1, none⟩ (.int .i64 (j : Int))) g s j ops v := ⟨h.blk.set 1 _, own_farR h.row (by omega) _⟩
theorem info_op : (Try.prog.info? 46).map (fun i => (i.zero, i.size, i.bytes)) = some (some (.agg #[.int .i64 0, .int .i64 0, .string ByteArray.empty]), 3, 32) := by kernel_rfl
/-- what stands behind a step put at the end -/
structure Pushed (w : World) (g : Nat) (s : ByteArray) (i : Nat) (ops : List AOp) (v : Value) (o : AOp) (v' : Value) (w2 : World) : Prop where
  run : (Builtin.append_ #[23, 23] 23 #[v, .slice (some ⟨w.heap.size, 0, none⟩) 1 1]).run Try.prog (w.alloc (.cells (opCells o).toArray 46)) = .ok v' w2
  old : BlkAt w2 g #[.string s, .int .i64 (i : Int), v] 42
  rd : RdAt (w2.setCell ⟨g, 2, none⟩ v') g s i (ops ++ [o]) v'
  bel : Below g w (w2.setCell ⟨g, 2, none⟩ v')
theorem RdAt.push (h : RdAt w g s i ops v) (o : AOp) (hl : ops.length ≤ 1000000) : ∃ g1 cap w2, Pushed w g s i ops v o (.slice (some ⟨g1, 0, none⟩) (ops.length + 1) cap) w2 := by
  obtain ⟨i0, hi, hz0, hz1, hz2⟩ := info_parts info_op
  have hg := h.lt
  have hrow := h.row.alloc (.cells (opCells o).toArray 46)
  have hblk := h.blk.alloc (.cells (opCells o).toArray 46)
  have hrl := h.row.lt
  obtain ⟨v', w2, h1, h2, h3, _⟩ := run_append_own (P := Try.prog) (w.alloc (.cells (opCells o).toArray 46)) (g + 1) 23 23 46 i0 _ 3 32 Try.underlying23 hi hz0 hz1 hz2 rfl (by decide) v _ _ hrow ⟨w.heap.size, 0, none⟩ 1 1 (opCells o) (by rfl) (fun j u hj => by
      match j, hj with
      | 0, hj => simp [opCells] at hj; subst hj; simp [Addr.add, opCells]
      | 1, hj => simp [opCells] at hj; subst hj; simp [Addr.add, opCells]
      | 2, hj => simp [opCells] at hj; subst hj; simp [Addr.add, opCells]) (fun u hu => by
      simp only [opCells, List.mem_cons, List.not_mem_nil, or_false] at hu
      rcases hu with rfl | rfl | rfl <;> rfl) (by unfold maxLen; omega) (by omega) (by simp; omega)
  have hne : some g ≠ v.ownBlock := fun e => by have := (hrl _ e.symm).1; omega
  have hb2 : BlkAt w2 g #[.string s, .int .i64 (i : Int), v] 42 := (h3.block g (by simp; omega) hne).trans hblk
  have hf : ∃ g1 cap, v' = .slice (some ⟨g1, 0, none⟩) (ops.length + 1) cap := by
    rcases h2.2 with ⟨_, h0⟩ | ⟨g1, cap, cur, hv, _⟩
    · omega
    · exact ⟨g1, cap, hv⟩
  obtain ⟨g1, cap, rfl⟩ := hf
  refine ⟨g1, cap, w2, h1, hb2, ⟨hb2.set 2 _, ?_⟩, ?_⟩
  · rw [List.length_append, opsCells_snoc]
    exact own_farR h2 (by omega) _
  · have hb : Below g w w2 := (((Below.refl g w).alloc (by omega) _).grown h3 (by simp; omega) (fun k hk => by have := (hrl k hk).1; omega))
    exact hb.setCell (p := ⟨g, 2, none⟩) (Nat.le_refl _) _
end

theorem bytes_str {s : ByteArray} {l : List UInt8} (h : s.data.toList = l) : Value.string s = strV l := by subst h; rfl
theorem ext_bytes (s : ByteArray) (i n : Nat) : (s.extract i (i + n)).data.toList = (s.data.toList.drop i).take n := by
  rw [extract_bytes, Nat.add_sub_cancel_left]
theorem blank_at (s : ByteArray) (k : Nat) (h : k < s.size) (hc : blankB s[k] = true) : skipB s.data.toList k = skipB s.data.toList (k + 1) := skip_yes (drop_cons s k h) hc
theorem blank_no (s : ByteArray) (k : Nat) (h : k < s.size) (hc : blankB s[k] = false) : skipB s.data.toList k = k := skip_no (drop_cons s k h) hc
/-- the sign of at most m bytes, the longest -/
def signM (l : List UInt8) (i : Nat) : Nat → List UInt8
  | 0 => []
  | m + 1 => if isSignB ((l.drop i).take (m + 1)) then (l.drop i).take (m + 1) else signM l i m
theorem signM_two (l : List UInt8) (i : Nat) : signAt l i = signM l i 2 := rfl
theorem signM_one {l : List UInt8} {i : Nat} (h : l.length ≤ i + 1) : signAt l i = signM l i 1 := by
  rw [signM_two]
  show (if isSignB ((l.drop i).take 2) then (l.drop i).take 2 else signM l i 1) = _
  have h2 : (l.drop i).take 2 = (l.drop i).take 1 := by
    rw [List.take_of_length_le (by simp; omega), List.take_of_length_le (by simp; omega)]
  rw [h2]
  show (if isSignB ((l.drop i).take 1) then (l.drop i).take 1 else (if isSignB ((l.drop i).take 1) then (l.drop i).take 1 else [])) = (if isSignB ((l.drop i).take 1) then (l.drop i).take 1 else [])
  split <;> rfl
theorem signM_nil {l : List UInt8} {i : Nat} (h : l.length ≤ i) : signAt l i = [] := by
  unfold signAt
  rw [List.drop_of_length_le h]
  rfl
theorem signM_min (s : ByteArray) (i m : Nat) (hm : m = min 2 (s.size - i)) : signAt s.data.toList i = signM s.data.toList i m := by
  have hl : s.data.toList.length = s.size := by simp
  by_cases h2 : s.size - i = 0
  · rw [hm, h2, signM_nil (by omega)]; rfl
  · by_cases h3 : s.size - i = 1
    · rw [hm, h3, signM_one (by omega)]; rfl
    · rw [hm, show min 2 (s.size - i) = 2 by omega, signM_two]
theorem belN {B : Nat} {a b : World} (h : Below B a b) (n : Nat) : Below B a (b.drewN n) := ⟨h.os, h.tape, h.output, h.size, h.block⟩
theorem isBlank_q (c : UInt8) (w : World) (n : Nat) : Calls Try.prog 32 #[.int .u8 (c.toNat : Int)] (w.drewN n) fun e w' => e = .returned (.bool (blankB c)) ∧ ∃ m, w' = w.drewN m :=
  (isBlank_is c _).mono fun _ _ ⟨h1, h2⟩ => ⟨h1, n, h2.symm⟩
theorem isSign_q (s : ByteArray) (w : World) : Calls Try.prog 33 #[.string s] w fun e w' => e = .returned (.bool (isSignB s.data.toList)) ∧ w' = w :=
  (isSign_is s w).mono fun _ _ ⟨h1, h2⟩ => ⟨h1, h2.symm⟩
/-- where the reader stands, by its cell -/
def atOf (w : World) (g : Nat) : Nat := (intOf ((w.cell? ⟨g, 1, none⟩).getD undef)).toNat
theorem RdAt.atOf {w : World} {g i : Nat} {s : ByteArray} {ops : List AOp} {v : Value} (h : RdAt w g s i ops v) : atOf w g = i := by
  unfold Go.Proofs.Ytekpopopibhjbaa.atOf
  rw [h.blk.cell 1 (v := .int .i64 (i : Int)) rfl]
  simp [intOf]

set_option maxHeartbeats 2000000 in
set_option maxRecDepth 100000 in
theorem sign_is (g : Nat) (s : ByteArray) (i : Nat) (ops : List AOp) (v : Value) (w : World) (hs : s.size ≤ 1048576) (hi : i ≤ s.size) (h : RdAt w g s i ops v) :
    Calls Try.prog 24 #[.pointer (some ⟨g, 0, none⟩)] w fun e w' => e = .returned (strV (signAt s.data.toList (skipB s.data.toList i))) ∧ RdAt w' g s (skipB s.data.toList i) ops v ∧ Below g w w' := by
  obtain ⟨J, hJ⟩ : ∃ J, skipB s.data.toList i = J := ⟨_, rfl⟩
  rw [hJ]
  have HJ := Lib.hid hJ
  have hJs : J ≤ s.size := by have := (skip_le (l := s.data.toList) (i := i) (by simpa using hi)).2; rw [hJ] at this; simpa using this
  clear hJ
  have hb := Below.refl g w
  go_enter Try.func24, Try.ntmps24
  go_wp2
  go_loopw [26] (fun _ wr => ∃ k : Nat, k ≤ J ∧ RdAt wr g s k ops v ∧ Below g w wr ∧ Hid (skipB s.data.toList k = J)) (fun _ wr => J - atOf wr g)
  case atStart => exact ⟨i, by have := (skip_le (l := s.data.toList) (i := i) (by simpa using hi)).1; rw [HJ.out] at this; exact this, h, hb, HJ⟩
  case round =>
    clear h hb HJ
    obtain ⟨k, hk, h, hb, HK⟩ := hrel
    have c0 := h.blk.cell 0 (v := .string s) rfl
    have c1 := h.blk.cell 1 (v := .int .i64 (k : Int)) rfl
    have f1 := h.blk.frozen 1
    by_cases hlt : k < s.size
    · have hx1 : (s[k].toNat : Int) < 256 := by have := s[k].toNat_lt; omega
      have hx0 : (0 : Int) ≤ (s[k].toNat : Int) := by omega
      have H1 : Hid (blankB s[k] = true → skipB s.data.toList (k + 1) = J ∧ k + 1 ≤ J) := Lib.hid fun hc => by
        have e := blank_at s k hlt hc
        have := (skip_le (l := s.data.toList) (i := k + 1) (by simp; omega)).1
        rw [← e, HK.out] at *
        exact ⟨rfl, this⟩
      have H0 : Hid (blankB s[k] = false → k = J) := Lib.hid fun hc => by rw [← HK.out, blank_no s k hlt hc]
      have HB := Lib.hid (isBlank_q s[k])
      clear HK
      generalize blankB s[k] = z at *
      cases z with
      | true =>
        obtain ⟨hq, hk1⟩ := H1.out rfl
        have HQ := Lib.hid hq
        clear H1 H0 hq
        go_wp2
        go_quiet ((go_at_call 32; exact HB.out _ _))
        go_wp2
        go_roundw
        case rel => exact ⟨k + 1, hk1, (h.drewN _).go (k + 1), (belN hb _).setCell (p := ⟨g, 1, none⟩) (Nat.le_refl _) _, HQ⟩
        case measure => exact Nat.lt_of_le_of_lt (Nat.le_of_eq (congrArg (J - ·) (RdAt.atOf ((h.drewN _).go (k + 1))))) (by rw [h.atOf]; omega)
      | false =>
        have hkJ := H0.out rfl
        subst hkJ
        clear H1 H0
        go_wp2
        go_quiet ((go_at_call 32; exact HB.out _ _))
        go_wp2
        have hmin : min (2 : Int) ((s.size : Int) - (k : Int)) = ((min 2 (s.size - k) : Nat) : Int) := by omega
        have HM := Lib.hid (signM_min s k _ rfl)
        have hm2 : min 2 (s.size - k) ≤ 2 := by omega
        have hm3 : k + min 2 (s.size - k) ≤ s.size := by omega
        generalize min 2 (s.size - k) = m at *
        have HSg := Lib.hid isSign_q
        go_quiet (fail)
        go_wp2
        go_loopw [3] (fun x wx => ∃ q : Nat, q ≤ 2 ∧ k + q ≤ s.size ∧ x = .int .i64 (q : Int) ∧ RdAt wx g s k ops v ∧ Below g w wx ∧ Hid (signAt s.data.toList k = signM s.data.toList k q)) (fun x _ => (intOf x).toNat)
        case atStart => exact ⟨m, hm2, hm3, rfl, (h.drewN _).drewN _, belN (belN hb _) _, HM⟩
        case round =>
          clear h hb HM c0 c1 f1 hm2 hm3 hmin
          obtain ⟨q, hq2, hq3, rfl, h, hb, HQ⟩ := hrel
          cases q with
          | zero =>
            go_wp2
            go_ret
            exact ⟨congrArg Ending.returned (by rw [HQ.out]; rfl), h, hb⟩
          | succ q =>
            have c0 := h.blk.cell 0 (v := .string s) rfl
            have c1 := h.blk.cell 1 (v := .int .i64 (k : Int)) rfl
            have hq0 : (0 : Int) < ((q + 1 : Nat) : Int) := by omega
            obtain ⟨n, hn⟩ : ∃ n, q + 1 = n := ⟨_, rfl⟩
            have HN := Lib.hid hn
            have HE : Hid ((s.extract k (k + n)).data.toList = (s.data.toList.drop k).take n) := Lib.hid (ext_bytes s k n)
            have HQ2 : Hid (signAt s.data.toList k = if isSignB ((s.data.toList.drop k).take n) then (s.data.toList.drop k).take n else signM s.data.toList k q) := Lib.hid (by rw [HQ.out, ← hn]; rfl)
            clear HQ
            rw [hn] at hq0 hq2 hq3 ⊢
            have hn1 : (n : Int) - 1 = (q : Int) := by omega
            have hk0 : (0 : Int) ≤ (k : Int) := by omega
            have hkn : (k : Int) ≤ (k : Int) + (n : Int) := by omega
            have hks : (k : Int) + (n : Int) ≤ (s.size : Int) := by omega
            clear hn
            obtain ⟨T, hT⟩ : ∃ T, s.extract k (k + n) = T := ⟨_, rfl⟩
            rw [hT] at HE
            have HT := Lib.hid hT
            clear hT
            have HS := Lib.hid (isSign_q T)
            rw [HE.out] at HS
            cases hz : isSignB ((s.data.toList.drop k).take n) with
            | true =>
              rw [hz] at HS
              have HR : Hid (T.data.toList = signAt s.data.toList k) := Lib.hid (by rw [HQ2.out, hz, if_pos rfl]; exact HE.out)
              clear HE HQ2 hz
              go_wp2
              go_quiet (fail)
              go_wp2_with fail
              rw [HT.out]
              refine (HS.out _).mono ?_
              rintro e w1 ⟨rfl, rfl⟩
              go_wp2
              go_ret
              exact ⟨congrArg Ending.returned (bytes_str HR.out), h.drewN _, belN hb _⟩
            | false =>
              rw [hz] at HS
              have HR : Hid (signAt s.data.toList k = signM s.data.toList k q) := Lib.hid (by rw [HQ2.out, hz]; rfl)
              clear HE HQ2 hz
              go_wp2
              go_quiet (fail)
              go_wp2_with fail
              rw [HT.out]
              refine (HS.out _).mono ?_
              rintro e w1 ⟨rfl, rfl⟩
              go_wp2
              go_roundw
              case rel => exact ⟨q, by omega, by omega, by first | rfl | (rw [hn1]), h.drewN _, belN hb _, HR⟩
              case measure => simp [intOf]; have := HN.out; omega
    · have hkJ : k = J := by have := (skip_end (l := s.data.toList) (i := k) (by simp; omega)); rw [← HK.out, this]
      subst hkJ
      clear HK
      go_wp2
      go_quiet (fail)
      go_wp2
      have hmin : min (2 : Int) ((s.size : Int) - (k : Int)) = ((min 2 (s.size - k) : Nat) : Int) := by omega
      have HM := Lib.hid (signM_min s k _ rfl)
      have hm2 : min 2 (s.size - k) ≤ 2 := by omega
      have hm3 : k + min 2 (s.size - k) ≤ s.size := by omega
      generalize min 2 (s.size - k) = m at *
      have HSg := Lib.hid isSign_q
      go_quiet (fail)
      go_wp2
      go_loopw [3] (fun x wx => ∃ q : Nat, q ≤ 2 ∧ k + q ≤ s.size ∧ x = .int .i64 (q : Int) ∧ RdAt wx g s k ops v ∧ Below g w wx ∧ Hid (signAt s.data.toList k = signM s.data.toList k q)) (fun x _ => (intOf x).toNat)
      case atStart => exact ⟨m, hm2, hm3, rfl, (h.drewN _).drewN _, belN (belN hb _) _, HM⟩
      case round =>
        clear h hb HM c0 c1 f1 hm2 hm3 hmin
        obtain ⟨q, hq2, hq3, rfl, h, hb, HQ⟩ := hrel
        cases q with
        | zero =>
          go_wp2
          go_ret
          exact ⟨congrArg Ending.returned (by rw [HQ.out]; rfl), h, hb⟩
        | succ q => exfalso; omega
end Go.Proofs.Ytekpopopibhjbaa
