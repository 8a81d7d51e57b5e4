/-
  The contract of conchlaw4.Tame: a shape that is Ok, of one.
-/
import Derived.Test.YtjdhidiocchkeaaRefShape
namespace Go.Proofs.Ytjdhidiocchkeaa
open Go.RowKit

/-- the first k bytes, without byte 0 -/
def stripK (l : List UInt8) (k : Nat) : List UInt8 := (l.take k).filter (fun b => b != 0)

theorem stripK_len (l : List UInt8) (k : Nat) : (stripK l k).length ≤ k := by
  unfold stripK
  refine Nat.le_trans (List.length_filter_le _ _) ?_
  simp; omega
theorem stripK_put (s : ByteArray) (k : Nat) (h : k < s.size) (hz : s[k].toNat ≠ 0) : stripK s.data.toList (k + 1) = stripK s.data.toList k ++ [s[k]] := by
  unfold stripK
  rw [byte_snoc s k h, List.filter_append]
  have : (s[k] != 0) = true := by rw [bne_iff_ne]; exact fun e => hz (by rw [e]; rfl)
  simp [this]
theorem stripK_skip (s : ByteArray) (k : Nat) (h : k < s.size) (hz : s[k].toNat = 0) : stripK s.data.toList (k + 1) = stripK s.data.toList k := by
  unfold stripK
  rw [byte_snoc s k h, List.filter_append]
  have : (s[k] != 0) = false := by rw [bne_eq_false_iff_eq]; exact UInt8.toNat_inj.1 hz
  simp [this]
theorem stripK_end (s : ByteArray) (k : Nat) (h : k = s.size ∧ k ≤ 64 ∨ k = 64) : stripK s.data.toList k = strip s.data.toList := by
  rcases h with ⟨h1, h2⟩ | h
  · unfold stripK strip
    rw [h1, ofS_take_all, List.take_of_length_le (by simp; omega)]
  · subst h; rfl
theorem snoc_bytes (S s : ByteArray) (k : Nat) (h : k < s.size) : (S ++ s.extract k (k + 1)).data.toList = S.data.toList ++ [s[k]] := by
  rw [ByteArray.data_append, Array.toList_append]
  congr 1
  rw [ByteArray.data_extract, Array.toList_extract]
  have hl : k < s.data.toList.length := by simpa using h
  rw [List.extract_eq_take_drop, List.drop_eq_getElem_cons hl]
  simp
  rfl

set_option maxHeartbeats 2000000 in
set_option maxRecDepth 100000 in
theorem Tame_is (x : Sh) (w : World) : Calls Try.prog 16 #[shV x] w (Gives w (shV (tameSh x))) := by
  have hO := refWith_is noS 0 (by decide)
  have hL := Lib.hid (refLess_is x.h (putS noS 0))
  rw [setV_congr (fun c _ => nz_put x.h c)] at hL
  rw [setV_no] at hO
  have HO := Lib.hid hO
  clear hO
  obtain ⟨wA, hwA⟩ : ∃ wA, (w.alloc (.cells #[.bool x.u, .bool x.e, .int .u64 (wd x.h 0 : Nat), .int .u64 (wd x.h 1 : Nat), .int .u64 (wd x.h 2 : Nat), .int .u64 (wd x.h 3 : Nat), .bool x.k, .string x.l] 26)).alloc (.cells #[.bool false, .bool false, .int .u64 0, .int .u64 0, .int .u64 0, .int .u64 0, .bool false, .string ⟨#[]⟩] 26) = wA := ⟨_, rfl⟩
  have hbA : Below w.heap.size w wA := hwA ▸ bel_alloc (bel_alloc (Below.refl _ _) _) _
  have hx : ShAt wA w.heap.size x := hwA ▸ (ShAt.new _ x).alloc _
  have hz : ShAt wA (w.heap.size + 1) zeroSh := hwA ▸ ShAt.zero_at _ _ (by simp)
  have HT : Hid (tameSh x = if x.k then { litSh ⟨(strip x.l.data.toList).toArray⟩ with u := x.u } else ⟨x.u, x.e, nz x.h, false, ⟨#[]⟩⟩) := Lib.hid rfl
  generalize tameSh x = t at *
  simp only [setV, shV] at HO hL ⊢
  go_enter Try.func16, Try.ntmps16
  go_wp2
  clear hwA
  refine region_tail 6 (by kernel_rfl) (by kernel_rfl) ?_
  simp only [List.take_succ_cons, List.take_zero, List.drop_succ_cons, List.drop_zero]
  obtain ⟨L0, L1, L2, L3, L4, L5, L6, L7⟩ := hx.laters
  repeat (go_big_quiet_step (fail))
  go_big_quiet_step (exact later (HO.out _))
  repeat (go_big_quiet_step (fail))
  go_big_quiet_step (exact later (hL.out _))
  repeat (go_big_quiet_step (fail))
  refine wpQuiet_nil ?_
  rintro _ ⟨y, rfl⟩
  clear L0 L1 L2 L3 L4 L5 L6 L7
  have hy := hx.after y.below
  have hq := hz.after y.below
  have hb := bel_step hbA y.below
  generalize y.at_ = W at *
  clear hx hz HO hL
  obtain ⟨c0, c1, c2, c3, c4, c5, c6, c7⟩ := hy.cells
  obtain ⟨f0, f1, f2, f3, f4, f5, f6, f7⟩ := hy.frozens
  have hlt := hq.lt
  go_wp2
  go_loop [3, 4] (fun s i => ∃ (k : Nat) (S : ByteArray), k ≤ x.l.size ∧ k ≤ 64 ∧ S.size ≤ k ∧ s = .string S ∧ i = .int .i64 k ∧ Hid (S.data.toList = stripK x.l.data.toList k)) (fun _ i => 64 - (intOf i).toNat)
  case atStart => exact ⟨0, ⟨#[]⟩, Nat.zero_le _, by decide, by decide, rfl, rfl, Lib.hid rfl⟩
  case round =>
    obtain ⟨k, S, hks, hk64, hSk, rfl, rfl, HS⟩ := hrel
    by_cases hk : k < x.l.size
    · by_cases hk2 : k < 64
      · have hi0 : (0 : Int) ≤ (k : Int) := by omega
        have hi1 : (k : Int) < (x.l.size : Int) := by omega
        by_cases hb0 : x.l[k].toNat = 0
        · have hz2 : ((x.l[k].toNat : Int) == 0) = true := by rw [hb0]; rfl
          have HN : Hid (S.data.toList = stripK x.l.data.toList (k + 1)) := Lib.hid (by rw [stripK_skip x.l k hk hb0]; exact HS.out)
          go_wp2
          go_round
          case rel => exact ⟨k + 1, S, by omega, by omega, by omega, rfl, rfl, HN⟩
          case measure => simp [intOf]; omega
        · have hz2 : ((x.l[k].toNat : Int) == 0) = false := by rw [beq_eq_false_iff_ne]; omega
          have HN : Hid ((S ++ x.l.extract k (k + 1)).data.toList = stripK x.l.data.toList (k + 1)) := Lib.hid (by rw [snoc_bytes S x.l k hk, stripK_put x.l k hk hb0, HS.out])
          have hsz : (S ++ x.l.extract k (k + 1)).size ≤ k + 1 := by
            have h1 := congrArg List.length HN.out
            have h2 := stripK_len x.l.data.toList (k + 1)
            simp at h1 h2
            simp
            omega
          have hsl : ∀ V : World, (Instr.slice 9 (.string x.l) (some (.int .i64 (k : Int))) (some (.int .i64 ((k : Int) + 1))) none).run Try.prog V = .ok (.string (x.l.extract k (k + 1))) V := fun V => by
            have h := run_slice_string (P := Try.prog) V 9 x.l .i64 .i64 (k : Int) ((k : Int) + 1) Try.underlying9 (by omega) (by omega) (by omega)
            rw [show ((k : Int) + 1).toNat = k + 1 by omega, show (k : Int).toNat = k by omega] at h
            exact h
          have hE1 : (x.l.extract k (k + 1)).size ≤ 1 := by simp [ByteArray.size_extract]; omega
          clear hb0
          generalize x.l.extract k (k + 1) = E at *
          go_wp2
          go_round
          case rel => exact ⟨k + 1, _, by omega, by omega, hsz, rfl, rfl, HN⟩
          case measure => simp [intOf]; omega
      · have hk3 : k = 64 := by omega
        have HE : Hid (S = ⟨(strip x.l.data.toList).toArray⟩) := Lib.hid (bytes_eq S _ (by rw [HS.out]; exact stripK_end x.l k (.inr hk3)))
        have hLs := hy.setH (nz x.h)
        have hqs := (((hq.far (a := ⟨w.heap.size, 2, none⟩) (by simp) (.int .u64 (wd (nz x.h) 0 : Nat))).far (a := ⟨w.heap.size, 3, none⟩) (by simp) (.int .u64 (wd (nz x.h) 1 : Nat))).far (a := ⟨w.heap.size, 4, none⟩) (by simp) (.int .u64 (wd (nz x.h) 2 : Nat))).far (a := ⟨w.heap.size, 5, none⟩) (by simp) (.int .u64 (wd (nz x.h) 3 : Nat))
        have hbs := bel_set (bel_set (bel_set (bel_set hb ⟨w.heap.size, 2, none⟩ (by simp) (.int .u64 (wd (nz x.h) 0 : Nat))) ⟨w.heap.size, 3, none⟩ (by simp) (.int .u64 (wd (nz x.h) 1 : Nat))) ⟨w.heap.size, 4, none⟩ (by simp) (.int .u64 (wd (nz x.h) 2 : Nat))) ⟨w.heap.size, 5, none⟩ (by simp) (.int .u64 (wd (nz x.h) 3 : Nat))
        obtain ⟨d0, d1, d2, d3, d4, d5, d6, d7⟩ := hq.cells
        obtain ⟨g0, g1, g2, g3, g4, g5, g6, g7⟩ := hq.frozens
        cases hxk : x.k with
        | false =>
          have ht : t = ⟨x.u, x.e, nz x.h, false, ⟨#[]⟩⟩ := HT.out.trans (by rw [hxk]; rfl)
          subst ht
          clear HE HT
          rw [hxk] at c6
          go_wp2
          refine bodyPost_ret (v := shV ⟨x.u, x.e, nz x.h, false, ⟨#[]⟩⟩) ?_ rfl ⟨rfl, bel_putSh (bel_set hbs ⟨w.heap.size, 7, none⟩ (by simp) (.string ⟨#[]⟩)) (by omega) ⟨x.u, x.e, nz x.h, false, ⟨#[]⟩⟩⟩
          exact results_cell_row rfl _ _ _ _ _ _ _ rfl ((hqs.far (a := ⟨w.heap.size, 7, none⟩) (by simp) (.string ⟨#[]⟩)).put ⟨x.u, x.e, nz x.h, false, ⟨#[]⟩⟩) Try.underlying26 rfl (by kernel_rfl)
        | true =>
          have hR := refLit_is ⟨(strip x.l.data.toList).toArray⟩ (by rw [← HE.out]; omega)
          rw [← HE.out] at hR
          have ht : t = { litSh S with u := x.u } := HT.out.trans (by rw [hxk, HE.out]; rfl)
          subst ht
          generalize litSh S = j at *
          have HR := Lib.hid hR
          clear HE HT hR
          rw [hxk] at c6
          simp only [shV] at HR
          go_wp2_with fail
          refine (HR.out _).mono ?_
          rintro e w2 ⟨rfl, hb2⟩
          have hL2 := hLs.after hb2
          have hq2 := hqs.after hb2
          have hbw := bel_step hbs hb2
          clear c0 c1 c2 c3 c4 c5 c6 c7 f0 f1 f2 f3 f4 f5 f6 f7 d0 d1 d2 d3 d4 d5 d6 d7 g0 g1 g2 g3 g4 g5 g6 g7
          obtain ⟨c0, c1, c2, c3, c4, c5, c6, c7⟩ := hL2.cells
          obtain ⟨f0, f1, f2, f3, f4, f5, f6, f7⟩ := hL2.frozens
          obtain ⟨d0, d1, d2, d3, d4, d5, d6, d7⟩ := hq2.cells
          obtain ⟨g0, g1, g2, g3, g4, g5, g6, g7⟩ := hq2.frozens
          clear hb2 hb hbs hLs hqs hq hy
          go_wp2
          have hqq := (hq2.putFar (c := w.heap.size) (by omega) j).far (a := ⟨w.heap.size, 0, none⟩) (by simp) (.bool x.u)
          refine bodyPost_ret (v := shV ⟨x.u, j.e, j.h, j.k, j.l⟩) ?_ rfl ⟨rfl, bel_putSh (bel_set (bel_putSh hbw (Nat.le_refl _) j) ⟨w.heap.size, 0, none⟩ (by simp) (.bool x.u)) (by omega) ⟨x.u, j.e, j.h, j.k, j.l⟩⟩
          exact results_cell_row rfl _ _ _ _ _ _ _ rfl (hqq.put ⟨x.u, j.e, j.h, j.k, j.l⟩) Try.underlying26 rfl (by kernel_rfl)
    · have hk3 : k = x.l.size := by omega
      have HE : Hid (S = ⟨(strip x.l.data.toList).toArray⟩) := Lib.hid (bytes_eq S _ (by rw [HS.out]; exact stripK_end x.l k (.inl ⟨hk3, hk64⟩)))
      have hLs := hy.setH (nz x.h)
      have hqs := (((hq.far (a := ⟨w.heap.size, 2, none⟩) (by simp) (.int .u64 (wd (nz x.h) 0 : Nat))).far (a := ⟨w.heap.size, 3, none⟩) (by simp) (.int .u64 (wd (nz x.h) 1 : Nat))).far (a := ⟨w.heap.size, 4, none⟩) (by simp) (.int .u64 (wd (nz x.h) 2 : Nat))).far (a := ⟨w.heap.size, 5, none⟩) (by simp) (.int .u64 (wd (nz x.h) 3 : Nat))
      have hbs := bel_set (bel_set (bel_set (bel_set hb ⟨w.heap.size, 2, none⟩ (by simp) (.int .u64 (wd (nz x.h) 0 : Nat))) ⟨w.heap.size, 3, none⟩ (by simp) (.int .u64 (wd (nz x.h) 1 : Nat))) ⟨w.heap.size, 4, none⟩ (by simp) (.int .u64 (wd (nz x.h) 2 : Nat))) ⟨w.heap.size, 5, none⟩ (by simp) (.int .u64 (wd (nz x.h) 3 : Nat))
      obtain ⟨d0, d1, d2, d3, d4, d5, d6, d7⟩ := hq.cells
      obtain ⟨g0, g1, g2, g3, g4, g5, g6, g7⟩ := hq.frozens
      cases hxk : x.k with
      | false =>
        have ht : t = ⟨x.u, x.e, nz x.h, false, ⟨#[]⟩⟩ := HT.out.trans (by rw [hxk]; rfl)
        subst ht
        clear HE HT
        rw [hxk] at c6
        go_wp2
        refine bodyPost_ret (v := shV ⟨x.u, x.e, nz x.h, false, ⟨#[]⟩⟩) ?_ rfl ⟨rfl, bel_putSh (bel_set hbs ⟨w.heap.size, 7, none⟩ (by simp) (.string ⟨#[]⟩)) (by omega) ⟨x.u, x.e, nz x.h, false, ⟨#[]⟩⟩⟩
        exact results_cell_row rfl _ _ _ _ _ _ _ rfl ((hqs.far (a := ⟨w.heap.size, 7, none⟩) (by simp) (.string ⟨#[]⟩)).put ⟨x.u, x.e, nz x.h, false, ⟨#[]⟩⟩) Try.underlying26 rfl (by kernel_rfl)
      | true =>
        have hR := refLit_is ⟨(strip x.l.data.toList).toArray⟩ (by rw [← HE.out]; omega)
        rw [← HE.out] at hR
        have ht : t = { litSh S with u := x.u } := HT.out.trans (by rw [hxk, HE.out]; rfl)
        subst ht
        generalize litSh S = j at *
        have HR := Lib.hid hR
        clear HE HT hR
        rw [hxk] at c6
        simp only [shV] at HR
        go_wp2_with fail
        refine (HR.out _).mono ?_
        rintro e w2 ⟨rfl, hb2⟩
        have hL2 := hLs.after hb2
        have hq2 := hqs.after hb2
        have hbw := bel_step hbs hb2
        clear c0 c1 c2 c3 c4 c5 c6 c7 f0 f1 f2 f3 f4 f5 f6 f7 d0 d1 d2 d3 d4 d5 d6 d7 g0 g1 g2 g3 g4 g5 g6 g7
        obtain ⟨c0, c1, c2, c3, c4, c5, c6, c7⟩ := hL2.cells
        obtain ⟨f0, f1, f2, f3, f4, f5, f6, f7⟩ := hL2.frozens
        obtain ⟨d0, d1, d2, d3, d4, d5, d6, d7⟩ := hq2.cells
        obtain ⟨g0, g1, g2, g3, g4, g5, g6, g7⟩ := hq2.frozens
        clear hb2 hb hbs hLs hqs hq hy
        go_wp2
        have hqq := (hq2.putFar (c := w.heap.size) (by omega) j).far (a := ⟨w.heap.size, 0, none⟩) (by simp) (.bool x.u)
        refine bodyPost_ret (v := shV ⟨x.u, j.e, j.h, j.k, j.l⟩) ?_ rfl ⟨rfl, bel_putSh (bel_set (bel_putSh hbw (Nat.le_refl _) j) ⟨w.heap.size, 0, none⟩ (by simp) (.bool x.u)) (by omega) ⟨x.u, j.e, j.h, j.k, j.l⟩⟩
        exact results_cell_row rfl _ _ _ _ _ _ _ rfl (hqq.put ⟨x.u, j.e, j.h, j.k, j.l⟩) Try.underlying26 rfl (by kernel_rfl)
end Go.Proofs.Ytjdhidiocchkeaa
