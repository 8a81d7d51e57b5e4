/-
  The contract of package pat's read: it hands back a plan whose tokens match as the pattern's do, in memory of its own.
-/
import Derived.Test.YtmpneifjjnfckaaPmTakeAt
import Derived.Test.YtmpneifjjnfckaaPmRow
import Derived.Test.YtmpneifjjnfckaaPmPlain
namespace Go.Proofs.Ytmpneifjjnfckaa
open Go.RowKit

def cell4 (p : Nat → Bool) : List Value := [.int .u64 (wd p 0 : Nat), .int .u64 (wd p 1 : Nat), .int .u64 (wd p 2 : Nat), .int .u64 (wd p 3 : Nat)]
def rowS (fs : List (Nat → Bool)) : List Value := fs.flatMap cell4
def rowG (gs : List Bool) : List Value := gs.map Value.bool
theorem rowS_snoc (fs : List (Nat → Bool)) (f : Nat → Bool) : rowS (fs ++ [f]) = rowS fs ++ cell4 f := by unfold rowS; simp
theorem rowG_snoc (gs : List Bool) (g : Bool) : rowG (gs ++ [g]) = rowG gs ++ [.bool g] := by unfold rowG; simp
def planV (T G : Value) : Value := .agg #[T, G]
/-- a plan in memory that lies from base on -/
def PlanAt (w : World) (base : Nat) (T G : Value) (gs : List Bool) (fs : List (Nat → Bool)) : Prop := w.ownsRow base 57 4 T fs.length (rowS fs) ∧ w.ownsRow base 4 1 G gs.length (rowG gs)

theorem info_set : (Try.prog.info? 57).map (fun i => (i.zero, i.size, i.bytes)) = some (some (.agg #[.int .u64 0, .int .u64 0, .int .u64 0, .int .u64 0]), 4, 32) := by kernel_rfl

section
variable {w w' : World} {b : Nat} {cs : Array Value} {t : TypeId} {row : Option Nat}
theorem BlkAt.grown (h : BlkAt w b cs t) (hg : w.grownBy w' row) (hne : some b ≠ row) : BlkAt w' b cs t := (hg.block b h.lt hne).trans h
theorem own_far {base n : Nat} {e : TypeId} {size : Nat} {v : Value} {xs : List Value} {o : Nat} (h : w.ownsRow base e size v n xs) (hb : b < base) (u : Value) : (w.setCell ⟨b, o, none⟩ u).ownsRow base e size v n xs := ownsRow_setCell_below h (a := ⟨b, o, none⟩) hb u
end

theorem tok_one {t : List UInt8} {v : List Bool} {i : Nat} (h : isB t v i 42 = false) : tokAt t v i = oneT (tokS t v i) := by
  unfold tokAt oneT tokS
  rw [h]
  simp only [Bool.false_eq_true, if_false]
  cases isB t v i 63 with
  | true => rfl
  | false =>
    simp only [Bool.false_eq_true, if_false]
    cases brB t v i <;> rfl
theorem tok_star {t : List UInt8} {v : List Bool} {i : Nat} (h : isB t v i 42 = true) : tokAt t v i = .star ∧ nextAt t v i = i + 1 := by
  unfold tokAt nextAt
  rw [h, brB_other h (by decide)]
  exact ⟨rfl, rfl⟩

/-- what is read stands for the pattern -/
def ReadOk (t : List UInt8) (v : List Bool) (k : Nat) (gs : List Bool) (fs : List (Nat → Bool)) (g : Bool) : Prop := gs.length = fs.length ∧ ∃ n, t.length ≤ k + n ∧ ∀ s, patB t v s = mtch (planP gs fs ++ (gapT g ++ toksF t v n k)) s
theorem ReadOk.zero (t : List UInt8) (v : List Bool) : ReadOk t v 0 [] [] false := ⟨rfl, t.length, by omega, fun _ => rfl⟩
theorem ReadOk.star {t : List UInt8} {v : List Bool} {k : Nat} {gs : List Bool} {fs : List (Nat → Bool)} {g : Bool} (h : ReadOk t v k gs fs g) (hk : k < t.length) (hz : isB t v k 42 = true) : ReadOk t v (k + 1) gs fs true := by
  obtain ⟨h1, n, hn, h2⟩ := h
  obtain ⟨m, hm, hm2⟩ := toksF_step (v := v) hk hn
  rw [(tok_star hz).1, (tok_star hz).2] at hm
  rw [(tok_star hz).2] at hm2
  refine ⟨h1, m, hm2, fun s => ?_⟩
  rw [h2 s, hm, gap_star]
theorem ReadOk.one {t : List UInt8} {v : List Bool} {k : Nat} {gs : List Bool} {fs : List (Nat → Bool)} {g : Bool} (h : ReadOk t v k gs fs g) (hk : k < t.length) (hz : isB t v k 42 = false) : ReadOk t v (nextAt t v k) (gs ++ [g]) (fs ++ [tokS t v k]) false := by
  obtain ⟨h1, n, hn, h2⟩ := h
  obtain ⟨m, hm, hm2⟩ := toksF_step (v := v) hk hn
  rw [tok_one hz] at hm
  refine ⟨by simp [h1], m, hm2, fun s => ?_⟩
  rw [h2 s, hm, planP_snoc _ _ _ _ h1]
  simp [gapT]
theorem ReadOk.done {t : List UInt8} {v : List Bool} {k : Nat} {gs : List Bool} {fs : List (Nat → Bool)} {g : Bool} (h : ReadOk t v k gs fs g) (hk : t.length ≤ k) : (gs ++ [g]).length = fs.length + 1 ∧ ∀ s, patB t v s = mtch (planL (gs ++ [g]) fs) s := by
  obtain ⟨h1, n, hn, h2⟩ := h
  refine ⟨by simp [h1], fun s => ?_⟩
  rw [h2 s, toksF_end hk, planL_snoc _ _ _ h1, List.append_nil]

/-- what read leaves -/
def ReadLeft (w : World) (t : ByteArray) (v : List Bool) (e : Ending) (w' : World) : Prop :=
  ∃ T G gs fs, e = .returned (planV T G) ∧ PlanAt w' w.heap.size T G gs fs ∧ gs.length = fs.length + 1 ∧ fs.length ≤ t.size ∧ (∀ s, patB t.data.toList v s = mtch (planL gs fs) s) ∧ Below w.heap.size w w'

set_option maxHeartbeats 16000000 in
set_option maxRecDepth 100000 in
theorem read_is (t : ByteArray) (ht : t.size ≤ 1048576) (L : Value) (v : List Bool) (w : World) (hL : LiveAt w L v) : Calls Try.prog 20 #[patV t L] w (ReadLeft w t v) := by
  obtain ⟨i0, hi, hz0, hz1, hz2⟩ := info_parts info_set
  obtain ⟨j0, hj, hy0, hy1, hy2⟩ := info_parts info_bool
  obtain ⟨wA, hwA, hb, hP⟩ := lay_pat w t L
  have hsA : wA.heap.size = w.heap.size + 1 := by rw [← hwA]; simp
  have hZ := BlkAt.new_at wA #[.slice none 0 0, .slice none 0 0] 42 _ hsA
  have hP := hP.alloc (.cells #[.slice none 0 0, .slice none 0 0] 42)
  have hb := bel_alloc hb (.cells #[.slice none 0 0, .slice none 0 0] 42)
  obtain ⟨w0, hw0⟩ : ∃ w0, wA.alloc (.cells #[.slice none 0 0, .slice none 0 0] 42) = w0 := ⟨_, rfl⟩
  have hs0 : w0.heap.size = w.heap.size + 1 + 1 := by rw [← hw0]; simp [hsA]
  rw [hw0] at hZ hP hb
  have hM := BlkAt.new_at w0 #[.slice none 0 0, .slice none 0 0] 42 _ hs0
  have hP := hP.alloc (.cells #[.slice none 0 0, .slice none 0 0] 42)
  have hZ := hZ.alloc (.cells #[.slice none 0 0, .slice none 0 0] 42)
  have hb := bel_alloc hb (.cells #[.slice none 0 0, .slice none 0 0] 42)
  obtain ⟨w1, hw1⟩ : ∃ w1, w0.alloc (.cells #[.slice none 0 0, .slice none 0 0] 42) = w1 := ⟨_, rfl⟩
  have hs1 : w1.heap.size = w.heap.size + 3 := by rw [← hw1]; simp [hs0]
  rw [hw1] at hZ hP hM hb
  have HL := Lib.hid (lastClose_is t ht L v)
  have HT := fun i hi => Lib.hid (takeAt_is t ht L v i hi)
  obtain ⟨lst, hlst⟩ : ∃ lst, lastI t.data.toList v t.size = lst := ⟨_, rfl⟩
  rw [hlst] at HL HT
  clear hlst
  have HI := fun i => Lib.hid (means_is t L v i 42)
  unfold patV at HI HL HT ⊢
  have HW := Lib.hid (And.intro hwA (And.intro hw0 hw1))
  clear hwA hw0 hw1
  have c0 := hP.cell 0 (v := .string t) rfl
  have c1 := hP.cell 1 (v := L) rfl
  go_enter Try.func20, Try.ntmps20
  go_upto_region 2 with fail
  rw [HW.out.1, HW.out.2.1, HW.out.2.2]
  go_wp2_with fail
  refine (HL.out _ (hL.after hb)).mono ?_
  rintro ending w2 ⟨rfl, hb1⟩
  have hs2 := hb1.size
  have hP := hP.after hb1
  have hZ := hZ.after hb1
  have hM := hM.after hb1
  have hb := bel_step hb hb1
  clear c0 c1 hb1 HL HW
  go_wp2
  go_loopw [4, 6] (fun y i wr => ∃ (k : Nat) (g : Bool) (gs : List Bool) (fs : List (Nat → Bool)) (aT aG : Option Addr) (cT cG : Nat), k ≤ t.size ∧ fs.length ≤ k ∧ y = .bool g ∧ i = .int .i64 (k : Int) ∧ BlkAt wr w.heap.size #[.string t, L] 25 ∧ BlkAt wr (w.heap.size + 1) #[.slice none 0 0, .slice none 0 0] 42 ∧ BlkAt wr (w.heap.size + 1 + 1) #[.slice aT fs.length cT, .slice aG gs.length cG] 42 ∧ wr.ownsRow (w.heap.size + 3) 57 4 (.slice aT fs.length cT) fs.length (rowS fs) ∧ wr.ownsRow (w.heap.size + 3) 4 1 (.slice aG gs.length cG) gs.length (rowG gs) ∧ Below w.heap.size w wr ∧ w.heap.size + 3 ≤ wr.heap.size ∧ Hid (ReadOk t.data.toList v k gs fs g)) (fun _ i _ => t.size - (intOf i).toNat)
  case atStart => exact ⟨0, false, [], [], none, none, 0, 0, Nat.zero_le _, Nat.le_refl _, rfl, rfl, hP, hZ, hM, World.ownsRow_nil _ _ _ _, World.ownsRow_nil _ _ _ _, hb, by omega, Lib.hid (ReadOk.zero _ _)⟩
  case round =>
    clear hP hZ hM hb
    obtain ⟨k, g, gs, fs, aT, aG, cT, cG, hk, hfk, rfl, rfl, hP, hZ, hM, hT, hG, hb, hsr, HR⟩ := hrel
    have c0 := hP.cell 0 (v := .string t) rfl
    have c1 := hP.cell 1 (v := L) rfl
    have hgl : gs.length ≤ k := by have := HR.out.1; omega
    by_cases hlt : k < t.size
    · have hki : (k : Int) < (t.size : Int) := by omega
      have HC := HI k
      obtain ⟨z, hz⟩ : ∃ z, isB t.data.toList v k 42 = z := ⟨_, rfl⟩
      rw [hz] at HC
      have HZ := Lib.hid hz
      clear hz
      have hLr := hL.after hb
      go_wp2_with fail
      refine (HC.out _ hLr).mono ?_
      rintro ending w3 ⟨rfl, hb1⟩
      have hP := hP.after hb1
      have hZ := hZ.after hb1
      have hM := hM.after hb1
      have hT := own_aft hT hb1
      have hG := own_aft hG hb1
      have hb := bel_step hb hb1
      have hs3 := hb1.size
      clear hb1 c0 c1 hLr HC
      cases z with
      | true =>
        have HR2 : Hid (ReadOk t.data.toList v (k + 1) gs fs true) := Lib.hid (HR.out.star (by rw [len_list]; exact hlt) HZ.out)
        clear HR
        go_wp2
        go_roundw
        case rel => exact ⟨k + 1, true, gs, fs, aT, aG, cT, cG, by omega, by omega, rfl, by go_num, hP, hZ, hM, hT, hG, hb, by omega, HR2⟩
        case measure => simp [intOf]; omega
      | false =>
        have HR2 : Hid (ReadOk t.data.toList v (nextAt t.data.toList v k) (gs ++ [g]) (fs ++ [tokS t.data.toList v k]) false) := Lib.hid (HR.out.one (by rw [len_list]; exact hlt) HZ.out)
        have HC := HT k hlt
        have hn1 := next_gt t.data.toList v k
        have hn2 : nextAt t.data.toList v k ≤ t.size := by have := next_le (t := t.data.toList) (v := v) (i := k) (by rw [len_list]; exact hlt); rw [len_list] at this; exact this
        obtain ⟨q, hq⟩ : ∃ q, tokS t.data.toList v k = q := ⟨_, rfl⟩
        obtain ⟨n, hn⟩ : ∃ n, nextAt t.data.toList v k = n := ⟨_, rfl⟩
        rw [hq, hn] at HC HR2
        rw [hn] at hn1 hn2
        obtain ⟨d, hd⟩ : ∃ d, n - k = d := ⟨_, rfl⟩
        rw [hd] at HC
        have ED : (k : Int) + (d : Int) = (n : Int) := by omega
        have hdm : d ≤ 1048576 := by omega
        clear hq hn hd HR HZ
        simp only [setV] at HC
        have c0 := hP.cell 0 (v := .string t) rfl
        have c1 := hP.cell 1 (v := L) rfl
        have hLr := hL.after hb
        go_wp2_with fail
        refine (HC.out _ hLr).mono ?_
        rintro ending w4 ⟨rfl, hb1⟩
        have hP := (hP.after hb1).alloc (.cells #[.int .u64 (wd q 0 : Nat), .int .u64 (wd q 1 : Nat), .int .u64 (wd q 2 : Nat), .int .u64 (wd q 3 : Nat)] 57)
        have hZ := (hZ.after hb1).alloc (.cells #[.int .u64 (wd q 0 : Nat), .int .u64 (wd q 1 : Nat), .int .u64 (wd q 2 : Nat), .int .u64 (wd q 3 : Nat)] 57)
        have hM := (hM.after hb1).alloc (.cells #[.int .u64 (wd q 0 : Nat), .int .u64 (wd q 1 : Nat), .int .u64 (wd q 2 : Nat), .int .u64 (wd q 3 : Nat)] 57)
        have hT := (own_aft hT hb1).alloc (.cells #[.int .u64 (wd q 0 : Nat), .int .u64 (wd q 1 : Nat), .int .u64 (wd q 2 : Nat), .int .u64 (wd q 3 : Nat)] 57)
        have hG := (own_aft hG hb1).alloc (.cells #[.int .u64 (wd q 0 : Nat), .int .u64 (wd q 1 : Nat), .int .u64 (wd q 2 : Nat), .int .u64 (wd q 3 : Nat)] 57)
        have hA := SetAt.new w4 q
        have hb := bel_alloc (bel_step hb hb1) (.cells #[.int .u64 (wd q 0 : Nat), .int .u64 (wd q 1 : Nat), .int .u64 (wd q 2 : Nat), .int .u64 (wd q 3 : Nat)] 57)
        have hs4 := hb1.size
        clear hb1 c0 c1 hLr HC
        obtain ⟨w5, hw5⟩ : ∃ w5, w4.alloc (.cells #[.int .u64 (wd q 0 : Nat), .int .u64 (wd q 1 : Nat), .int .u64 (wd q 2 : Nat), .int .u64 (wd q 3 : Nat)] 57) = w5 := ⟨_, rfl⟩
        have hs5 : w4.heap.size + 1 ≤ w5.heap.size := by rw [← hw5]; simp
        rw [hw5] at hP hZ hM hT hG hA hb
        have HW5 := Lib.hid hw5
        clear hw5
        go_upto_region 10 with fail
        rw [HW5.out]
        obtain ⟨a0, a1, a2, a3⟩ := hA.cells
        have m0 := hM.cell 0 (v := .slice aT fs.length cT) rfl
        have hTl := hT.lt
        go_wp2_with (at_builtin; refine wpList_append_two _ rfl _ _ 40 rfl (w.heap.size + 3) 57 i0 _ 4 32 Try.underlying40 hi hz0 hz1 hz2 rfl (by decide) _ _ _ rfl (hT.alloc _) ⟨w5.heap.size, 0, none⟩ 1 (cell4 q) rfl rfl ?c1 ?c2 ?c3 ?c4 ?c5 ?_)
        case c1 =>
          intro j u hj
          match j, hj with
          | 0, hj => simp [cell4] at hj; subst hj; simp [Addr.add]
          | 1, hj => simp [cell4] at hj; subst hj; simp [Addr.add]
          | 2, hj => simp [cell4] at hj; subst hj; simp [Addr.add]
          | 3, hj => simp [cell4] at hj; subst hj; simp [Addr.add]
        case c2 => intro u hu; simp [cell4] at hu; rcases hu with rfl | rfl | rfl | rfl <;> rfl
        case c3 => unfold maxLen; omega
        case c4 => omega
        case c5 => simp; omega
        intro g1 p1 w6 hT6 hg6 _
        have len1 : (fs ++ [q]).length = fs.length + 1 := by simp
        have len2 : (gs ++ [g]).length = gs.length + 1 := by simp
        have hne : ∀ b, b < w.heap.size + 3 → some b ≠ (Value.slice aT fs.length cT).ownBlock := fun b hb e => by have := (hTl _ e.symm).1; omega
        have hP6 := (hP.alloc _).grown hg6 (hne _ (by omega))
        have hZ6 := (hZ.alloc _).grown hg6 (hne _ (by omega))
        have hM6 := (hM.alloc _).grown hg6 (hne _ (by omega))
        have hG6 := (hG.alloc _).kept hg6 (own_ne hG hT (by decide))
        have hb6 : Below w.heap.size w w6 := (bel_alloc hb _).grown hg6 (by have := hb.size; simp; omega) (fun k hk => by have := (hTl k hk).1; omega)
        have hs6 : w.heap.size + 3 ≤ w6.heap.size := by have := hg6.size; simp at this; omega
        clear hP hZ hM hT hG hA hb hg6 a0 a1 a2 a3 m0 hTl hne
        have hM7 : BlkAt (w6.setCell ⟨w.heap.size + 1 + 1, 0, none⟩ (.slice (some ⟨g1, 0, none⟩) (fs.length + 1) p1)) (w.heap.size + 1 + 1) #[.slice (some ⟨g1, 0, none⟩) (fs.length + 1) p1, .slice aG gs.length cG] 42 := hM6.set 0 _
        have hP7 := hP6.far (a := ⟨w.heap.size + 1 + 1, 0, none⟩) (by show w.heap.size ≠ w.heap.size + 1 + 1; omega) (.slice (some ⟨g1, 0, none⟩) (fs.length + 1) p1)
        have hZ7 := hZ6.far (a := ⟨w.heap.size + 1 + 1, 0, none⟩) (by show w.heap.size + 1 ≠ w.heap.size + 1 + 1; omega) (.slice (some ⟨g1, 0, none⟩) (fs.length + 1) p1)
        have hT7 := own_far (b := w.heap.size + 1 + 1) (o := 0) hT6 (by omega) (.slice (some ⟨g1, 0, none⟩) (fs.length + 1) p1)
        have hG7 := own_far (b := w.heap.size + 1 + 1) (o := 0) hG6 (by omega) (.slice (some ⟨g1, 0, none⟩) (fs.length + 1) p1)
        have hb7 := bel_set hb6 ⟨w.heap.size + 1 + 1, 0, none⟩ (by show w.heap.size ≤ w.heap.size + 1 + 1; omega) (.slice (some ⟨g1, 0, none⟩) (fs.length + 1) p1)
        have m0 := hM6.cell 0 (v := .slice aT fs.length cT) rfl
        have f0 := hM6.frozen 0
        obtain ⟨w7, hw7⟩ : ∃ w7, w6.setCell ⟨w.heap.size + 1 + 1, 0, none⟩ (.slice (some ⟨g1, 0, none⟩) (fs.length + 1) p1) = w7 := ⟨_, rfl⟩
        have hs7 : w.heap.size + 3 ≤ w7.heap.size := by rw [← hw7]; simpa [World.setCell] using hs6
        rw [hw7] at hM7 hP7 hZ7 hT7 hG7 hb7
        have HW7 := Lib.hid hw7
        clear hw7 hM6 hP6 hZ6 hT6 hG6 hb6
        go_upto_region 11 with fail
        rw [HW7.out]
        clear m0 f0 HW7
        have m1 := hM7.cell 1 (v := .slice aG gs.length cG) rfl
        have hGl := hG7.lt
        go_wp2_with (at_builtin; refine wpList_append_two _ rfl _ _ 23 rfl (w.heap.size + 3) 4 j0 _ 1 1 Try.underlying23 hj hy0 hy1 hy2 rfl (by decide) _ _ _ rfl (hG7.alloc _) ⟨w7.heap.size, 0, none⟩ 1 [.bool g] rfl rfl ?e1 ?e2 ?e3 ?e4 ?e5 ?_)
        case e1 =>
          intro j u hj
          match j, hj with
          | 0, hj => simp at hj; subst hj; simp [Addr.add]
        case e2 => intro u hu; simp at hu; subst hu; rfl
        case e3 => unfold maxLen; omega
        case e4 => omega
        case e5 => simp; omega
        intro g2 p2 w8 hG8 hg8 _
        have hne : ∀ b, b < w.heap.size + 3 → some b ≠ (Value.slice aG gs.length cG).ownBlock := fun b hb e => by have := (hGl _ e.symm).1; omega
        have hP8 := (hP7.alloc _).grown hg8 (hne _ (by omega))
        have hZ8 := (hZ7.alloc _).grown hg8 (hne _ (by omega))
        have hM8 := (hM7.alloc _).grown hg8 (hne _ (by omega))
        have hT8 := (hT7.alloc _).kept hg8 (own_ne hT7 hG7 (by decide))
        have hb8 : Below w.heap.size w w8 := (bel_alloc hb7 _).grown hg8 (by have := hb7.size; simp; omega) (fun k hk => by have := (hGl k hk).1; omega)
        have hs8 : w.heap.size + 3 ≤ w8.heap.size := by have := hg8.size; simp at this; omega
        clear hP7 hZ7 hM7 hT7 hG7 hb7 hg8 m1 hGl hne
        have hM9 : BlkAt (w8.setCell ⟨w.heap.size + 1 + 1, 1, none⟩ (.slice (some ⟨g2, 0, none⟩) (gs.length + 1) p2)) (w.heap.size + 1 + 1) #[.slice (some ⟨g1, 0, none⟩) (fs ++ [q]).length p1, .slice (some ⟨g2, 0, none⟩) (gs ++ [g]).length p2] 42 := by rw [len1, len2]; exact hM8.set 1 _
        have hP9 := hP8.far (a := ⟨w.heap.size + 1 + 1, 1, none⟩) (by show w.heap.size ≠ w.heap.size + 1 + 1; omega) (.slice (some ⟨g2, 0, none⟩) (gs.length + 1) p2)
        have hZ9 := hZ8.far (a := ⟨w.heap.size + 1 + 1, 1, none⟩) (by show w.heap.size + 1 ≠ w.heap.size + 1 + 1; omega) (.slice (some ⟨g2, 0, none⟩) (gs.length + 1) p2)
        have hT9 := own_far (b := w.heap.size + 1 + 1) (o := 1) hT8 (by omega) (.slice (some ⟨g2, 0, none⟩) (gs.length + 1) p2)
        have hG9 := own_far (b := w.heap.size + 1 + 1) (o := 1) hG8 (by omega) (.slice (some ⟨g2, 0, none⟩) (gs.length + 1) p2)
        have hb9 := bel_set hb8 ⟨w.heap.size + 1 + 1, 1, none⟩ (by show w.heap.size ≤ w.heap.size + 1 + 1; omega) (.slice (some ⟨g2, 0, none⟩) (gs.length + 1) p2)
        have hs9 : w.heap.size + 3 ≤ (w8.setCell ⟨w.heap.size + 1 + 1, 1, none⟩ (.slice (some ⟨g2, 0, none⟩) (gs.length + 1) p2)).heap.size := by simpa [World.setCell] using hs8
        rw [← len1, ← rowS_snoc] at hT9
        rw [← rowG_snoc] at hG9
        have hG9 : (w8.setCell ⟨w.heap.size + 1 + 1, 1, none⟩ (.slice (some ⟨g2, 0, none⟩) (gs.length + 1) p2)).ownsRow (w.heap.size + 3) 4 1 (.slice (some ⟨g2, 0, none⟩) (gs ++ [g]).length p2) (gs ++ [g]).length (rowG (gs ++ [g])) := by rw [len2]; exact hG9
        have m1 := hM8.cell 1 (v := .slice aG gs.length cG) rfl
        have f1 := hM8.frozen 1
        have HH := Lib.hid (And.intro hP9 (And.intro hZ9 (And.intro hM9 (And.intro hT9 (And.intro hG9 (And.intro hb9 hs9))))))
        clear hP9 hZ9 hM9 hT9 hG9 hb9 hs9 hP8 hZ8 hM8 hT8 hG8 hb8 len1 len2
        go_wp2
        go_roundw
        case rel => exact ⟨n, false, gs ++ [g], fs ++ [q], some ⟨g1, 0, none⟩, some ⟨g2, 0, none⟩, p1, p2, hn2, by simp; omega, rfl, rfl, HH.out.1, HH.out.2.1, HH.out.2.2.1, HH.out.2.2.2.1, HH.out.2.2.2.2.1, HH.out.2.2.2.2.2.1, HH.out.2.2.2.2.2.2, HR2⟩
        case measure => simp [intOf]; omega
    · have hki : ¬ (k : Int) < (t.size : Int) := by omega
      have hkd : decide ((k : Int) < (t.size : Int)) = false := decide_eq_false hki
      have hkd2 : decide (k < t.size) = false := decide_eq_false hlt
      have HD := Lib.hid (HR.out.done (by rw [len_list]; omega))
      have len2 : (gs ++ [g]).length = gs.length + 1 := by simp
      clear HR HI HT
      have m1 := hM.cell 1 (v := .slice aG gs.length cG) rfl
      have hGl := hG.lt
      go_upto_region 14 with fail
      go_wp2_with (at_builtin; refine wpList_append_two _ rfl _ _ 23 rfl (w.heap.size + 3) 4 j0 _ 1 1 Try.underlying23 hj hy0 hy1 hy2 rfl (by decide) _ _ _ rfl (hG.alloc _) ⟨wr.heap.size, 0, none⟩ 1 [.bool g] rfl rfl ?x1 ?x2 ?x3 ?x4 ?x5 ?_)
      case x2 => rfl
      case x3 => unfold maxLen; omega
      case x4 => omega
      case x5 => omega
      intro g2 p2 w8 hG8 hg8 _
      have hne : ∀ b, b < w.heap.size + 3 → some b ≠ (Value.slice aG gs.length cG).ownBlock := fun b hb e => by have := (hGl _ e.symm).1; omega
      have hZ8 := (hZ.alloc _).grown hg8 (hne _ (by omega))
      have hM8 := (hM.alloc _).grown hg8 (hne _ (by omega))
      have hT8 := (hT.alloc _).kept hg8 (own_ne hT hG (by decide))
      have hb8 : Below w.heap.size w w8 := (bel_alloc hb _).grown hg8 (by have := hb.size; simp; omega) (fun k hk => by have := (hGl k hk).1; omega)
      clear hP hZ hM hT hG hb hg8 m1 hGl hne c0 c1
      have m0 := hM8.cell 0 (v := .slice aT fs.length cT) rfl
      have m1 := hM8.cell 1 (v := .slice aG gs.length cG) rfl
      have f1 := hM8.frozen 1
      have z0 := hZ8.cell 0 (v := .slice none 0 0) rfl
      have z1 := hZ8.cell 1 (v := .slice none 0 0) rfl
      have k0 := hZ8.frozen 0
      have k1 := hZ8.frozen 1
      have hZ9 : BlkAt (((w8.setCell ⟨w.heap.size + 1 + 1, 1, none⟩ (.slice (some ⟨g2, 0, none⟩) (gs.length + 1) p2)).setCell ⟨w.heap.size + 1, 0, none⟩ (.slice aT fs.length cT)).setCell ⟨w.heap.size + 1, 1, none⟩ (.slice (some ⟨g2, 0, none⟩) (gs.length + 1) p2)) (w.heap.size + 1) #[.slice aT fs.length cT, .slice (some ⟨g2, 0, none⟩) (gs.length + 1) p2] 42 := ((hZ8.far (a := ⟨w.heap.size + 1 + 1, 1, none⟩) (by show w.heap.size + 1 ≠ w.heap.size + 1 + 1; omega) _).set 0 _).set 1 _
      have hT9 := own_far (b := w.heap.size + 1) (o := 1) (own_far (b := w.heap.size + 1) (o := 0) (own_far (b := w.heap.size + 1 + 1) (o := 1) hT8 (by omega) (.slice (some ⟨g2, 0, none⟩) (gs.length + 1) p2)) (by omega) (.slice aT fs.length cT)) (by omega) (.slice (some ⟨g2, 0, none⟩) (gs.length + 1) p2)
      have hG9 := own_far (b := w.heap.size + 1) (o := 1) (own_far (b := w.heap.size + 1) (o := 0) (own_far (b := w.heap.size + 1 + 1) (o := 1) hG8 (by omega) (.slice (some ⟨g2, 0, none⟩) (gs.length + 1) p2)) (by omega) (.slice aT fs.length cT)) (by omega) (.slice (some ⟨g2, 0, none⟩) (gs.length + 1) p2)
      have hb9 := bel_set (bel_set (bel_set hb8 ⟨w.heap.size + 1 + 1, 1, none⟩ (by show w.heap.size ≤ w.heap.size + 1 + 1; omega) (.slice (some ⟨g2, 0, none⟩) (gs.length + 1) p2)) ⟨w.heap.size + 1, 0, none⟩ (by show w.heap.size ≤ w.heap.size + 1; omega) (.slice aT fs.length cT)) ⟨w.heap.size + 1, 1, none⟩ (by show w.heap.size ≤ w.heap.size + 1; omega) (.slice (some ⟨g2, 0, none⟩) (gs.length + 1) p2)
      rw [← rowG_snoc, ← len2] at hG9
      have HH := Lib.hid (And.intro hZ9 (And.intro hT9 (And.intro hG9 hb9)))
      clear hZ9 hT9 hG9 hb9 hZ8 hM8 hT8 hG8 hb8
      go_wp2
      refine bodyPost_ret (v := planV (.slice aT fs.length cT) (.slice (some ⟨g2, 0, none⟩) (gs.length + 1) p2)) ?_ rfl ⟨_, _, gs ++ [g], fs, rfl, ⟨own_base HH.out.2.1 (by omega), own_base (by rw [← len2]; exact HH.out.2.2.1) (by omega)⟩, HD.out.1, by omega, HD.out.2, HH.out.2.2.2⟩
      exact results_cell_row rfl _ _ _ _ _ _ _ rfl HH.out.1 Try.underlying42 rfl (by kernel_rfl)
end Go.Proofs.Ytmpneifjjnfckaa
