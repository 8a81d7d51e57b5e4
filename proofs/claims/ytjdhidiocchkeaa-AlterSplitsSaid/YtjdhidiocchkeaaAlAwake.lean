/-
  The contracts of conchlaw5.awake and conchlaw5.set, and of conchref1.Num.
-/
import Derived.Test.YtjdhidiocchkeaaAlterTwo
import Derived.Test.YtjdhidiocchkeaaShAwake
namespace Go.Proofs.Ytjdhidiocchkeaa
open Go.RowKit

theorem meet_iff (p q : Nat → Bool) : meetB p q = true ↔ ∃ c, c < 256 ∧ p c = true ∧ q c = true := by
  unfold meetB
  constructor
  · intro h
    have h2 : sameS (andS p q) noS = false := by simpa using h
    obtain ⟨c, hc, hb⟩ := some_in _ h2
    unfold andS at hb
    simp only [Bool.and_eq_true] at hb
    exact ⟨c, hc, hb.1, hb.2⟩
  · rintro ⟨c, hc, h1, h2⟩
    have : sameS (andS p q) noS = false := bfalse fun h => by
      have := (noS_iff _).1 h c hc
      unfold andS at this
      rw [h1, h2] at this
      cases this
    rw [this]; rfl
theorem meet_not {p q : Nat → Bool} (h : ∀ c, c < 256 → p c = true → q c = true → False) : meetB p q = false :=
  bfalse fun hm => by
    obtain ⟨c, hc, h1, h2⟩ := (meet_iff p q).1 hm
    exact h c hc h1 h2

theorem lit_one (l : List UInt8) (b : UInt8) (h : keptB ⟨(b :: l).toArray⟩ = true) : litSh ⟨(b :: l).toArray⟩ = ⟨false, false, ofS (b :: l), true, ⟨(b :: l).toArray⟩⟩ := by
  rw [litSh_k _ h, emp_cons b l]
theorem cat_ab : catP (litSh ⟨#[97]⟩) (litSh ⟨#[98]⟩) = litSh ⟨#[97, 98]⟩ := by
  rw [lit_a, lit_b]
  rfl
theorem read_unset : readP unsetSh = litSh ⟨#[]⟩ := by
  unfold readP
  rw [show setSh unsetSh = zeroSh from rfl, none_zero]
  rfl
theorem sep_lit (l : List UInt8) (b : UInt8) (h : keptB ⟨(b :: l).toArray⟩ = true) : sepP (litSh ⟨(b :: l).toArray⟩) = ofS (b :: l) := by
  rw [lit_one l b h]
  rfl
theorem split_ab : splitB (litSh ⟨#[97, 32, 98]⟩) (litSh ⟨#[32]⟩) = true := by
  unfold splitB
  rw [sep_lit [] 32 (by decide), lit_one [32, 98] 97 (by decide)]
  exact (meet_iff _ _).2 ⟨32, by decide, by decide, by decide⟩
theorem split_no : splitB (litSh ⟨#[97, 98]⟩) (litSh ⟨#[32]⟩) = false := by
  unfold splitB
  rw [sep_lit [] 32 (by decide), lit_one [98] 97 (by decide)]
  refine meet_not fun c _ h1 h2 => ?_
  obtain ⟨b, hb, rfl⟩ := (ofS_iff _ _).1 h1
  obtain ⟨d, hd, he⟩ := (ofS_iff _ _).1 h2
  simp only [List.mem_cons, List.not_mem_nil, or_false] at hb hd
  subst hd
  rcases hb with rfl | rfl <;> exact absurd he (by decide)
theorem glob_star : globB (litSh ⟨#[42]⟩) = true := by
  unfold globB
  rw [lit_one [] 42 (by decide)]
  exact (meet_iff _ _).2 ⟨42, by decide, by decide, by decide⟩
theorem nums_same (c : Nat) : ofS nums c = ofS numsR c := by
  rw [Bool.eq_iff_iff, ofS_iff, ofS_iff]
  have : ∀ b, b ∈ nums ↔ b ∈ numsR := fun b => by
    simp only [nums, numsR, List.mem_cons, List.not_mem_nil, or_false]
    constructor <;> intro h <;> rcases h with h | h | h | h | h | h | h | h | h | h | h <;> simp [h]
  exact ⟨fun ⟨b, hb, h⟩ => ⟨b, (this b).1 hb, h⟩, fun ⟨b, hb, h⟩ => ⟨b, (this b).2 hb, h⟩⟩
theorem num_same : sameSh numP numR = true := by
  unfold numP numR ofSh
  refine (sameSh_iff _ _).2 ⟨rfl, rfl, fun c _ => ?_, rfl, rfl⟩
  show nz (ofS nums) c = nz (ofS numsR) c
  unfold nz
  rw [nums_same]

set_option maxHeartbeats 1000000 in
set_option maxRecDepth 100000 in
theorem refNum_is (w : World) : Calls Try.prog 46 #[] w (Gives w (shV numR)) := by
  have hO := refOf_is ⟨#[48, 49, 50, 51, 52, 53, 54, 55, 56, 57, 45]⟩ (by decide)
  rw [show (⟨#[48, 49, 50, 51, 52, 53, 54, 55, 56, 57, 45]⟩ : ByteArray).data.toList = numsR from rfl] at hO
  have HO := Lib.hid hO
  have HS := Lib.hid (refOfSh_is (ofS numsR) false)
  clear hO
  unfold numR
  have hz := ShAt.zero w
  generalize ofS numsR = p at *
  simp only [setV, shV, ofSh] at HO HS ⊢
  generalize nz p = q at *
  go_enter Try.func46, Try.ntmps46
  go_wp2_with fail
  refine (HO.out _).mono ?_
  rintro e w1 ⟨rfl, hb1⟩
  go_wp2_with fail
  refine (HS.out _).mono ?_
  rintro e w2 ⟨rfl, hb2⟩
  have h2 := (hz.after hb1).after hb2
  have hb := bel_step (bel_step (bel_alloc (Below.refl w.heap.size w) _) hb1) hb2
  have hlt := h2.lt
  clear hb1 hb2 hz
  obtain ⟨d0, d1, d2, d3, d4, d5, d6, d7⟩ := h2.cells
  obtain ⟨g0, g1, g2, g3, g4, g5, g6, g7⟩ := h2.frozens
  go_wp2
  refine bodyPost_ret (v := shV ⟨false, false, q, false, ⟨#[]⟩⟩) ?_ rfl ⟨rfl, bel_putSh hb (by omega) ⟨false, false, q, false, ⟨#[]⟩⟩⟩
  exact results_cell_row rfl _ _ _ _ _ _ _ rfl (h2.put ⟨false, false, q, false, ⟨#[]⟩⟩) Try.underlying26 rfl (by kernel_rfl)

set_option maxHeartbeats 2000000 in
set_option maxRecDepth 100000 in
theorem set_is (x : Sh) (w : World) : Calls Try.prog 17 #[shV x] w (Gives w (shV (setSh (tameSh x)))) := by
  obtain ⟨wA, hwA, hbA, hA, hZ⟩ := lay_oneZ w x
  have HT := Lib.hid (Tame_is x)
  generalize tameSh x = y at *
  simp only [shV, setSh] at HT ⊢
  go_enter Try.func17, Try.ntmps17
  obtain ⟨c0, c1, c2, c3, c4, c5, c6, c7⟩ := hA.cells
  go_wp2_with fail
  clear hwA c0 c1 c2 c3 c4 c5 c6 c7
  refine (HT.out _).mono ?_
  rintro ending w1 ⟨rfl, hb1⟩
  have hA1 := hA.after hb1
  have hZ1 := hZ.after hb1
  have hA2 := hA1.put y
  have hZ2 := hZ1.putFar (c := w.heap.size) (by omega) y
  have hb2 := bel_putSh (bel_step hbA hb1) (Nat.le_refl _) y
  obtain ⟨U, hU⟩ : ∃ U, putSh w1 w.heap.size y = U := ⟨_, rfl⟩
  rw [hU] at hA2 hZ2 hb2
  unfold putSh at hU
  have HU := Lib.hid hU
  clear hU
  obtain ⟨c0, c1, c2, c3, c4, c5, c6, c7⟩ := hA1.cells
  obtain ⟨f0, f1, f2, f3, f4, f5, f6, f7⟩ := hA1.frozens
  go_upto_region 2 with fail
  rw [HU.out]
  clear HU c0 c1 c2 c3 c4 c5 c6 c7 f0 f1 f2 f3 f4 f5 f6 f7 hA1 hZ1 hA hZ hbA hb1 HT
  obtain ⟨c0, c1, c2, c3, c4, c5, c6, c7⟩ := hA2.cells
  obtain ⟨f0, f1, f2, f3, f4, f5, f6, f7⟩ := hA2.frozens
  obtain ⟨d0, d1, d2, d3, d4, d5, d6, d7⟩ := hZ2.cells
  obtain ⟨g0, g1, g2, g3, g4, g5, g6, g7⟩ := hZ2.frozens
  go_wp2
  refine bodyPost_ret (v := shV ⟨false, y.e, y.h, y.k, y.l⟩) ?_ rfl ⟨rfl, bel_putSh (bel_set hb2 ⟨w.heap.size, 0, none⟩ (Nat.le_refl _) (.bool false)) (by omega) ⟨false, y.e, y.h, y.k, y.l⟩⟩
  exact results_cell_row rfl _ _ _ _ _ _ _ rfl ((hZ2.far (a := ⟨w.heap.size, 0, none⟩) (by simp) (.bool false)).put ⟨false, y.e, y.h, y.k, y.l⟩) Try.underlying26 rfl (by kernel_rfl)

theorem kept_len {s : ByteArray} (h : keptB s = true) : (litSh s).l.size ≤ 64 := by
  rw [litSh_k s h]
  exact ((kept_iff s).1 h).1

set_option maxHeartbeats 4000000 in
set_option maxRecDepth 100000 in
theorem awake5_is (w : World) : Calls Try.prog 15 #[] w (Gives w (.bool true)) := by
  have h1 := refLit_is ⟨#[97]⟩ (by decide)
  have h2 := refLit_is ⟨#[98]⟩ (by decide)
  have h3 := Cat_is (litSh ⟨#[97]⟩) (litSh ⟨#[98]⟩) (kept_len (by decide)) (kept_len (by decide))
  have h4 := refLit_is ⟨#[97, 98]⟩ (by decide)
  have e1 := run_eq_shape (litSh ⟨#[97, 98]⟩) (litSh ⟨#[97, 98]⟩)
  have h5 := refUnset_is
  have h6 := Read_is unsetSh
  have h7 := refLit_is ⟨#[]⟩ (by decide)
  have e2 := run_eq_shape (litSh ⟨#[]⟩) (litSh ⟨#[]⟩)
  have h8 := refAny_is
  have h9 := MayUnset_is anySh
  have ha := refLit_is ⟨#[97, 32, 98]⟩ (by decide)
  have hb := refLit_is ⟨#[32]⟩ (by decide)
  have hc := MaySplit_is (litSh ⟨#[97, 32, 98]⟩) (litSh ⟨#[32]⟩) (Nat.le_trans (kept_len (by decide)) (by decide))
  have hd := MaySplit_is (litSh ⟨#[97, 98]⟩) (litSh ⟨#[32]⟩) (Nat.le_trans (kept_len (by decide)) (by decide))
  have he := refLit_is ⟨#[42]⟩ (by decide)
  have hf := MayGlob_is (litSh ⟨#[42]⟩)
  have hg := Number_is
  have hh := refNum_is
  have e3 := run_eq_shape numP numR
  rw [cat_ab] at h3
  rw [same_refl] at e1 e2
  rw [read_unset] at h6
  rw [show anySh.u = true from rfl] at h9
  rw [split_ab] at hc
  rw [split_no] at hd
  rw [glob_star] at hf
  rw [num_same] at e3
  generalize litSh ⟨#[97]⟩ = x1 at *
  generalize litSh ⟨#[98]⟩ = x2 at *
  generalize litSh ⟨#[97, 98]⟩ = x3 at *
  generalize unsetSh = x4 at *
  generalize litSh ⟨#[]⟩ = x5 at *
  generalize anySh = x6 at *
  generalize litSh ⟨#[97, 32, 98]⟩ = x7 at *
  generalize litSh ⟨#[32]⟩ = x8 at *
  generalize litSh ⟨#[42]⟩ = x9 at *
  generalize numP = xa at *
  generalize numR = xb at *
  simp only [shV] at h1 h2 h3 h4 e1 h5 h6 h7 e2 h8 h9 ha hb hc hd he hf hg hh e3
  have H1 := Lib.hid h1
  have H2 := Lib.hid h2
  have H3 := Lib.hid h3
  have H4 := Lib.hid h4
  have H5 := Lib.hid h5
  have H6 := Lib.hid h6
  have H7 := Lib.hid h7
  have H8 := Lib.hid h8
  have H9 := Lib.hid h9
  have HA := Lib.hid ha
  have HB := Lib.hid hb
  have HC := Lib.hid hc
  have HD := Lib.hid hd
  have HE := Lib.hid he
  have HF := Lib.hid hf
  have HG := Lib.hid hg
  have HH := Lib.hid hh
  clear h1 h2 h3 h4 h5 h6 h7 h8 h9 ha hb hc hd he hf hg hh
  have k0 : Below w.heap.size w w := Below.refl _ _
  go_enter Try.func15, Try.ntmps15
  go_wp2_with fail
  refine (H1.out _).mono ?_
  rintro e y1 ⟨rfl, j1⟩
  have k1 := bel_step k0 j1
  clear k0 j1
  go_wp2_with fail
  refine (H2.out _).mono ?_
  rintro e y2 ⟨rfl, j2⟩
  have k2 := bel_step k1 j2
  clear k1 j2
  go_wp2_with fail
  refine (H3.out _).mono ?_
  rintro e y3 ⟨rfl, j3⟩
  have k3 := bel_step k2 j3
  clear k2 j3
  go_wp2_with fail
  refine (H4.out _).mono ?_
  rintro e y4 ⟨rfl, j4⟩
  have k4 := bel_step k3 j4
  clear k3 j4
  go_wp2_with fail
  refine (H5.out _).mono ?_
  rintro e y5 ⟨rfl, j5⟩
  have k5 := bel_step k4 j5
  clear k4 j5
  go_wp2_with fail
  refine (H6.out _).mono ?_
  rintro e y6 ⟨rfl, j6⟩
  have k6 := bel_step k5 j6
  clear k5 j6
  go_wp2_with fail
  refine (H7.out _).mono ?_
  rintro e y7 ⟨rfl, j7⟩
  have k7 := bel_step k6 j7
  clear k6 j7
  go_wp2_with fail
  refine (H8.out _).mono ?_
  rintro e y8 ⟨rfl, j8⟩
  have k8 := bel_step k7 j8
  clear k7 j8
  go_wp2_with fail
  refine (H9.out _).mono ?_
  rintro e y9 ⟨rfl, j9⟩
  have k9 := bel_step k8 j9
  clear k8 j9
  go_wp2_with fail
  refine (HA.out _).mono ?_
  rintro e y10 ⟨rfl, j10⟩
  have k10 := bel_step k9 j10
  clear k9 j10
  go_wp2_with fail
  refine (HB.out _).mono ?_
  rintro e y11 ⟨rfl, j11⟩
  have k11 := bel_step k10 j11
  clear k10 j11
  go_wp2_with fail
  refine (HC.out _).mono ?_
  rintro e y12 ⟨rfl, j12⟩
  have k12 := bel_step k11 j12
  clear k11 j12
  go_wp2_with fail
  refine (H4.out _).mono ?_
  rintro e y13 ⟨rfl, j13⟩
  have k13 := bel_step k12 j13
  clear k12 j13
  go_wp2_with fail
  refine (HB.out _).mono ?_
  rintro e y14 ⟨rfl, j14⟩
  have k14 := bel_step k13 j14
  clear k13 j14
  go_wp2_with fail
  refine (HD.out _).mono ?_
  rintro e y15 ⟨rfl, j15⟩
  have k15 := bel_step k14 j15
  clear k14 j15
  go_wp2_with fail
  refine (HE.out _).mono ?_
  rintro e y16 ⟨rfl, j16⟩
  have k16 := bel_step k15 j16
  clear k15 j16
  go_wp2_with fail
  refine (HF.out _).mono ?_
  rintro e y17 ⟨rfl, j17⟩
  have k17 := bel_step k16 j17
  clear k16 j17
  go_wp2_with fail
  refine (HG.out _).mono ?_
  rintro e y18 ⟨rfl, j18⟩
  have k18 := bel_step k17 j18
  clear k17 j18
  go_wp2_with fail
  refine (HH.out _).mono ?_
  rintro e y19 ⟨rfl, j19⟩
  have k19 := bel_step k18 j19
  clear k18 j19
  go_wp2
  go_ret
  exact ⟨rfl, k19⟩
end Go.Proofs.Ytjdhidiocchkeaa
