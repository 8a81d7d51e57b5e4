/-
  Plain facts on counting a number's ones by halves, fours, bytes and sums (no program in it), as math/bits.OnesCount64 goes; and its contract.
-/
import Derived.Test.YtmpneifjjnfckaaChecked
import Derived.Test.YtmpneifjjnfckaaSetPlain
import Derived.Lib.Hide
import Derived.Lib.Walk
import Derived.Laws.BitsAllLaws
namespace Go.Proofs.Ytmpneifjjnfckaa
open Go.RowKit

theorem and_split (k a b c d : Nat) (ha : a < 2 ^ k) (hc : c < 2 ^ k) : (a + 2 ^ k * b) &&& (c + 2 ^ k * d) = (a &&& c) + 2 ^ k * (b &&& d) := by
  apply Nat.eq_of_testBit_eq
  intro j
  rw [Nat.add_comm a, Nat.add_comm c, Nat.add_comm (a &&& c), Nat.testBit_and, Nat.testBit_two_pow_mul_add _ ha, Nat.testBit_two_pow_mul_add _ hc, Nat.testBit_two_pow_mul_add _ (Nat.lt_of_le_of_lt Nat.and_le_left ha)]
  split <;> rw [Nat.testBit_and]

theorem and_split8 (a b c d : Nat) (ha : a < 256) (hc : c < 256) : (a + 256 * b) &&& (c + 256 * d) = (a &&& c) + 256 * (b &&& d) := and_split 8 a b c d ha hc

/-- a byte n times -/
def rep (c : Nat) : Nat → Nat
  | 0 => 0
  | n + 1 => c + 256 * rep c n

def p1 (n x : Nat) : Nat := (x / 2 &&& rep 85 n) + (x &&& rep 85 n)
def p2 (n x : Nat) : Nat := (x / 4 &&& rep 51 n) + (x &&& rep 51 n)
def p3 (n x : Nat) : Nat := (x / 16 + x) &&& rep 15 n
def b1 (b : Nat) : Nat := (b / 2 &&& 85) + (b &&& 85)
def b2 (b : Nat) : Nat := (b / 4 &&& 51) + (b &&& 51)

theorem b1_lt : ∀ b : Fin 256, b1 b.val < 256 := by decide +kernel
theorem b1_half : ∀ b : Fin 256, ∀ r : Fin 2, (b.val / 2 + 128 * r.val) &&& 85 = b.val / 2 &&& 85 := by decide +kernel
theorem b2_lt : ∀ b : Fin 256, b2 b.val < 256 := by decide +kernel
theorem b2_half : ∀ b : Fin 256, ∀ r : Fin 4, (b.val / 4 + 64 * r.val) &&& 51 = b.val / 4 &&& 51 := by decide +kernel
theorem b12_le : ∀ b : Fin 256, b2 (b1 b.val) % 16 ≤ 4 ∧ b2 (b1 b.val) ≤ 68 := by decide +kernel
theorem b3_half : ∀ b : Fin 256, ∀ r : Fin 5, (b2 (b1 b.val) / 16 + b2 (b1 b.val) + 16 * r.val) &&& 15 = ones 8 b.val := by decide +kernel

theorem p1_step (n b r : Nat) (hb : b < 256) : p1 (n + 1) (b + 256 * r) = b1 b + 256 * p1 n r := by
  unfold p1 b1
  have e : (b + 256 * r) / 2 = (b / 2 + 128 * (r % 2)) + 256 * (r / 2) := by omega
  rw [e]
  show (_ &&& (85 + 256 * rep 85 n)) + (_ &&& (85 + 256 * rep 85 n)) = _
  have hh := b1_half ⟨b, hb⟩ ⟨r % 2, by omega⟩
  simp only at hh
  rw [and_split8 _ _ _ _ (by omega) (by omega), and_split8 _ _ _ _ hb (by omega), hh]
  omega
theorem p2_step (n b r : Nat) (hb : b < 256) : p2 (n + 1) (b + 256 * r) = b2 b + 256 * p2 n r := by
  unfold p2 b2
  have e : (b + 256 * r) / 4 = (b / 4 + 64 * (r % 4)) + 256 * (r / 4) := by omega
  rw [e]
  show (_ &&& (51 + 256 * rep 51 n)) + (_ &&& (51 + 256 * rep 51 n)) = _
  have hh := b2_half ⟨b, hb⟩ ⟨r % 4, by omega⟩
  simp only at hh
  rw [and_split8 _ _ _ _ (by omega) (by omega), and_split8 _ _ _ _ hb (by omega), hh]
  omega

/-- the count of each byte, at the byte's place -/
def popD : Nat → Nat → Nat
  | 0, _ => 0
  | n + 1, x => ones 8 (x % 256) + 256 * popD n (x / 256)

theorem split256 (x : Nat) : x = x % 256 + 256 * (x / 256) := by omega

theorem p12_step (n x : Nat) : p2 (n + 1) (p1 (n + 1) x) = b2 (b1 (x % 256)) + 256 * p2 n (p1 n (x / 256)) := by
  have hb : x % 256 < 256 := by omega
  have e : p1 (n + 1) x = b1 (x % 256) + 256 * p1 n (x / 256) := by
    have := p1_step n (x % 256) (x / 256) hb
    rwa [← split256] at this
  rw [e, p2_step n _ _ (b1_lt ⟨x % 256, hb⟩)]

theorem p12_low : ∀ n x, p2 n (p1 n x) % 16 ≤ 4
  | 0, x => by simp [p2, p1, rep]
  | n + 1, x => by
    rw [p12_step]
    have := (b12_le ⟨x % 256, by omega⟩).1
    simp only at this
    omega

theorem p123 : ∀ n x, p3 n (p2 n (p1 n x)) = popD n x
  | 0, x => by simp [p3, rep, popD]
  | n + 1, x => by
    have hb : x % 256 < 256 := by omega
    have hl := p12_low n (x / 256)
    have ih := p123 n (x / 256)
    rw [p12_step, popD, ← ih]
    unfold p3
    obtain ⟨B, hB⟩ : ∃ B, b2 (b1 (x % 256)) = B := ⟨_, rfl⟩
    obtain ⟨R, hR⟩ : ∃ R, p2 n (p1 n (x / 256)) = R := ⟨_, rfl⟩
    have h3 := b3_half ⟨x % 256, hb⟩
    have h4 := (b12_le ⟨x % 256, hb⟩).2
    simp only at h3 h4
    rw [hR] at hl ⊢
    rw [hB] at h3 h4 ⊢
    have e : (B + 256 * R) / 16 + (B + 256 * R) = (B / 16 + B + 16 * (R % 16)) + 256 * (R / 16 + R) := by omega
    rw [e]
    show _ &&& (15 + 256 * rep 15 n) = _
    rw [and_split8 _ _ _ _ (by omega) (by omega), h3 ⟨R % 16, by omega⟩]

theorem ones_split (m n x : Nat) : ones (m + n) x = ones m x + ones n (x / 2 ^ m) := by
  unfold ones
  rw [countP_range_add]
  congr 1
  exact countP_range_congr _ _ _ fun j _ => by rw [Nat.testBit_div_two_pow, Nat.add_comm]
theorem ones_mod (x : Nat) : ones 8 (x % 256) = ones 8 x :=
  countP_range_congr _ _ _ fun j hj => by rw [show 256 = 2 ^ 8 from rfl, Nat.testBit_mod_two_pow]; simp [hj]

/-- the sum of the bytes' counts -/
def popSum : Nat → Nat → Nat
  | 0, _ => 0
  | n + 1, x => ones 8 (x % 256) + popSum n (x / 256)
theorem popSum_ones : ∀ n x, popSum n x = ones (8 * n) x
  | 0, x => by simp [popSum, ones]
  | n + 1, x => by
    rw [popSum, popSum_ones n, ones_mod, show 8 * (n + 1) = 8 + 8 * n by omega, ones_split]

theorem div_digit (a r : Nat) (h : a < 256) : (a + 256 * r) / 256 = r := by omega
theorem mod_digit (a r : Nat) (h : a < 128) : (a + 256 * r) % 128 = a := by omega


theorem lin1 (a0 a1 a2 a3 a4 a5 a6 a7 : Nat) : a0 + 256 * (a1 + 256 * (a2 + 256 * (a3 + 256 * (a4 + 256 * (a5 + 256 * (a6 + 256 * a7)))))) + (a1 + 256 * (a2 + 256 * (a3 + 256 * (a4 + 256 * (a5 + 256 * (a6 + 256 * a7)))))) =
    (a0 + a1) + 256 * ((a1 + a2) + 256 * ((a2 + a3) + 256 * ((a3 + a4) + 256 * ((a4 + a5) + 256 * ((a5 + a6) + 256 * ((a6 + a7) + 256 * a7)))))) := by omega
theorem lin2 (c0 c1 c2 c3 c4 c5 c6 c7 : Nat) : c0 + 256 * (c1 + 256 * (c2 + 256 * (c3 + 256 * (c4 + 256 * (c5 + 256 * (c6 + 256 * c7)))))) + (c2 + 256 * (c3 + 256 * (c4 + 256 * (c5 + 256 * (c6 + 256 * c7))))) =
    (c0 + c2) + 256 * ((c1 + c3) + 256 * ((c2 + c4) + 256 * ((c3 + c5) + 256 * ((c4 + c6) + 256 * ((c5 + c7) + 256 * (c6 + 256 * c7)))))) := by omega
theorem lin3 (c0 c1 c2 c3 c4 c5 c6 c7 : Nat) : c0 + 256 * (c1 + 256 * (c2 + 256 * (c3 + 256 * (c4 + 256 * (c5 + 256 * (c6 + 256 * c7)))))) + (c4 + 256 * (c5 + 256 * (c6 + 256 * c7))) =
    (c0 + c4) + 256 * ((c1 + c5) + 256 * ((c2 + c6) + 256 * ((c3 + c7) + 256 * (c4 + 256 * (c5 + 256 * (c6 + 256 * c7)))))) := by omega
theorem poly_le (N c0 c1 c2 c3 c4 c5 c6 c7 : Nat) (h0 : c0 ≤ N) (h1 : c1 ≤ N) (h2 : c2 ≤ N) (h3 : c3 ≤ N) (h4 : c4 ≤ N) (h5 : c5 ≤ N) (h6 : c6 ≤ N) (h7 : c7 ≤ N) :
    c0 + 256 * (c1 + 256 * (c2 + 256 * (c3 + 256 * (c4 + 256 * (c5 + 256 * (c6 + 256 * c7)))))) ≤ N * 72340172838076673 := by omega

theorem stage1 (a0 a1 a2 a3 a4 a5 a6 a7 : Nat) (h0 : a0 ≤ 8) (X : Nat) (hX : X = a0 + 256 * (a1 + 256 * (a2 + 256 * (a3 + 256 * (a4 + 256 * (a5 + 256 * (a6 + 256 * (a7)))))))) :
    X + X / 256 = (a0 + a1) + 256 * ((a1 + a2) + 256 * ((a2 + a3) + 256 * ((a3 + a4) + 256 * ((a4 + a5) + 256 * ((a5 + a6) + 256 * ((a6 + a7) + 256 * (a7))))))) := by
  have k1 : X / 256 = a1 + 256 * (a2 + 256 * (a3 + 256 * (a4 + 256 * (a5 + 256 * (a6 + 256 * (a7)))))) := (congrArg (· / 256) hX).trans (div_digit _ _ (Nat.lt_of_le_of_lt h0 (by decide)))
  rw [k1, hX]
  exact lin1 a0 a1 a2 a3 a4 a5 a6 a7
theorem stage2 (c0 c1 c2 c3 c4 c5 c6 c7 : Nat) (h0 : c0 ≤ 16) (h1 : c1 ≤ 16) (X : Nat) (hX : X = c0 + 256 * (c1 + 256 * (c2 + 256 * (c3 + 256 * (c4 + 256 * (c5 + 256 * (c6 + 256 * (c7)))))))) :
    X + X / 65536 = (c0 + c2) + 256 * ((c1 + c3) + 256 * ((c2 + c4) + 256 * ((c3 + c5) + 256 * ((c4 + c6) + 256 * ((c5 + c7) + 256 * (c6 + 256 * (c7))))))) := by
  have k0 : X / 65536 = X / 256 / 256 := (Nat.div_div_eq_div_mul X 256 256).symm
  have k1 : X / 256 = c1 + 256 * (c2 + 256 * (c3 + 256 * (c4 + 256 * (c5 + 256 * (c6 + 256 * (c7)))))) := (congrArg (· / 256) hX).trans (div_digit _ _ (Nat.lt_of_le_of_lt h0 (by decide)))
  have k2 : X / 256 / 256 = c2 + 256 * (c3 + 256 * (c4 + 256 * (c5 + 256 * (c6 + 256 * (c7))))) := (congrArg (· / 256) k1).trans (div_digit _ _ (Nat.lt_of_le_of_lt h1 (by decide)))
  rw [k0, k2, hX]
  exact lin2 c0 c1 c2 c3 c4 c5 c6 c7
theorem stage3 (c0 c1 c2 c3 c4 c5 c6 c7 : Nat) (h0 : c0 ≤ 32) (h1 : c1 ≤ 32) (h2 : c2 ≤ 32) (h3 : c3 ≤ 32) (X : Nat) (hX : X = c0 + 256 * (c1 + 256 * (c2 + 256 * (c3 + 256 * (c4 + 256 * (c5 + 256 * (c6 + 256 * (c7)))))))) :
    X + X / 4294967296 = (c0 + c4) + 256 * ((c1 + c5) + 256 * ((c2 + c6) + 256 * ((c3 + c7) + 256 * (c4 + 256 * (c5 + 256 * (c6 + 256 * (c7))))))) := by
  have k0 : X / 4294967296 = X / 256 / 256 / 256 / 256 := by
    rw [Nat.div_div_eq_div_mul, Nat.div_div_eq_div_mul, Nat.div_div_eq_div_mul]
  have k1 : X / 256 = c1 + 256 * (c2 + 256 * (c3 + 256 * (c4 + 256 * (c5 + 256 * (c6 + 256 * (c7)))))) := (congrArg (· / 256) hX).trans (div_digit _ _ (Nat.lt_of_le_of_lt h0 (by decide)))
  have k2 : X / 256 / 256 = c2 + 256 * (c3 + 256 * (c4 + 256 * (c5 + 256 * (c6 + 256 * (c7))))) := (congrArg (· / 256) k1).trans (div_digit _ _ (Nat.lt_of_le_of_lt h1 (by decide)))
  have k3 : X / 256 / 256 / 256 = c3 + 256 * (c4 + 256 * (c5 + 256 * (c6 + 256 * (c7)))) := (congrArg (· / 256) k2).trans (div_digit _ _ (Nat.lt_of_le_of_lt h2 (by decide)))
  have k4 : X / 256 / 256 / 256 / 256 = c4 + 256 * (c5 + 256 * (c6 + 256 * (c7))) := (congrArg (· / 256) k3).trans (div_digit _ _ (Nat.lt_of_le_of_lt h3 (by decide)))
  rw [k0, k4, hX]
  exact lin3 c0 c1 c2 c3 c4 c5 c6 c7

theorem fold8d (a0 a1 a2 a3 a4 a5 a6 a7 : Nat) (h0 : a0 ≤ 8) (h1 : a1 ≤ 8) (h2 : a2 ≤ 8) (h3 : a3 ≤ 8) (h4 : a4 ≤ 8) (h5 : a5 ≤ 8) (h6 : a6 ≤ 8) (h7 : a7 ≤ 8) (X Y Z : Nat)
    (hX : X = a0 + 256 * (a1 + 256 * (a2 + 256 * (a3 + 256 * (a4 + 256 * (a5 + 256 * (a6 + 256 * (a7)))))))) (hY : Y = X + X / 256) (hZ : Z = Y + Y / 65536) :
    X ≤ 8 * 72340172838076673 ∧ Y ≤ 16 * 72340172838076673 ∧ Z ≤ 32 * 72340172838076673 ∧ Z + Z / 4294967296 ≤ 64 * 72340172838076673 ∧
    (Z + Z / 4294967296) % 128 = ((a0 + a1) + (a2 + a3)) + ((a4 + a5) + (a6 + a7)) := by
  have q0 : a0 + a1 ≤ 16 := Nat.add_le_add h0 h1
  have q1 : a1 + a2 ≤ 16 := Nat.add_le_add h1 h2
  have q2 : a2 + a3 ≤ 16 := Nat.add_le_add h2 h3
  have q3 : a3 + a4 ≤ 16 := Nat.add_le_add h3 h4
  have q4 : a4 + a5 ≤ 16 := Nat.add_le_add h4 h5
  have q5 : a5 + a6 ≤ 16 := Nat.add_le_add h5 h6
  have q6 : a6 + a7 ≤ 16 := Nat.add_le_add h6 h7
  have q7 : a7 ≤ 16 := Nat.le_trans h7 (by decide)
  have s0 : (a0 + a1) + (a2 + a3) ≤ 32 := Nat.add_le_add q0 q2
  have s1 : (a1 + a2) + (a3 + a4) ≤ 32 := Nat.add_le_add q1 q3
  have s2 : (a2 + a3) + (a4 + a5) ≤ 32 := Nat.add_le_add q2 q4
  have s3 : (a3 + a4) + (a5 + a6) ≤ 32 := Nat.add_le_add q3 q5
  have s4 : (a4 + a5) + (a6 + a7) ≤ 32 := Nat.add_le_add q4 q6
  have s5 : (a5 + a6) + a7 ≤ 32 := Nat.add_le_add q5 q7
  have s6 : a6 + a7 ≤ 32 := Nat.le_trans q6 (by decide)
  have s7 : a7 ≤ 32 := Nat.le_trans q7 (by decide)
  have e1 := hY.trans (stage1 a0 a1 a2 a3 a4 a5 a6 a7 h0 X hX)
  have e2 := hZ.trans (stage2 (a0 + a1) (a1 + a2) (a2 + a3) (a3 + a4) (a4 + a5) (a5 + a6) (a6 + a7) a7 q0 q1 Y e1)
  have e3 := stage3 _ _ _ _ _ _ _ _ s0 s1 s2 s3 Z e2
  exact ⟨Nat.le_trans (Nat.le_of_eq hX) (poly_le 8 a0 a1 a2 a3 a4 a5 a6 a7 h0 h1 h2 h3 h4 h5 h6 h7), Nat.le_trans (Nat.le_of_eq e1) (poly_le 16 _ _ _ _ _ _ _ _ q0 q1 q2 q3 q4 q5 q6 q7), Nat.le_trans (Nat.le_of_eq e2) (poly_le 32 _ _ _ _ _ _ _ _ s0 s1 s2 s3 s4 s5 s6 s7),
    Nat.le_trans (Nat.le_of_eq e3) (poly_le 64 _ _ _ _ _ _ _ _ (Nat.add_le_add s0 s4) (Nat.add_le_add s1 s5) (Nat.add_le_add s2 s6) (Nat.add_le_add s3 s7) (Nat.le_trans s4 (by decide)) (Nat.le_trans s5 (by decide)) (Nat.le_trans s6 (by decide)) (Nat.le_trans s7 (by decide))),
    (congrArg (· % 128) e3).trans (mod_digit _ _ (Nat.lt_of_le_of_lt (Nat.add_le_add s0 s4) (by decide)))⟩

theorem sum8 (a0 a1 a2 a3 a4 a5 a6 a7 : Nat) : ((a0 + a1) + (a2 + a3)) + ((a4 + a5) + (a6 + a7)) = a0 + (a1 + (a2 + (a3 + (a4 + (a5 + (a6 + a7)))))) := by omega

/-- the sums by shifts -/
theorem fold8 (x X Y Z : Nat) (hX : X = popD 8 x) (hY : Y = X + X / 256) (hZ : Z = Y + Y / 65536) :
    X ≤ 8 * 72340172838076673 ∧ Y ≤ 16 * 72340172838076673 ∧ Z ≤ 32 * 72340172838076673 ∧ Z + Z / 4294967296 ≤ 64 * 72340172838076673 ∧ (Z + Z / 4294967296) % 128 = ones 64 x := by
  have e := popSum_ones 8 x
  simp only [popD, popSum, Nat.mul_zero, Nat.add_zero] at hX e
  have h := fold8d _ _ _ _ _ _ _ _ (ones_le 8 _) (ones_le 8 _) (ones_le 8 _) (ones_le 8 _) (ones_le 8 _) (ones_le 8 _) (ones_le 8 _) (ones_le 8 _) X Y Z hX hY hZ
  exact ⟨h.1, h.2.1, h.2.2.1, h.2.2.2.1, h.2.2.2.2.trans ((sum8 _ _ _ _ _ _ _ _).trans e)⟩

theorem rep85 : rep 85 8 = 6148914691236517205 := by decide
theorem rep51 : rep 51 8 = 3689348814741910323 := by decide
theorem rep15 : rep 15 8 = 1085102592571150095 := by decide

end Go.Proofs.Ytmpneifjjnfckaa
