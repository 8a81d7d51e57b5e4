/-
  Plain facts on sets of bytes (no program in it): a set is a plain function of the byte; its four words; what the words of a joined, met, lessened set are; how many are in it; its bytes.
-/
import Derived.WalkKit
namespace Go.Proofs.Ytdehjkmjebplbaa

/-- the number whose bit j is f j, for j below n -/
def bitsOf (f : Nat → Bool) : Nat → Nat
  | 0 => 0
  | n + 1 => bitsOf f n ||| (if f n then 2 ^ n else 0)

theorem bitsOf_lt (f : Nat → Bool) : ∀ n, bitsOf f n < 2 ^ n
  | 0 => by simp [bitsOf]
  | n + 1 => by
    have h := bitsOf_lt f n
    unfold bitsOf
    refine Nat.or_lt_two_pow ?_ ?_
    · rw [Nat.pow_succ]; omega
    · split
      · exact Nat.pow_lt_pow_right (by omega) (by omega)
      · exact Nat.two_pow_pos _

theorem bitsOf_bit (f : Nat → Bool) : ∀ n j, (bitsOf f n).testBit j = (decide (j < n) && f j)
  | 0, j => by simp [bitsOf]
  | n + 1, j => by
    unfold bitsOf
    rw [Nat.testBit_or, bitsOf_bit f n j]
    by_cases hj : j = n
    · subst hj
      cases h : f j <;> simp
    · cases h : f n
      · by_cases hl : j < n
        · simp [hl, Nat.lt_succ_of_lt hl]
        · simp [hl, show ¬ j < n + 1 by omega]
      · rw [if_pos rfl, Nat.testBit_two_pow, decide_eq_false (Ne.symm hj)]
        by_cases hl : j < n
        · simp [hl, Nat.lt_succ_of_lt hl]
        · simp [hl, show ¬ j < n + 1 by omega]

/-- word i of a set -/
def wd (p : Nat → Bool) (i : Nat) : Nat := bitsOf (fun j => p (64 * i + j)) 64

theorem wd_lt (p : Nat → Bool) (i : Nat) : wd p i < 18446744073709551616 := bitsOf_lt _ 64
theorem wd_bit (p : Nat → Bool) (i j : Nat) : (wd p i).testBit j = (decide (j < 64) && p (64 * i + j)) := bitsOf_bit _ 64 j

attribute [irreducible] wd

theorem wd_ext (p : Nat → Bool) (i x : Nat) (hx : x < 18446744073709551616) (h : ∀ j, j < 64 → x.testBit j = p (64 * i + j)) : wd p i = x := by
  apply Nat.eq_of_testBit_eq
  intro j
  rw [wd_bit]
  by_cases hj : j < 64
  · simp [hj, h j hj]
  · have : x.testBit j = false := Nat.testBit_lt_two_pow (Nat.lt_of_lt_of_le (show x < 2 ^ 64 from hx) (Nat.pow_le_pow_right (by decide) (show 64 ≤ j by omega)))
    simp [hj, this]

theorem wd_congr (p q : Nat → Bool) (i : Nat) (h : ∀ j, j < 64 → p (64 * i + j) = q (64 * i + j)) : wd p i = wd q i :=
  wd_ext p i _ (wd_lt q i) fun j hj => by rw [wd_bit, h j hj]; simp [hj]

/-- a set as a value -/
def setV (p : Nat → Bool) : Value := .agg #[.int .u64 (wd p 0 : Nat), .int .u64 (wd p 1 : Nat), .int .u64 (wd p 2 : Nat), .int .u64 (wd p 3 : Nat)]

theorem setV_congr {p q : Nat → Bool} (h : ∀ c, c < 256 → p c = q c) : setV p = setV q := by
  unfold setV
  rw [wd_congr p q 0 (fun j hj => h _ (by omega)), wd_congr p q 1 (fun j hj => h _ (by omega)), wd_congr p q 2 (fun j hj => h _ (by omega)), wd_congr p q 3 (fun j hj => h _ (by omega))]

/-- are two sets the same? -/
def sameS (p q : Nat → Bool) : Bool := decide (wd p 0 = wd q 0) && (decide (wd p 1 = wd q 1) && (decide (wd p 2 = wd q 2) && decide (wd p 3 = wd q 3)))

theorem bit_of_wd (p : Nat → Bool) (c : Nat) : p c = (wd p (c / 64)).testBit (c % 64) := by
  rw [wd_bit, decide_eq_true (Nat.mod_lt _ (by omega)), Bool.true_and, Nat.div_add_mod]

theorem sameS_iff (p q : Nat → Bool) : sameS p q = true ↔ ∀ c, c < 256 → p c = q c := by
  unfold sameS
  simp only [Bool.and_eq_true, decide_eq_true_eq]
  constructor
  · rintro ⟨h0, h1, h2, h3⟩ c hc
    rw [bit_of_wd p c, bit_of_wd q c]
    have h4 : c / 64 = 0 ∨ c / 64 = 1 ∨ c / 64 = 2 ∨ c / 64 = 3 := by omega
    rcases h4 with h | h | h | h <;> rw [h] <;> simp only [h0, h1, h2, h3]
  · intro h
    exact ⟨wd_congr p q 0 (fun j hj => h _ (by omega)), wd_congr p q 1 (fun j hj => h _ (by omega)), wd_congr p q 2 (fun j hj => h _ (by omega)), wd_congr p q 3 (fun j hj => h _ (by omega))⟩

theorem sameS_of {p q : Nat → Bool} (h : ∀ c, c < 256 → p c = q c) : sameS p q = true := (sameS_iff p q).2 h

/-- the set that four words are -/
def ofWords (x0 x1 x2 x3 : Nat) (c : Nat) : Bool := (if c / 64 = 0 then x0 else if c / 64 = 1 then x1 else if c / 64 = 2 then x2 else x3).testBit (c % 64)

theorem ofWords_wd (x0 x1 x2 x3 : Nat) (h0 : x0 < 18446744073709551616) (h1 : x1 < 18446744073709551616) (h2 : x2 < 18446744073709551616) (h3 : x3 < 18446744073709551616) :
    wd (ofWords x0 x1 x2 x3) 0 = x0 ∧ wd (ofWords x0 x1 x2 x3) 1 = x1 ∧ wd (ofWords x0 x1 x2 x3) 2 = x2 ∧ wd (ofWords x0 x1 x2 x3) 3 = x3 := by
  refine ⟨wd_ext _ _ _ h0 fun j hj => ?_, wd_ext _ _ _ h1 fun j hj => ?_, wd_ext _ _ _ h2 fun j hj => ?_, wd_ext _ _ _ h3 fun j hj => ?_⟩
  · unfold ofWords; rw [show (64 * 0 + j) / 64 = 0 by omega, show (64 * 0 + j) % 64 = j by omega]; simp
  · unfold ofWords; rw [show (64 * 1 + j) / 64 = 1 by omega, show (64 * 1 + j) % 64 = j by omega]; simp
  · unfold ofWords; rw [show (64 * 2 + j) / 64 = 2 by omega, show (64 * 2 + j) % 64 = j by omega]; simp
  · unfold ofWords; rw [show (64 * 3 + j) / 64 = 3 by omega, show (64 * 3 + j) % 64 = j by omega]; simp

theorem setV_words (x0 x1 x2 x3 : Nat) (h0 : x0 < 18446744073709551616) (h1 : x1 < 18446744073709551616) (h2 : x2 < 18446744073709551616) (h3 : x3 < 18446744073709551616) :
    (.agg #[.int .u64 (x0 : Nat), .int .u64 (x1 : Nat), .int .u64 (x2 : Nat), .int .u64 (x3 : Nat)] : Value) = setV (ofWords x0 x1 x2 x3) := by
  obtain ⟨e0, e1, e2, e3⟩ := ofWords_wd x0 x1 x2 x3 h0 h1 h2 h3
  unfold setV
  rw [e0, e1, e2, e3]

def orS (p q : Nat → Bool) (c : Nat) : Bool := p c || q c
def andS (p q : Nat → Bool) (c : Nat) : Bool := p c && q c
def lessS (p q : Nat → Bool) (c : Nat) : Bool := p c && !q c
def noS (_ : Nat) : Bool := false
/-- p with c -/
def putS (p : Nat → Bool) (c d : Nat) : Bool := p d || decide (d = c)

theorem wd_or (p q : Nat → Bool) (i : Nat) : wd (orS p q) i = wd p i ||| wd q i :=
  wd_ext _ _ _ (Nat.or_lt_two_pow (n := 64) (wd_lt p i) (wd_lt q i)) fun j hj => by rw [Nat.testBit_or, wd_bit, wd_bit]; simp [hj, orS]
theorem wd_and (p q : Nat → Bool) (i : Nat) : wd (andS p q) i = wd p i &&& wd q i :=
  wd_ext _ _ _ (Nat.lt_of_le_of_lt Nat.and_le_left (wd_lt p i)) fun j hj => by rw [Nat.testBit_and, wd_bit, wd_bit]; simp [hj, andS]
theorem wd_less (p q : Nat → Bool) (i : Nat) : wd (lessS p q) i = wd p i &&& (18446744073709551615 - wd q i) :=
  wd_ext _ _ _ (Nat.lt_of_le_of_lt Nat.and_le_left (wd_lt p i)) fun j hj => by
    have e : 18446744073709551615 - wd q i = 2 ^ 64 - (wd q i + 1) := by omega
    rw [Nat.testBit_and, e, Nat.testBit_two_pow_sub_succ (wd_lt q i), wd_bit, wd_bit]; simp [hj, lessS]
theorem wd_no (i : Nat) : wd noS i = 0 := wd_ext _ _ _ (by decide) fun j hj => by simp [noS]
theorem wd_put (p : Nat → Bool) (c i : Nat) (h : c / 64 = i) : wd (putS p c) i = wd p i ||| 2 ^ (c % 64) :=
  wd_ext _ _ _ (Nat.or_lt_two_pow (n := 64) (wd_lt p i) (Nat.pow_lt_pow_right (by omega) (Nat.mod_lt _ (by omega)))) fun j hj => by
    rw [Nat.testBit_or, wd_bit, Nat.testBit_two_pow]
    unfold putS
    congr 1
    · simp [hj]
    · rw [decide_eq_decide]; omega
theorem wd_put_other (p : Nat → Bool) (c i : Nat) (h : c / 64 ≠ i) : wd (putS p c) i = wd p i :=
  wd_congr _ _ _ fun j hj => by
    unfold putS
    rw [decide_eq_false (by omega), Bool.or_false]

/-! how many -/
def cntS (p : Nat → Bool) : Nat := (List.range 256).countP p

theorem countP_range_add (f : Nat → Bool) (m : Nat) : ∀ n, (List.range (m + n)).countP f = (List.range m).countP f + (List.range n).countP (fun j => f (m + j))
  | 0 => by simp
  | n + 1 => by
    rw [← Nat.add_assoc, List.range_succ, List.countP_append, countP_range_add f m n, List.range_succ, List.countP_append]
    simp [Nat.add_assoc]

theorem countP_range_congr (f g : Nat → Bool) (n : Nat) (h : ∀ j, j < n → f j = g j) : (List.range n).countP f = (List.range n).countP g :=
  List.countP_congr (fun x hx => by rw [h x (by simpa using hx)])

theorem cntS_congr {p q : Nat → Bool} (h : ∀ c, c < 256 → p c = q c) : cntS p = cntS q := countP_range_congr _ _ _ h

/-- the ones among the low n bits -/
def ones (n x : Nat) : Nat := (List.range n).countP (fun j => x.testBit j)

theorem ones_le (n x : Nat) : ones n x ≤ n := by
  have := List.countP_le_length (p := fun j => x.testBit j) (l := List.range n)
  simpa [ones] using this

theorem ones_wd (p : Nat → Bool) (i : Nat) : ones 64 (wd p i) = (List.range 64).countP (fun j => p (64 * i + j)) :=
  countP_range_congr _ _ _ fun j hj => by rw [wd_bit]; simp [hj]

theorem cntS_words (p : Nat → Bool) : cntS p = ones 64 (wd p 0) + ones 64 (wd p 1) + ones 64 (wd p 2) + ones 64 (wd p 3) := by
  unfold cntS
  rw [ones_wd, ones_wd, ones_wd, ones_wd, show 256 = 192 + 64 from rfl, countP_range_add, show 192 = 128 + 64 from rfl, countP_range_add, show 128 = 64 + 64 from rfl, countP_range_add]
  simp

theorem cntS_le (p : Nat → Bool) : cntS p ≤ 256 := by
  have := List.countP_le_length (p := p) (l := List.range 256)
  simpa [cntS] using this

/-- bytes, rising -/
def bytesUpto (p : Nat → Bool) (n : Nat) : List UInt8 := ((List.range n).filter p).map UInt8.ofNat
def bytesS (p : Nat → Bool) : List UInt8 := bytesUpto p 256

theorem bytesUpto_succ (p : Nat → Bool) (n : Nat) : bytesUpto p (n + 1) = bytesUpto p n ++ (if p n then [UInt8.ofNat n] else []) := by
  unfold bytesUpto
  rw [List.range_succ, List.filter_append, List.map_append]
  cases h : p n <;> simp [h]
theorem bytesUpto_len (p : Nat → Bool) (n : Nat) : (bytesUpto p n).length = (List.range n).countP p := by
  unfold bytesUpto; rw [List.length_map, List.countP_eq_length_filter]
theorem bytesS_len (p : Nat → Bool) : (bytesS p).length = cntS p := bytesUpto_len p 256
theorem bytesUpto_le (p : Nat → Bool) (n : Nat) : (bytesUpto p n).length ≤ n := by
  rw [bytesUpto_len]
  have := List.countP_le_length (p := p) (l := List.range n)
  simpa using this

theorem bytesS_congr {p q : Nat → Bool} (h : ∀ c, c < 256 → p c = q c) : bytesS p = bytesS q := by
  unfold bytesS bytesUpto
  rw [List.filter_congr (fun x hx => h x (by simpa using hx))]

theorem mem_bytesS (p : Nat → Bool) (b : UInt8) : b ∈ bytesS p ↔ p b.toNat = true := by
  unfold bytesS bytesUpto
  simp only [List.mem_map, List.mem_filter, List.mem_range]
  constructor
  · rintro ⟨c, ⟨hc, hp⟩, rfl⟩
    rw [UInt8.toNat_ofNat', Nat.mod_eq_of_lt hc]
    exact hp
  · intro hp
    exact ⟨b.toNat, ⟨b.toNat_lt, hp⟩, by simp⟩

/-- the set of a text -/
def ofS (l : List UInt8) (c : Nat) : Bool := l.any fun b => decide (b.toNat = c)

theorem ofS_iff (l : List UInt8) (c : Nat) : ofS l c = true ↔ ∃ b ∈ l, b.toNat = c := by
  unfold ofS
  simp

theorem ofS_bytesS (p : Nat → Bool) (c : Nat) (hc : c < 256) : ofS (bytesS p) c = p c := by
  rw [Bool.eq_iff_iff, ofS_iff]
  constructor
  · rintro ⟨b, hb, rfl⟩
    exact (mem_bytesS p b).1 hb
  · intro hp
    refine ⟨UInt8.ofNat c, (mem_bytesS p _).2 ?_, ?_⟩ <;> rw [UInt8.toNat_ofNat', Nat.mod_eq_of_lt hc]
    exact hp

theorem ofS_snoc (l : List UInt8) (b : UInt8) (c : Nat) : ofS (l ++ [b]) c = putS (ofS l) b.toNat c := by
  unfold ofS putS
  rw [List.any_append]
  simp only [List.any_cons, List.any_nil, Bool.or_false]
  congr 1
  rw [decide_eq_decide]; exact eq_comm

/-- ranges -/
def heldI (n : Int) : Nat := (min (max n 0) 255).toNat
def rangeS (lo hi : Int) (c : Nat) : Bool := decide (lo ≤ hi) && (decide (heldI lo ≤ c) && decide (c ≤ heldI hi))

theorem heldI_le (n : Int) : heldI n ≤ 255 := by unfold heldI; omega
theorem heldI_in (n : Nat) (h : n ≤ 255) : heldI (n : Int) = n := by unfold heldI; omega

/-- are p's all q's? -/
def subS (p q : Nat → Bool) : Bool := sameS (lessS p q) noS

theorem subS_iff (p q : Nat → Bool) : subS p q = true ↔ ∀ c, c < 256 → p c = true → q c = true := by
  unfold subS
  rw [sameS_iff]
  unfold lessS noS
  refine forall_congr' fun c => forall_congr' fun _ => ?_
  cases p c <;> cases q c <;> simp
end Go.Proofs.Ytdehjkmjebplbaa
