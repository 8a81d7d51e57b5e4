/-
  Plain functions on bytes and numbers (no program in it): what a digit, a name's byte, a number, a name's length and lines are, with their small laws.
-/
import Derived.WalkKit
namespace Go.Proofs.Ytgdaipgmlibpiaa

/-- a digit's byte -/
def digB (c : Int) : Bool := decide (48 ≤ c) && decide (c ≤ 57)
/-- a byte of a name, not its first -/
def namB (c : Int) : Bool := (decide (97 ≤ c) && decide (c ≤ 122)) || (decide (65 ≤ c) && decide (c ≤ 90)) || (c == 95) || digB c
/-- the bound of numbers -/
def maxNum : Int := 4611686018427387904

theorem digB_yes {c : Int} (h : digB c = true) : 48 ≤ c ∧ c ≤ 57 := by simpa [digB] using h
theorem digB_mk {c : Int} (h : 48 ≤ c ∧ c ≤ 57) : digB c = true := by simpa [digB] using h
theorem digB_no {c : Int} (h : digB c = false) : c < 48 ∨ 57 < c := by
  by_cases h1 : 48 ≤ c
  · by_cases h2 : c ≤ 57
    · rw [digB_mk ⟨h1, h2⟩] at h; cases h
    · omega
  · omega

theorem toList_data (s : ByteArray) : s.toList = s.data.toList := by
  exact ByteArray.toList_eq s

/-- Number's loop on what is left, at the number so far -/
def numGo : List UInt8 → Int → Option Int
  | [], n => some n
  | c :: r, n => if digB c.toNat then (if (maxNum - ((c.toNat : Int) - 48)) / 10 < n then none else numGo r (n * 10 + ((c.toNat : Int) - 48))) else none
/-- Number, as an option -/
def numB (l : List UInt8) : Option Int := if l.isEmpty then none else numGo l 0

theorem drop_cons (s : ByteArray) (k : Nat) (h : k < s.size) : s.data.toList.drop k = s[k] :: s.data.toList.drop (k + 1) := by
  rw [List.drop_eq_getElem_cons (by simpa using h)]; rfl

theorem numGo_bad {c : UInt8} {r : List UInt8} {n : Int} (h : digB c.toNat = false) : numGo (c :: r) n = none := by simp [numGo, h]
theorem numGo_big {c : UInt8} {r : List UInt8} {n : Int} (h : digB c.toNat = true) (g : (4611686018427387904 - ((c.toNat : Int) - 48)) / 10 < n) : numGo (c :: r) n = none := by
  have g' : (maxNum - ((c.toNat : Int) - 48)) / 10 < n := g
  simp [numGo, h, g']
theorem numGo_step {c : UInt8} {r : List UInt8} {n : Int} (h : digB c.toNat = true) (g : ¬ (4611686018427387904 - ((c.toNat : Int) - 48)) / 10 < n) : numGo (c :: r) n = numGo r (n * 10 + ((c.toNat : Int) - 48)) := by
  have g' : ¬ (maxNum - ((c.toNat : Int) - 48)) / 10 < n := g
  simp [numGo, h, g']
/-- how many bytes at the beginning are a name's -/
def nrun (l : List UInt8) : Int := (l.takeWhile fun c => namB c.toNat).length
/-- NameLen -/
def nlen (l : List UInt8) (a : Int) : Int := if a < 0 then 0 else if (l.length : Int) ≤ a then 0 else if digB ((l.getD a.toNat 0).toNat) then 0 else nrun (l.drop a.toNat)
/-- Name -/
def nameB (l : List UInt8) : Bool := !l.isEmpty && (nlen l 0 == (l.length : Int))

theorem nlen_out {l : List UInt8} {a : Int} (h : ¬ a < 0) (g : (l.length : Int) ≤ a) : nlen l a = 0 := by simp [nlen, h, g]
theorem getD_drop {l r : List UInt8} {n : Nat} {c : UInt8} (h : l.drop n = c :: r) : n < l.length ∧ l.getD n 0 = c := by
  have h1 : n < l.length := by
    by_cases hn : n < l.length
    · exact hn
    · rw [List.drop_of_length_le (by omega)] at h; cases h
  refine ⟨h1, ?_⟩
  rw [List.drop_eq_getElem_cons h1] at h
  simp only [List.cons.injEq] at h
  simp [h1, h.1]
theorem nlen_dig {l r : List UInt8} {n : Nat} {c : UInt8} (h : l.drop n = c :: r) (hd : digB (c.toNat : Int) = true) : nlen l (n : Int) = 0 := by
  obtain ⟨h1, h2⟩ := getD_drop h
  simp only [nlen, Int.toNat_natCast, h2, hd, if_true]; simp
theorem nlen_run {l r : List UInt8} {n : Nat} {c : UInt8} (h : l.drop n = c :: r) (hd : digB (c.toNat : Int) = false) : nlen l (n : Int) = nrun (l.drop n) := by
  obtain ⟨h1, h2⟩ := getD_drop h
  have g1 : ¬ ((n : Int) < 0) := by omega
  have g2 : ¬ ((l.length : Int) ≤ n) := by omega
  simp only [nlen, Int.toNat_natCast, h2, hd, g1, g2, if_false]; simp
theorem nrun_yes {l r : List UInt8} {n : Nat} {c : UInt8} (h : l.drop n = c :: r) (hd : namB (c.toNat : Int) = true) : nrun (l.drop n) = 1 + nrun r := by
  rw [h]; simp only [nrun, List.takeWhile_cons, hd, if_true, List.length_cons]; omega
theorem nrun_no {l r : List UInt8} {n : Nat} {c : UInt8} (h : l.drop n = c :: r) (hd : namB (c.toNat : Int) = false) : nrun (l.drop n) = 0 := by
  rw [h]; simp [nrun, hd]
theorem nrun_pos (l : List UInt8) : 0 ≤ nrun l := by unfold nrun; omega
/-- what Lines tells of what is left, with the line so far -/
def lgo : List UInt8 → List UInt8 → List (List UInt8)
  | [], cur => if cur.isEmpty then [] else [cur]
  | c :: r, cur => if c.toNat = 10 then cur :: lgo r [] else lgo r (cur ++ [c])
/-- Lines -/
def linesOf (l : List UInt8) : List (List UInt8) := lgo l []
/-- a text as a value -/
def strV (l : List UInt8) : Value := .string ⟨l.toArray⟩

theorem lgo_feed {c : UInt8} {r cur : List UInt8} (h : (c.toNat : Int) = 10) : lgo (c :: r) cur = cur :: lgo r [] := by
  have h' : c.toNat = 10 := by omega
  simp [lgo, h']
theorem lgo_other {c : UInt8} {r cur : List UInt8} (h : ¬ (c.toNat : Int) = 10) : lgo (c :: r) cur = lgo r (cur ++ [c]) := by
  have h' : ¬ c.toNat = 10 := by omega
  simp [lgo, h']
theorem extract_bytes (s : ByteArray) (a b : Nat) : (s.extract a b) = ⟨((s.data.toList.drop a).take (b - a)).toArray⟩ := by
  obtain ⟨⟨l⟩⟩ := s
  rw [ByteArray.extract_mk]
theorem take_more (s : ByteArray) (b k : Nat) (hb : b ≤ k) (h : k < s.size) : (s.data.toList.drop b).take (k + 1 - b) = (s.data.toList.drop b).take (k - b) ++ [s[k]] := by
  have e : k + 1 - b = (k - b) + 1 := by omega
  rw [e, List.take_succ_eq_append_getElem (by simp; omega)]
  congr 2
  rw [List.getElem_drop]
  have : b + (k - b) = k := by omega
  simp only [this]
  rfl
end Go.Proofs.Ytgdaipgmlibpiaa
