/-
  Plain facts on shapes (no program in it): what a value may be, as a plain record; the functions of the layer over it.
-/
import Derived.Test.YtjdhidiocchkeaaSetPlain
namespace Go.Proofs.Ytjdhidiocchkeaa

/-- a shape -/
structure Sh where
  u : Bool
  e : Bool
  h : Nat → Bool
  k : Bool
  l : ByteArray

/-- a shape as a value -/
def shV (x : Sh) : Value := .agg #[.bool x.u, .bool x.e, .int .u64 (wd x.h 0 : Nat), .int .u64 (wd x.h 1 : Nat), .int .u64 (wd x.h 2 : Nat), .int .u64 (wd x.h 3 : Nat), .bool x.k, .string x.l]

theorem shV_congr {x y : Sh} (hu : x.u = y.u) (he : x.e = y.e) (hh : ∀ c, c < 256 → x.h c = y.h c) (hk : x.k = y.k) (hl : x.l = y.l) : shV x = shV y := by
  unfold shV
  rw [hu, he, hk, hl, wd_congr x.h y.h 0 (fun j hj => hh _ (by omega)), wd_congr x.h y.h 1 (fun j hj => hh _ (by omega)), wd_congr x.h y.h 2 (fun j hj => hh _ (by omega)), wd_congr x.h y.h 3 (fun j hj => hh _ (by omega))]

def empB (s : ByteArray) : Bool := s.toList.isEmpty
def eqB (s t : ByteArray) : Bool := s.toList == t.toList

theorem eqB_iff (s t : ByteArray) : eqB s t = true ↔ s = t := by
  unfold eqB
  rw [ByteArray.toList_eq, ByteArray.toList_eq, beq_iff_eq]
  obtain ⟨⟨a⟩⟩ := s
  obtain ⟨⟨b⟩⟩ := t
  simp
theorem empB_iff (s : ByteArray) : empB s = true ↔ s = ⟨#[]⟩ := by
  unfold empB
  rw [ByteArray.toList_eq, List.isEmpty_iff]
  obtain ⟨⟨a⟩⟩ := s
  simp
theorem empB_list (s : ByteArray) : empB s = true ↔ s.data.toList = [] := by
  unfold empB
  rw [ByteArray.toList_eq, List.isEmpty_iff]
theorem eqB_self (s : ByteArray) : eqB s s = true := (eqB_iff s s).2 rfl

/-- a set without byte 0 -/
def nz (p : Nat → Bool) (c : Nat) : Bool := p c && decide (c ≠ 0)

/-- can the text be kept? -/
def keptB (s : ByteArray) : Bool := decide (s.size ≤ 64) && !ofS s.data.toList 0

def ofSh (p : Nat → Bool) (e : Bool) : Sh := ⟨false, e, nz p, false, ⟨#[]⟩⟩
def litSh (s : ByteArray) : Sh := if keptB s then ⟨false, empB s, ofS s.data.toList, true, s⟩ else ofSh (ofS s.data.toList) (empB s)
def anySh : Sh := ⟨true, true, fun c => decide (c ≠ 0), false, ⟨#[]⟩⟩
def unsetSh : Sh := ⟨true, false, noS, false, ⟨#[]⟩⟩
def zeroSh : Sh := ⟨false, false, noS, false, ⟨#[]⟩⟩
def looseSh (x : Sh) : Sh := ⟨x.u, x.e, x.h, false, ⟨#[]⟩⟩
def okB (x : Sh) : Bool := if x.h 0 then false else if x.k then (if keptB x.l then (if sameS x.h (ofS x.l.data.toList) then x.e == empB x.l else false) else false) else empB x.l
def mayB (x : Sh) (is : Bool) (v : ByteArray) : Bool := if is then (if x.k then eqB x.l v else if empB v then x.e else subS (ofS v.data.toList) x.h) else x.u
def couldB (x : Sh) : Bool := if x.k then true else if x.e then true else !sameS x.h noS
def noneB (x : Sh) : Bool := if x.u then false else !couldB x
/-- the join of what both may be where they are set: the program's -/
def joinSetP (a b : Sh) : Sh := if couldB a then (if couldB b then (if (if a.k then (if b.k then eqB a.l b.l else false) else false) then ⟨false, a.e || b.e, orS a.h b.h, true, a.l⟩ else ⟨false, a.e || b.e, orS a.h b.h, false, ⟨#[]⟩⟩) else a) else b
def joinP (a b : Sh) : Sh := if noneB a then b else if noneB b then a else { joinSetP a b with u := a.u || b.u }
/-- the document's join -/
def joinR (a b : Sh) : Sh := if noneB a then b else if noneB b then a else
  { (if couldB a then (if couldB b then (if (if a.k then (if b.k then eqB a.l b.l else false) else false) then a else ⟨false, a.e || b.e, orS a.h b.h, false, ⟨#[]⟩⟩) else a) else b) with u := a.u || b.u }
def leqP (a b : Sh) : Bool := if (if a.u then !b.u else false) then false else if a.k then mayB b true a.l else if (if a.e then !mayB b true ⟨#[]⟩ else false) then false else if sameS a.h noS then true else if b.k then false else subS a.h b.h
/-- the document's order -/
def leqR (a b : Sh) : Bool := if (if a.u then !b.u else false) then false else if couldB a then (if b.k then (if (if a.k then eqB a.l b.l else false) then true else if a.k then false else if a.e then (if sameS a.h noS then empB b.l else false) else false) else (if subS a.h b.h then (if a.e then b.e else true) else false)) else true

/-- the first 64 bytes of a text, without byte 0 -/
def strip (l : List UInt8) : List UInt8 := (l.take 64).filter (fun b => b != 0)
def tameSh (x : Sh) : Sh := if x.k then { litSh ⟨(strip x.l.data.toList).toArray⟩ with u := x.u } else ⟨x.u, x.e, nz x.h, false, ⟨#[]⟩⟩

/-- are two shapes the same? -/
def sameSh (a b : Sh) : Bool := (a.u == b.u) && ((a.e == b.e) && (sameS a.h b.h && ((a.k == b.k) && eqB a.l b.l)))

theorem sameSh_iff (a b : Sh) : sameSh a b = true ↔ a.u = b.u ∧ a.e = b.e ∧ (∀ c, c < 256 → a.h c = b.h c) ∧ a.k = b.k ∧ a.l = b.l := by
  unfold sameSh
  simp only [Bool.and_eq_true, beq_iff_eq, sameS_iff, eqB_iff]
theorem shV_same {a b : Sh} (h : sameSh a b = true) : shV a = shV b := by
  obtain ⟨h1, h2, h3, h4, h5⟩ := (sameSh_iff a b).1 h
  exact shV_congr h1 h2 h3 h4 h5
end Go.Proofs.Ytjdhidiocchkeaa
