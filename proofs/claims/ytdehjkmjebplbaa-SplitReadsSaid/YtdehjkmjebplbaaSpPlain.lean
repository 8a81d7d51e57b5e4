/-
  Plain facts on what package split does: marks of bytes, rows of one mark, the next field and what is behind it (no program in it).
-/
import Derived.Test.YtdehjkmjebplbaaSplitPlain
import Derived.Lib.AsciiSet
namespace Go.Proofs.Ytdehjkmjebplbaa

theorem contains_ofS (l : List UInt8) (x : UInt8) : l.contains x = ofS l x.toNat := by
  rw [Bool.eq_iff_iff, ofS_iff, List.contains_iff_mem]
  constructor
  · intro h; exact ⟨x, h, rfl⟩
  · rintro ⟨b, hb, he⟩
    rw [← UInt8.toNat_inj.1 he]; exact hb
theorem marks_at (l : List UInt8) (x : UInt8) : (Lib.setCells l)[x.toNat]? = some (.bool (ofS l x.toNat)) := by
  rw [Lib.setCells_at, contains_ofS]

/-- how many bytes it begins with that are all of the mark -/
def rowN (p : Nat → Bool) (m : Bool) (l : List UInt8) : Nat := (l.takeWhile (fun c => inP p c == m)).length
theorem rowN_le (p : Nat → Bool) (m : Bool) (l : List UInt8) : rowN p m l ≤ l.length := (List.takeWhile_sublist _).length_le
theorem rowN_eq (p : Nat → Bool) (m : Bool) (l : List UInt8) (k : Nat) (h1 : k ≤ l.length) (h2 : ∀ b ∈ l.take k, (inP p b == m) = true) (h3 : ∀ c, l[k]? = some c → (inP p c == m) = false) : rowN p m l = k := by
  unfold rowN
  induction k generalizing l with
  | zero =>
    cases l with
    | nil => rfl
    | cons c l =>
      have := h3 c rfl
      rw [List.takeWhile_cons, this]
      rfl
  | succ k ih =>
    cases l with
    | nil => simp at h1
    | cons c l =>
      have hc := h2 c (by simp)
      rw [List.takeWhile_cons, hc]
      simp only [if_true, List.length_cons]
      rw [ih l (by simpa using h1) (fun b hb => h2 b (by rw [List.take_succ_cons]; exact List.mem_cons_of_mem _ hb)) (fun d hd => h3 d (by simpa using hd))]

theorem drop_rowN (p : Nat → Bool) (m : Bool) (l : List UInt8) : l.drop (rowN p m l) = l.dropWhile (fun c => inP p c == m) := by
  unfold rowN
  induction l with
  | nil => rfl
  | cons c l ih =>
    rw [List.takeWhile_cons, List.dropWhile_cons]
    cases inP p c == m with
    | true => simpa using ih
    | false => rfl
theorem take_rowN (p : Nat → Bool) (m : Bool) (l : List UInt8) : l.take (rowN p m l) = l.takeWhile (fun c => inP p c == m) := by
  unfold rowN
  induction l with
  | nil => rfl
  | cons c l ih =>
    rw [List.takeWhile_cons]
    cases inP p c == m with
    | true => simpa using ih
    | false => rfl
theorem mark_t (p : Nat → Bool) : (fun c => inP p c == true) = inP p := by funext c; cases inP p c <;> rfl
theorem mark_f (p : Nat → Bool) : (fun c => inP p c == false) = fun c => !inP p c := by funext c; cases inP p c <;> rfl
theorem drop_t (p : Nat → Bool) (l : List UInt8) : l.drop (rowN p true l) = trimF p l := by rw [drop_rowN, mark_t]; rfl

/-- whole: not empty, and all of it one row without marks -/
def wholeRow (p : Nat → Bool) (l : List UInt8) : Bool := !l.isEmpty && decide (rowN p false l = l.length)
def nextF (p : Nat → Bool) (l : List UInt8) : List UInt8 := (trimF p l).takeWhile fun c => !inP p c
def nextR (p : Nat → Bool) (l : List UInt8) : List UInt8 := (trimF p l).dropWhile fun c => !inP p c
theorem next_take (p : Nat → Bool) (l : List UInt8) : (trimF p l).take (rowN p false (trimF p l)) = nextF p l := by rw [take_rowN, mark_f]; rfl
theorem next_drop (p : Nat → Bool) (l : List UInt8) : (trimF p l).drop (rowN p false (trimF p l)) = nextR p l := by rw [drop_rowN, mark_f]; rfl
theorem next_both (p : Nat → Bool) (l : List UInt8) : trimF p l = nextF p l ++ nextR p l := (List.takeWhile_append_dropWhile).symm
theorem next_len (p : Nat → Bool) (l : List UInt8) : (nextF p l).length + (nextR p l).length ≤ l.length := by
  have h1 := congrArg List.length (next_both p l)
  rw [List.length_append] at h1
  have h2 := dw_len (inP p) l
  unfold trimF at h1
  omega

section
variable {p : Nat → Bool}
theorem tw_app : ∀ (x y : List UInt8), (∀ b ∈ y, inP p b = true) → (x ++ y).takeWhile (fun c => !inP p c) = x.takeWhile (fun c => !inP p c)
  | [], [], _ => rfl
  | [], c :: y, h => by
    rw [List.nil_append, List.takeWhile_cons, h c (List.mem_cons_self ..)]
    rfl
  | c :: x, y, h => by
    rw [List.cons_append, List.takeWhile_cons, List.takeWhile_cons]
    cases inP p c with
    | true => rfl
    | false => rw [tw_app x y h]
theorem dw_app : ∀ (x y : List UInt8), (∀ b ∈ y, inP p b = true) → (x ++ y).dropWhile (fun c => !inP p c) = x.dropWhile (fun c => !inP p c) ++ y
  | [], [], _ => rfl
  | [], c :: y, h => by
    rw [List.nil_append, List.dropWhile_cons, h c (List.mem_cons_self ..)]
    rfl
  | c :: x, y, h => by
    rw [List.cons_append, List.dropWhile_cons, List.dropWhile_cons]
    cases inP p c with
    | true => rfl
    | false => simp only [Bool.not_false, if_true]; exact dw_app x y h
theorem wordsP_app : ∀ (n : Nat) (x y : List UInt8), (∀ b ∈ y, inP p b = true) → wordsP p n (x ++ y) = wordsP p n x := by
  intro n x y h
  have := trimP_app (p := p) [] x y (fun b hb => by cases hb) h
  rw [List.nil_append] at this
  cases n with
  | zero => rw [wordsP, wordsP, this]
  | succ n => rw [wordsP, wordsP, this]
theorem wordsP_next (n : Nat) (l : List UInt8) : wordsP p (n + 1) l = nextF p l :: wordsP p n (nextR p l) := by
  obtain ⟨y, hy, hb⟩ := trimE_split (p := p) (trimF p l)
  have h1 : nextF p l = (trimP p l).takeWhile (fun c => !inP p c) := by
    unfold nextF
    conv => lhs; rw [hy]
    exact tw_app _ y hb
  have h2 : nextR p l = (trimP p l).dropWhile (fun c => !inP p c) ++ y := by
    unfold nextR
    conv => lhs; rw [hy]
    exact dw_app _ y hb
  rw [h1, h2, wordsP_app n _ y hb, wordsP]
theorem words_next {all L : List (List UInt8)} {u : List UInt8} {m : Nat} (h : all = L ++ wordsP p (m + 1) u) : all = (L ++ [nextF p u]) ++ wordsP p m (nextR p u) := by
  rw [h, wordsP_next]
  simp
theorem nextF_mem (l : List UInt8) : ∀ b ∈ nextF p l, inP p b = false := fun b hb => by simpa using tw_mem hb
theorem fields_next (l : List UInt8) : fgo p l [] = if (nextF p l).isEmpty then [] else nextF p l :: fgo p (nextR p l) [] := by
  obtain ⟨x, hx, hbx⟩ := trimF_split (p := p) l
  rw [show fgo p l [] = fgo p (x ++ trimF p l) [] from by rw [← hx], fgo_front x _ hbx]
  have hh : ∀ c, (trimF p l).head? = some c → inP p c = false := fun c hc => trimF_head hc
  have hb := next_both p l
  have haf := nextF_mem (p := p) l
  have hr : nextR p l = (trimF p l).dropWhile (fun c => !inP p c) := rfl
  generalize trimF p l = t at *
  generalize nextF p l = a at *
  cases hbc : nextR p l with
  | nil =>
    rw [hb, hbc, List.append_nil, fgo_none a [] haf]
    cases hae : a.isEmpty with
    | true => simp [hae]
    | false => simp [hae, fgo]
  | cons c m =>
    have hc : inP p c = true := by
      have := List.head?_dropWhile_not (fun c => !inP p c) t
      rw [← hr, hbc] at this
      simpa using this
    cases hae : a.isEmpty with
    | true =>
      have ha : a = [] := by simpa using hae
      subst ha
      rw [List.nil_append, hbc] at hb
      have := hh c (by rw [hb]; rfl)
      rw [hc] at this
      cases this
    | false =>
      rw [hb, hbc, fgo_one a m c hae haf hc, fgo_skip hc rfl]
      rfl
theorem tw_all {q : UInt8 → Bool} : ∀ (l : List UInt8), (∀ b ∈ l, q b = true) → l.takeWhile q = l
  | [], _ => rfl
  | c :: l, h => by rw [List.takeWhile_cons, h c (List.mem_cons_self ..), tw_all l (fun b hb => h b (List.mem_cons_of_mem _ hb))]; rfl
theorem whole_row (l : List UInt8) : wholeRow p l = decide (fgo p l [] = [l]) := by
  rw [whole_iff]
  unfold wholeRow rowN
  congr 1
  rw [mark_f, Bool.eq_iff_iff, decide_eq_true_eq, List.all_eq_true]
  constructor
  · intro h c hc
    have := (List.takeWhile_sublist (fun c => !inP p c) (l := l)).eq_of_length h
    rw [← this] at hc
    exact tw_mem hc
  · intro h
    rw [tw_all l h]
end
end Go.Proofs.Ytdehjkmjebplbaa
