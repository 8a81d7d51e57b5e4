/-
  Plain facts on fields, trimmed texts and words (no program in it).
-/
import Derived.Test.YtdehjkmjebplbaaFieldsPlain
namespace Go.Proofs.Ytdehjkmjebplbaa

def inP (p : Nat → Bool) (c : UInt8) : Bool := p c.toNat
/-- without such bytes at its beginning, at its end, at both -/
def trimF (p : Nat → Bool) (l : List UInt8) : List UInt8 := l.dropWhile (inP p)
def trimE (p : Nat → Bool) (l : List UInt8) : List UInt8 := (l.reverse.dropWhile (inP p)).reverse
def trimP (p : Nat → Bool) (l : List UInt8) : List UInt8 := trimE p (trimF p l)
/-- n words, then what is left -/
def wordsP (p : Nat → Bool) : Nat → List UInt8 → List (List UInt8)
  | 0, l => [trimP p l]
  | n + 1, l => (trimP p l).takeWhile (fun c => !inP p c) :: wordsP p n ((trimP p l).dropWhile (fun c => !inP p c))

theorem tw_mem {q : UInt8 → Bool} : ∀ {l : List UInt8} {b : UInt8}, b ∈ l.takeWhile q → q b = true
  | [], _, h => by simp at h
  | c :: l, b, h => by
    rw [List.takeWhile_cons] at h
    cases hc : q c with
    | false => rw [hc] at h; simp at h
    | true =>
      rw [hc] at h
      rcases List.mem_cons.1 h with h1 | h1
      · rw [h1]; exact hc
      · exact tw_mem h1
theorem dw_len (q : UInt8 → Bool) : ∀ (l : List UInt8), (l.dropWhile q).length ≤ l.length
  | [] => Nat.le_refl _
  | c :: l => by
    rw [List.dropWhile_cons]
    split
    · have := dw_len q l; simp; omega
    · exact Nat.le_refl _

section
variable {p : Nat → Bool}
theorem fgo_split (l : List UInt8) : ∀ (cur : List UInt8) (c : UInt8) (m : List UInt8), inP p c = true → fgo p (l ++ c :: m) cur = fgo p l cur ++ fgo p m [] := by
  induction l with
  | nil =>
    intro cur c m h
    have h' : p c.toNat = true := h
    rw [List.nil_append]
    cases hc : cur.isEmpty with
    | true => rw [fgo_skip h' hc]; simp [fgo, hc]
    | false => rw [fgo_part h' hc]; simp [fgo, hc]
  | cons d l ih =>
    intro cur c m h
    rw [List.cons_append]
    cases hd : p d.toNat with
    | false => rw [fgo_other hd, fgo_other hd]; exact ih _ c m h
    | true =>
      cases hc : cur.isEmpty with
      | true => rw [fgo_skip hd hc, fgo_skip hd hc]; exact ih _ c m h
      | false => rw [fgo_part hd hc, fgo_part hd hc, ih _ c m h]; rfl
theorem fgo_front : ∀ (x l : List UInt8), (∀ b ∈ x, inP p b = true) → fgo p (x ++ l) [] = fgo p l []
  | [], _, _ => rfl
  | c :: x, l, h => by
    rw [List.cons_append, fgo_skip (h c (List.mem_cons_self ..)) rfl]
    exact fgo_front x l (fun b hb => h b (List.mem_cons_of_mem _ hb))
theorem fgo_back (l : List UInt8) (cur : List UInt8) : ∀ (y : List UInt8), (∀ b ∈ y, inP p b = true) → fgo p (l ++ y) cur = fgo p l cur
  | [], _ => by rw [List.append_nil]
  | c :: y, h => by
    rw [fgo_split l cur c y (h c (List.mem_cons_self ..))]
    have := fgo_front y [] (fun b hb => h b (List.mem_cons_of_mem _ hb))
    rw [List.append_nil] at this
    rw [this]
    simp [fgo]
theorem fgo_mem : ∀ (l cur : List UInt8), (∀ b ∈ cur, inP p b = false) → ∀ f ∈ fgo p l cur, f.isEmpty = false ∧ ∀ b ∈ f, inP p b = false
  | [], cur, h, f, hf => by
    cases hc : cur.isEmpty with
    | true => simp [fgo, hc] at hf
    | false =>
      simp only [fgo, hc, Bool.false_eq_true, if_false, List.mem_singleton] at hf
      subst hf
      exact ⟨hc, h⟩
  | c :: l, cur, h, f, hf => by
    cases hd : p c.toNat with
    | false =>
      rw [fgo_other hd] at hf
      refine fgo_mem l (cur ++ [c]) (fun b hb => ?_) f hf
      rcases List.mem_append.1 hb with h1 | h1
      · exact h b h1
      · rw [List.mem_singleton.1 h1]; exact hd
    | true =>
      cases hc : cur.isEmpty with
      | true =>
        rw [fgo_skip hd hc] at hf
        exact fgo_mem l [] (fun b hb => (by cases hb)) f hf
      | false =>
        rw [fgo_part hd hc] at hf
        rcases List.mem_cons.1 hf with h1 | h1
        · subst h1; exact ⟨hc, h⟩
        · exact fgo_mem l [] (fun b hb => (by cases hb)) f h1
/-- one field ahead of a byte that parts -/
theorem fgo_one (x m : List UInt8) (c : UInt8) (hx : x.isEmpty = false) (h : ∀ b ∈ x, inP p b = false) (hc : inP p c = true) : fgo p (x ++ c :: m) [] = x :: fgo p m [] := by
  rw [fgo_split x [] c m hc, fgo_none x [] h]
  simp [hx]
theorem joined (c : UInt8) (hc : inP p c = true) : ∀ (xs : List (List UInt8)), (∀ x ∈ xs, x.isEmpty = false ∧ ∀ b ∈ x, inP p b = false) → fgo p (xs.flatMap fun x => c :: (x ++ [c])) [] = xs
  | [], _ => by simp [fgo]
  | x :: xs, h => by
    have hx := h x (List.mem_cons_self ..)
    rw [List.flatMap_cons, List.cons_append, fgo_skip hc rfl, List.append_assoc, List.singleton_append, fgo_one x _ c hx.1 hx.2 hc, joined c hc xs (fun y hy => h y (List.mem_cons_of_mem _ hy))]

/-! trimmed -/
theorem trimF_split (l : List UInt8) : ∃ x, l = x ++ trimF p l ∧ ∀ b ∈ x, inP p b = true :=
  ⟨l.takeWhile (inP p), (List.takeWhile_append_dropWhile).symm, fun _ hb => tw_mem hb⟩
theorem trimE_split (l : List UInt8) : ∃ y, l = trimE p l ++ y ∧ ∀ b ∈ y, inP p b = true := by
  obtain ⟨x, hx, hb⟩ := trimF_split (p := p) l.reverse
  refine ⟨x.reverse, ?_, fun b hb' => hb b (by simpa using hb')⟩
  have := congrArg List.reverse hx
  rw [List.reverse_reverse, List.reverse_append] at this
  exact this
theorem fields_trim (l : List UInt8) : fgo p (trimP p l) [] = fgo p l [] := by
  obtain ⟨x, hx, hbx⟩ := trimF_split (p := p) l
  obtain ⟨y, hy, hby⟩ := trimE_split (p := p) (trimF p l)
  rw [show fgo p l [] = fgo p (x ++ trimF p l) [] from by rw [← hx], fgo_front x _ hbx]
  rw [show fgo p (trimF p l) [] = fgo p (trimE p (trimF p l) ++ y) [] from by rw [← hy], fgo_back _ _ y hby]
  rfl
theorem trimF_head {l : List UInt8} {c : UInt8} (h : (trimF p l).head? = some c) : inP p c = false := by
  unfold trimF at h
  have := List.head?_dropWhile_not (inP p) l
  rw [h] at this
  simpa using this
theorem trimF_id {l : List UInt8} (h : ∀ c, l.head? = some c → inP p c = false) : trimF p l = l := by
  unfold trimF
  cases l with
  | nil => rfl
  | cons c l => rw [List.dropWhile_cons, h c rfl]; rfl
theorem trimE_id {l : List UInt8} (h : ∀ c, l.getLast? = some c → inP p c = false) : trimE p l = l := by
  unfold trimE
  have := trimF_id (p := p) (l := l.reverse) (fun c hc => h c (by rw [List.head?_reverse] at hc; exact hc))
  unfold trimF at this
  rw [this, List.reverse_reverse]
theorem trimE_last {l : List UInt8} {c : UInt8} (h : (trimE p l).getLast? = some c) : inP p c = false := by
  unfold trimE at h
  rw [List.getLast?_reverse] at h
  exact trimF_head (l := l.reverse) h
theorem trimE_head {l : List UInt8} (h : ∀ c, l.head? = some c → inP p c = false) {c : UInt8} (hc : (trimE p l).head? = some c) : inP p c = false := by
  obtain ⟨y, hy, _⟩ := trimE_split (p := p) l
  refine h c ?_
  rw [hy, List.head?_append, hc]
  rfl
theorem trimP_head {l : List UInt8} {c : UInt8} (h : (trimP p l).head? = some c) : inP p c = false := trimE_head (fun _ => trimF_head) h
theorem trimP_last {l : List UInt8} {c : UInt8} (h : (trimP p l).getLast? = some c) : inP p c = false := trimE_last h
theorem trimP_id {l : List UInt8} (h1 : ∀ c, l.head? = some c → inP p c = false) (h2 : ∀ c, l.getLast? = some c → inP p c = false) : trimP p l = l := by
  unfold trimP
  rw [trimF_id h1, trimE_id h2]
theorem trimP_twice (l : List UInt8) : trimP p (trimP p l) = trimP p l := trimP_id (fun _ => trimP_head) (fun _ => trimP_last)
theorem trimF_app : ∀ (x l : List UInt8), (∀ b ∈ x, inP p b = true) → trimF p (x ++ l) = trimF p l
  | [], _, _ => rfl
  | c :: x, l, h => by
    unfold trimF
    rw [List.cons_append, List.dropWhile_cons, h c (List.mem_cons_self ..)]
    exact trimF_app x l (fun b hb => h b (List.mem_cons_of_mem _ hb))
theorem trimE_app (l y : List UInt8) (h : ∀ b ∈ y, inP p b = true) : trimE p (l ++ y) = trimE p l := by
  unfold trimE
  have := trimF_app (p := p) y.reverse l.reverse (fun b hb => h b (by simpa using hb))
  unfold trimF at this
  rw [List.reverse_append, this]
theorem trimF_back (l y : List UInt8) (h : ∀ b ∈ y, inP p b = true) : trimF p (l ++ y) = trimF p l ++ (if (trimF p l).isEmpty then [] else y) := by
  induction l with
  | nil =>
    have := trimF_app (p := p) y [] h
    rw [List.append_nil] at this
    rw [List.nil_append, this]
    rfl
  | cons c l ih =>
    unfold trimF at ih ⊢
    rw [List.cons_append, List.dropWhile_cons, List.dropWhile_cons]
    cases hc : inP p c with
    | true => simp only [if_true]; exact ih
    | false => simp
theorem trimP_app (x l y : List UInt8) (hx : ∀ b ∈ x, inP p b = true) (hy : ∀ b ∈ y, inP p b = true) : trimP p (x ++ l ++ y) = trimP p l := by
  unfold trimP
  rw [List.append_assoc, trimF_app x _ hx, trimF_back l y hy]
  split
  · rw [List.append_nil]
  · exact trimE_app _ y hy
theorem trimP_len (l : List UInt8) : (trimP p l).length ≤ l.length := by
  unfold trimP trimE trimF
  rw [List.length_reverse]
  have h1 := dw_len (inP p) (l.dropWhile (inP p)).reverse
  have h2 := dw_len (inP p) l
  rw [List.length_reverse] at h1
  omega

/-! words -/
theorem field_first (l : List UInt8) : (fgo p l []).getD 0 [] = (trimP p l).takeWhile (fun c => !inP p c) ∧ (fgo p l []).drop 1 = fgo p ((trimP p l).dropWhile (fun c => !inP p c)) [] := by
  rw [← fields_trim l]
  obtain ⟨t, ht⟩ : ∃ t, trimP p l = t := ⟨_, rfl⟩
  have hh : ∀ c, t.head? = some c → inP p c = false := fun c hc => trimP_head (by rw [ht]; exact hc)
  rw [ht]
  clear ht
  obtain ⟨a, b, hab, ha, hb⟩ : ∃ a b, a = t.takeWhile (fun c => !inP p c) ∧ b = t.dropWhile (fun c => !inP p c) ∧ t = a ++ b := ⟨_, _, rfl, rfl, (List.takeWhile_append_dropWhile).symm⟩
  rw [← hab, ← ha]
  have haf : ∀ c ∈ a, inP p c = false := fun c hc => by
    rw [hab] at hc
    simpa using tw_mem hc
  cases hbc : b with
  | nil =>
    rw [hb, hbc, List.append_nil, fgo_none a [] haf]
    cases hae : a.isEmpty with
    | true =>
      have : a = [] := by simpa using hae
      subst this
      simp [fgo]
    | false => simp [hae, fgo]
  | cons c m =>
    have hc : inP p c = true := by
      have := List.head?_dropWhile_not (fun c => !inP p c) t
      rw [← ha, hbc] at this
      simpa using this
    have hae : a.isEmpty = false := by
      cases a with
      | nil =>
        rw [List.nil_append] at hb
        have := hh c (by rw [hb, hbc]; rfl)
        rw [hc] at this
        cases this
      | cons _ _ => rfl
    rw [hb, hbc, fgo_one a m c hae haf hc, fgo_skip hc rfl]
    exact ⟨rfl, rfl⟩
theorem words_len : ∀ (n : Nat) (l : List UInt8), (wordsP p n l).length = n + 1
  | 0, _ => rfl
  | n + 1, l => by rw [wordsP, List.length_cons, words_len n]
theorem words_first : ∀ (n : Nat) (l : List UInt8) (i : Nat), i < n → (wordsP p n l)[i]? = some ((fgo p l []).getD i [])
  | n + 1, l, 0, _ => by rw [wordsP, (field_first l).1]; rfl
  | n + 1, l, i + 1, h => by
    rw [wordsP, List.getElem?_cons_succ, words_first n _ i (by omega), ← (field_first l).2]
    rw [List.getD_eq_getElem?_getD, List.getD_eq_getElem?_getD, List.getElem?_drop, Nat.add_comm]
theorem words_last : ∀ (n : Nat) (l : List UInt8), ∃ x, (wordsP p n l)[n]? = some x ∧ trimP p x = x ∧ fgo p x [] = (fgo p l []).drop n
  | 0, l => ⟨trimP p l, rfl, trimP_twice l, fields_trim l⟩
  | n + 1, l => by
    obtain ⟨x, h1, h2, h3⟩ := words_last n ((trimP p l).dropWhile (fun c => !inP p c))
    refine ⟨x, by rw [wordsP, List.getElem?_cons_succ]; exact h1, h2, ?_⟩
    rw [h3, ← (field_first l).2, List.drop_drop, Nat.add_comm]

/-- whole: not empty, and nothing parts it -/
theorem whole_iff (l : List UInt8) : decide (fgo p l [] = [l]) = (!l.isEmpty && l.all fun c => !inP p c) := by
  rw [Bool.eq_iff_iff, decide_eq_true_eq, Bool.and_eq_true, List.all_eq_true]
  constructor
  · intro h
    have := fgo_mem (p := p) l [] (fun b hb => (by cases hb)) l (by rw [h]; simp)
    exact ⟨by rw [this.1]; rfl, fun c hc => by rw [this.2 c hc]; rfl⟩
  · rintro ⟨h1, h2⟩
    have h3 : ∀ b ∈ l, p b.toNat = false := fun b hb => by have := h2 b hb; simpa [inP] using this
    have h4 : l.isEmpty = false := by simpa using h1
    rw [fgo_none l [] h3]
    simp [h4]
end
end Go.Proofs.Ytdehjkmjebplbaa
