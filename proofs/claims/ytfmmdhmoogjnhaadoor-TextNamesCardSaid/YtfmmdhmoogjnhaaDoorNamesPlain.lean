/-
  Plain facts on names (no program in it): names joined are names, and nothing else.
-/
import Derived.Test.YtfmmdhmoogjnhaaDoorPlain
namespace Go.Proofs.YtfmmdhmoogjnhaaDoor

theorem nrun_cons_yes {c : UInt8} {r : List UInt8} (h : namB (c.toNat : Int) = true) : nrun (c :: r) = 1 + nrun r := by
  simp only [nrun, List.takeWhile_cons, h, if_true, List.length_cons]; omega
theorem nrun_cons_no {c : UInt8} {r : List UInt8} (h : namB (c.toNat : Int) = false) : nrun (c :: r) = 0 := by
  simp [nrun, h]
theorem nrun_all : ∀ (l : List UInt8), (∀ c ∈ l, namB (c.toNat : Int) = true) → nrun l = l.length := by
  intro l
  induction l with
  | nil => intro _; rfl
  | cons c r ih =>
    intro h
    rw [nrun_cons_yes (h c (by simp)), ih (fun x hx => h x (by simp [hx]))]
    simp; omega
theorem all_of_nrun : ∀ (l : List UInt8), nrun l = l.length → ∀ c ∈ l, namB (c.toNat : Int) = true := by
  intro l
  induction l with
  | nil => intro _ c hc; cases hc
  | cons c r ih =>
    intro h x hx
    cases hc : namB (c.toNat : Int)
    · rw [nrun_cons_no hc] at h; simp at h; omega
    · rw [nrun_cons_yes hc] at h
      rcases List.mem_cons.1 hx with rfl | hx
      · exact hc
      · exact ih (by simp at h; omega) x hx
theorem nrun_until (a r : List UInt8) (c : UInt8) (h : ∀ x ∈ a, namB (x.toNat : Int) = true) (hc : namB (c.toNat : Int) = false) : nrun (a ++ c :: r) = a.length := by
  unfold nrun
  rw [List.takeWhile_append_of_pos (by simpa using h)]
  simp [hc]

theorem nlen_zero (c : UInt8) (r : List UInt8) : nlen (c :: r) 0 = if digB (c.toNat : Int) then 0 else nrun (c :: r) := by
  cases hd : digB (c.toNat : Int)
  · have := nlen_run (l := c :: r) (n := 0) (c := c) (r := r) rfl hd
    simpa using this
  · have := nlen_dig (l := c :: r) (n := 0) (c := c) (r := r) rfl hd
    simpa using this

theorem nameB_iff (l : List UInt8) : nameB l = true ↔ ∃ c r, l = c :: r ∧ digB (c.toNat : Int) = false ∧ ∀ x ∈ l, namB (x.toNat : Int) = true := by
  constructor
  · intro h
    cases l with
    | nil => simp [nameB] at h
    | cons c r =>
      simp only [nameB, List.isEmpty_cons, Bool.not_false, Bool.true_and, beq_iff_eq, nlen_zero] at h
      refine ⟨c, r, rfl, ?_, ?_⟩
      · cases hd : digB (c.toNat : Int)
        · rfl
        · rw [hd] at h; simp at h; omega
      · cases hd : digB (c.toNat : Int)
        · rw [hd] at h
          exact all_of_nrun _ (by simpa using h)
        · rw [hd] at h; simp at h; omega
  · rintro ⟨c, r, rfl, hd, ha⟩
    simp only [nameB, List.isEmpty_cons, Bool.not_false, Bool.true_and, beq_iff_eq, nlen_zero, hd]
    simpa using nrun_all _ ha

theorem names_joined {a b : List UInt8} (ha : nameB a = true) (hb : nameB b = true) :
    nameB (a ++ b) = true ∧ nameB (a ++ [55] ++ b) = true ∧ nlen (a ++ [45] ++ b) 0 = a.length ∧ nlen (45 :: b) 1 = b.length := by
  obtain ⟨c, r, rfl, hd, hall⟩ := (nameB_iff a).1 ha
  obtain ⟨c', r', rfl, hd', hall'⟩ := (nameB_iff b).1 hb
  refine ⟨?_, ?_, ?_, ?_⟩
  · refine (nameB_iff _).2 ⟨c, r ++ c' :: r', rfl, hd, ?_⟩
    intro x hx
    rcases List.mem_append.1 hx with h | h
    · exact hall x h
    · exact hall' x h
  · refine (nameB_iff _).2 ⟨c, r ++ [55] ++ c' :: r', rfl, hd, ?_⟩
    intro x hx
    rcases List.mem_append.1 hx with h | h
    · rcases List.mem_append.1 h with h | h
      · exact hall x h
      · simp at h; subst h; decide
    · exact hall' x h
  · have : (c :: r) ++ [45] ++ (c' :: r') = c :: (r ++ 45 :: (c' :: r')) := by simp
    rw [this, nlen_zero, hd]
    have h2 := nrun_until (c :: r) (c' :: r') 45 hall (by decide)
    simpa using h2
  · have h1 := nlen_run (l := 45 :: c' :: r') (n := 1) (c := c') (r := r') rfl hd'
    rw [show ((1 : Nat) : Int) = 1 from rfl] at h1
    rw [h1]
    exact nrun_all _ hall'

theorem name_one (c : UInt8) : nameB [c] = (namB (c.toNat : Int) && !digB (c.toNat : Int)) := by
  simp only [nameB, List.isEmpty_cons, Bool.not_false, Bool.true_and, nlen_zero]
  cases hd : digB (c.toNat : Int) <;> cases hn : namB (c.toNat : Int) <;> simp [nrun, hn]
theorem name_two (c : UInt8) : nameB [97, c] = namB (c.toNat : Int) := by
  have h1 : digB ((97 : UInt8).toNat : Int) = false := by decide
  have h2 : namB ((97 : UInt8).toNat : Int) = true := by decide
  simp only [nameB, List.isEmpty_cons, Bool.not_false, Bool.true_and, nlen_zero, h1]
  cases hn : namB (c.toNat : Int)
  · simp only [nrun, List.takeWhile_cons, h2, hn]; rfl
  · simp only [nrun, List.takeWhile_cons, h2, hn]; rfl
end Go.Proofs.YtfmmdhmoogjnhaaDoor
