/-
  Plain: how sums of small numbers are read: what stands behind, for each kind of sign; the ten sums of conchlaw8.ArithBinds.
-/
import Derived.Test.YtekpopopibhjbaaArParse
import Derived.Test.YtekpopopibhjbaaArBindsP
namespace Go.Proofs.Ytekpopopibhjbaa
open Go.RowKit

def skipT (t : List UInt8) : List UInt8 := t.dropWhile blankB
def signIs (t : List UInt8) : List UInt8 := if isSignB (t.take 2) then t.take 2 else if isSignB (t.take 1) then t.take 1 else []
theorem drop_tkw (p : UInt8 → Bool) : ∀ t : List UInt8, t.drop (t.takeWhile p).length = t.dropWhile p
  | [] => rfl
  | c :: t => by
    cases hc : p c with
    | true => rw [List.takeWhile_cons, if_pos hc, List.dropWhile_cons, if_pos hc, List.length_cons, List.drop_succ_cons]; exact drop_tkw p t
    | false => simp [hc]
theorem skip_drop (l : List UInt8) (i : Nat) : l.drop (skipB l i) = skipT (l.drop i) := by
  unfold skipB skipT
  rw [← List.drop_drop, drop_tkw]
/-- read from t on with these steps so far: then t' stands there, and those steps are told -/
def Rd (f mode least deep : Nat) (t : List UInt8) (ops : List AOp) (t' : List UInt8) (ops' : List AOp) : Prop :=
  ∀ (l : List UInt8) (i : Nat), l.drop i = t → i ≤ l.length → ∃ i', rdP l f mode least deep i ops = (i', ops', 0) ∧ l.drop i' = t' ∧ i' ≤ l.length
theorem take_all {p : UInt8 → Bool} : ∀ {x r : List UInt8}, (∀ c ∈ x, p c = true) → (r = [] ∨ ∃ c r', r = c :: r' ∧ p c = false) → (x ++ r).takeWhile p = x
  | [], r, _, hr => by
    rcases hr with rfl | ⟨c, r', rfl, hc⟩
    · rfl
    · simp [hc]
  | c :: x, r, hx, hr => by
    rw [List.cons_append, List.takeWhile_cons, if_pos (hx c (by simp)), take_all (fun d hd => hx d (by simp [hd])) hr]
theorem dig_lt (k : Nat) (h : k < 10) : digB ((UInt8.ofNat (48 + k)).toNat : Int) = true := by
  have : (UInt8.ofNat (48 + k)).toNat = 48 + k := by simp [UInt8.toNat_ofNat']; omega
  rw [this]
  exact digB_mk (by omega)
theorem dec_dig (u : Nat) : ∀ c ∈ Lib.decDigits u, digB (c.toNat : Int) = true := by
  induction u using Nat.strongRecOn with
  | ind u ih =>
    intro c hc
    by_cases h : u < 10
    · rw [Lib.decDigits, dif_pos h, List.mem_singleton] at hc
      subst hc
      exact dig_lt u h
    · rw [Lib.decDigits, dif_neg h, List.mem_append, List.mem_singleton] at hc
      rcases hc with hc | rfl
      · exact ih (u / 10) (by omega) c hc
      · exact dig_lt (u % 10) (by omega)
theorem dec_cons (u : Nat) : ∃ d t, Lib.decDigits u = d :: t ∧ digB (d.toNat : Int) = true := by
  have h0 := dec_ne u
  have h1 := dec_dig u
  cases h : Lib.decDigits u with
  | nil => rw [h] at h0; cases h0
  | cons d t => exact ⟨d, t, rfl, h1 d (by rw [h]; simp)⟩
theorem dig_ten {d : UInt8} (h : digB (d.toNat : Int) = true) : d = 48 ∨ d = 49 ∨ d = 50 ∨ d = 51 ∨ d = 52 ∨ d = 53 ∨ d = 54 ∨ d = 55 ∨ d = 56 ∨ d = 57 := by
  have hb := digB_yes h
  have key : ∀ k : Nat, k < 256 → d = UInt8.ofNat k → d.toNat = k := fun k hk e => by rw [e]; simp [UInt8.toNat_ofNat']; omega
  have hd : d = UInt8.ofNat d.toNat := by simp
  generalize d.toNat = m at hb hd
  rcases (show m = 48 ∨ m = 49 ∨ m = 50 ∨ m = 51 ∨ m = 52 ∨ m = 53 ∨ m = 54 ∨ m = 55 ∨ m = 56 ∨ m = 57 by omega) with rfl | rfl | rfl | rfl | rfl | rfl | rfl | rfl | rfl | rfl <;> subst hd <;> decide
theorem dig_plain {d : UInt8} (h : digB (d.toNat : Int) = true) (x : List UInt8) : isSignB (d :: x) = false ∧ blankB d = false := by
  rcases dig_ten h with rfl | rfl | rfl | rfl | rfl | rfl | rfl | rfl | rfl | rfl <;> exact ⟨by simp [isSignB, btwP, ahdP], by decide⟩
/-- a sign of one byte, a digit behind it -/
theorem sign_one {c d : UInt8} (hc : isSignB [c] = true) (h : digB (d.toNat : Int) = true) (r : List UInt8) : signIs (c :: d :: r) = [c] := by
  have h2 : isSignB [c, d] = false := by
    rcases dig_ten h with rfl | rfl | rfl | rfl | rfl | rfl | rfl | rfl | rfl | rfl <;> simp [isSignB, btwP, ahdP]
  unfold signIs
  rw [show (c :: d :: r).take 2 = [c, d] from rfl, h2, show (c :: d :: r).take 1 = [c] from rfl, hc]
  rfl
theorem sign_dec {c : UInt8} (hc : isSignB [c] = true) (u : Nat) (r : List UInt8) : signIs (c :: (Lib.decDigits u ++ r)) = [c] := by
  obtain ⟨d, t, h, hd⟩ := dec_cons u
  rw [h]
  exact sign_one hc hd _

theorem skip_dec (u : Nat) (r : List UInt8) : skipT (Lib.decDigits u ++ r) = Lib.decDigits u ++ r := by
  obtain ⟨d, t, h, hd⟩ := dec_cons u
  rw [h]
  unfold skipT
  rw [List.cons_append, List.dropWhile_cons, (dig_plain hd []).2]
  rfl
theorem sign_two {c d : UInt8} (h : isSignB [c, d] = true) (r : List UInt8) : signIs (c :: d :: r) = [c, d] := by
  unfold signIs
  rw [show (c :: d :: r).take 2 = [c, d] from rfl, h]
  rfl
theorem sign_alone {c d : UInt8} (h : isSignB [c, d] = false) (k : isSignB [c] = true) (r : List UInt8) : signIs (c :: d :: r) = [c] := by
  unfold signIs
  rw [show (c :: d :: r).take 2 = [c, d] from rfl, h, show (c :: d :: r).take 1 = [c] from rfl, k]
  rfl

section
variable {f least deep : Nat} {t r t1 t2 : List UInt8} {ops o1 o2 : List AOp}
theorem R_num (n : Nat) (hn : n ≤ 256) (hs : skipT t = Lib.decDigits n ++ r) (hr : r = [] ∨ ∃ c r', r = c :: r' ∧ digB (c.toNat : Int) = false) : Rd (f + 1) 1 0 deep t ops r (ops ++ [numO n]) := by
  intro l i hl hi
  obtain ⟨d, x, hdt, hdg⟩ := dec_cons n
  have hsk := skip_le hi
  have hd : l.drop (skipB l i) = Lib.decDigits n ++ r := by rw [skip_drop, hl, hs]
  generalize hj : skipB l i = j at *
  have hc : l.drop j = d :: (x ++ r) := by rw [hd, hdt]; rfl
  have hsg : signAt l j = [] := by
    unfold signAt
    rw [hc]
    have h2 : ∀ k, isSignB ((d :: (x ++ r)).take (k + 1)) = false := fun k => by rw [List.take_succ_cons]; exact (dig_plain hdg _).1
    rw [h2 1, h2 0]
    rfl
  have hnl : nlen l (j : Int) = 0 := nlen_dig hc hdg
  have hdl : digs l j = (Lib.decDigits n).length := by
    unfold digs
    rw [hd, take_all (dec_dig n) hr]
  have hnb : numB ((l.drop j).take (digs l j)) = some (n : Int) := by
    rw [hdl, hd, List.take_left, numB_dec, if_pos (by unfold maxNum; omega)]
  have hlen := digs_le hsk.2
  refine ⟨j + digs l j, ?_, ?_, hlen⟩
  · rw [rdP, hj, hsg, if_pos ⟨rfl, by decide⟩]
    unfold plainP
    rw [hnl, if_neg (by omega), hnb]
  · rw [hdl, ← List.drop_drop, hd, List.drop_left]
/-- a sign ahead of one -/
theorem R_ahead {c : UInt8} {k : Nat} (hs : skipT t = c :: r) (hg : signIs (c :: r) = [c]) (hk : ahdP [c] = k) (h0 : k ≠ 0) (h40 : c ≠ 40) (hd : ¬ deep = 20) (h : Rd f 1 0 (deep + 1) r ops t1 o1) : Rd (f + 1) 1 0 deep t ops t1 (o1 ++ [opO k]) := by
  intro l i hl hi
  have hsk := skip_le hi
  have hdr : l.drop (skipB l i) = c :: r := by rw [skip_drop, hl, hs]
  have hsg : signAt l (skipB l i) = [c] := by
    show signIs (l.drop (skipB l i)) = [c]
    rw [hdr, hg]
  have hd1 : l.drop (skipB l i + 1) = r := by rw [← List.drop_drop, hdr]; rfl
  have hlt : skipB l i + 1 ≤ l.length := by
    have := congrArg List.length hdr
    simp at this
    omega
  obtain ⟨i', h1, h2, h3⟩ := h l (skipB l i + 1) hd1 hlt
  refine ⟨i', ?_, h2, h3⟩
  rw [rdP, hsg, hk, if_neg (fun h => h0 h.1), if_neg hd, if_neg (by simpa using h40), show ([c] : List UInt8).length = 1 from rfl, h1]
  rfl
theorem R_par (hs : skipT t = 40 :: r) (hg : signIs (40 :: r) = [40]) (hd : ¬ deep = 20) (h : Rd f 2 0 (deep + 1) r ops t1 o1) : Rd (f + 1) 1 0 deep t ops t1 o1 := by
  intro l i hl hi
  have hsk := skip_le hi
  have hdr : l.drop (skipB l i) = 40 :: r := by rw [skip_drop, hl, hs]
  have hsg : signAt l (skipB l i) = [40] := by
    show signIs (l.drop (skipB l i)) = [40]
    rw [hdr, hg]
  have hd1 : l.drop (skipB l i + 1) = r := by rw [← List.drop_drop, hdr]; rfl
  have hlt : skipB l i + 1 ≤ l.length := by
    have := congrArg List.length hdr
    simp at this
    omega
  obtain ⟨i', h1, h2, h3⟩ := h l (skipB l i + 1) hd1 hlt
  refine ⟨i', ?_, h2, h3⟩
  rw [rdP, hsg, if_neg (fun h => h.2 rfl), if_neg hd, if_pos rfl, show ([40] : List UInt8).length = 1 from rfl, h1]
theorem R_shut (h : Rd f 0 1 deep t ops t1 o1) (hs : skipT t1 = 41 :: r) (hg : signIs (41 :: r) = [41]) : Rd (f + 1) 2 0 deep t ops r o1 := by
  intro l i hl hi
  obtain ⟨i1, h1, h2, h3⟩ := h l i hl hi
  have hsk := skip_le h3
  have hdr : l.drop (skipB l i1) = 41 :: r := by rw [skip_drop, h2, hs]
  have hsg : signAt l (skipB l i1) = [41] := by
    show signIs (l.drop (skipB l i1)) = [41]
    rw [hdr, hg]
  have hd1 : l.drop (skipB l i1 + 1) = r := by rw [← List.drop_drop, hdr]; rfl
  have hlt : skipB l i1 + 1 ≤ l.length := by
    have := congrArg List.length hdr
    simp at this
    omega
  refine ⟨skipB l i1 + 1, ?_, hd1, hlt⟩
  rw [rdP, h1]
  simp only [hsg, if_true]
theorem R_sum (h : Rd f 1 0 deep t ops t1 o1) (k : Rd f 3 least deep t1 o1 t2 o2) : Rd (f + 1) 0 least deep t ops t2 o2 := by
  intro l i hl hi
  obtain ⟨i1, h1, h2, h3⟩ := h l i hl hi
  obtain ⟨i2, k1, k2, k3⟩ := k l i1 h2 h3
  refine ⟨i2, ?_, k2, k3⟩
  rw [rdP, h1]
  simp only
  rw [k1]
theorem R_end {sg : List UInt8} (hg : signIs (skipT t) = sg) (hb : (btwP sg).2 < least) : Rd (f + 1) 3 least deep t ops (skipT t) ops := by
  intro l i hl hi
  have hsk := skip_le hi
  have hdr : l.drop (skipB l i) = skipT t := by rw [skip_drop, hl]
  have hsg : signAt l (skipB l i) = sg := by
    show signIs (l.drop (skipB l i)) = sg
    rw [hdr, hg]
  refine ⟨skipB l i, ?_, hdr, hsk.2⟩
  rw [rdP, hsg, if_pos hb]
theorem R_more {sg : List UInt8} {k b : Nat} (hs : skipT t = sg ++ r) (hg : signIs (sg ++ r) = sg) (hb : btwP sg = (k, b)) (hl : ¬ b < least) (h : Rd f 0 (b + 1) deep r ops t1 o1) (h' : Rd f 3 least deep t1 (o1 ++ [opO k]) t2 o2) : Rd (f + 1) 3 least deep t ops t2 o2 := by
  intro l i hli hi
  have hsk := skip_le hi
  have hdr : l.drop (skipB l i) = sg ++ r := by rw [skip_drop, hli, hs]
  have hsg : signAt l (skipB l i) = sg := by
    show signIs (l.drop (skipB l i)) = sg
    rw [hdr, hg]
  have hd1 : l.drop (skipB l i + sg.length) = r := by rw [← List.drop_drop, hdr, List.drop_left]
  have hlt : skipB l i + sg.length ≤ l.length := by
    have := congrArg List.length hdr
    simp at this
    omega
  obtain ⟨i1, h1, h2, h3⟩ := h l _ hd1 hlt
  obtain ⟨i2, k1, k2, k3⟩ := h' l i1 h2 h3
  refine ⟨i2, ?_, k2, k3⟩
  rw [rdP, hsg, hb, if_neg hl, h1]
  simp only
  rw [k1]
theorem P_okF {l : List UInt8} {ops : List AOp} (hl : 4 ≤ l.length) (h : ∀ f, Rd (f + 20) 0 1 0 l [] [] ops) : parseP l = okR ops := by
  obtain ⟨f, hf⟩ : ∃ f, 4 * l.length + 4 = f + 20 := ⟨4 * l.length - 16, by omega⟩
  obtain ⟨i, h1, h2, h3⟩ := h f l 0 (List.drop_zero) (Nat.zero_le _)
  have hi : ¬ i < l.length := by
    have := congrArg List.length h2
    simp at this
    omega
  unfold parseP
  rw [hf, h1]
  simp only [hi, if_false]
end
theorem dec_pos (u : Nat) : 1 ≤ (Lib.decDigits u).length := by
  obtain ⟨d, t, h, _⟩ := dec_cons u
  rw [h]
  simp
theorem nd {c : UInt8} {r : List UInt8} (h : digB (c.toNat : Int) = false) : (c :: r) = [] ∨ ∃ d r', (c :: r) = d :: r' ∧ digB (d.toNat : Int) = false := .inr ⟨c, r, rfl, h⟩

theorem t_b1 (a b c : Nat) (ha : a ≤ 256) (hb : b ≤ 256) (hc : c ≤ 256) : parseP (Lib.decDigits a ++ [43] ++ Lib.decDigits b ++ [42] ++ Lib.decDigits c) = okR [numO a, numO b, numO c, opO 6, opO 9] := by
  have e : Lib.decDigits a ++ [43] ++ Lib.decDigits b ++ [42] ++ Lib.decDigits c = Lib.decDigits a ++ (43 :: (Lib.decDigits b ++ (42 :: (Lib.decDigits c ++ [])))) := by simp
  have pa := dec_pos a
  have pb := dec_pos b
  have pc := dec_pos c
  rw [e]
  refine P_okF (by simp; omega) fun f => ?_
  exact (R_sum (R_num a ha (skip_dec a _) (nd (by decide))) (R_more (sg := [43]) rfl (sign_dec (c := 43) (by decide) b _) rfl (by decide) (R_sum (R_num b hb (skip_dec b _) (nd (by decide))) (R_more (sg := [42]) rfl (sign_dec (c := 42) (by decide) c _) rfl (by decide) (R_sum (R_num c hc (skip_dec c _) (.inl rfl)) (R_end (sg := []) rfl (by decide))) (R_end (sg := []) rfl (by decide)))) (R_end (sg := []) rfl (by decide))))
theorem t_b2 (a b c : Nat) (ha : a ≤ 256) (hb : b ≤ 256) (hc : c ≤ 256) : parseP (Lib.decDigits a ++ [45] ++ Lib.decDigits b ++ [45] ++ Lib.decDigits c) = okR [numO a, numO b, opO 10, numO c, opO 10] := by
  have e : Lib.decDigits a ++ [45] ++ Lib.decDigits b ++ [45] ++ Lib.decDigits c = Lib.decDigits a ++ (45 :: (Lib.decDigits b ++ (45 :: (Lib.decDigits c ++ [])))) := by simp
  have pa := dec_pos a
  have pb := dec_pos b
  have pc := dec_pos c
  rw [e]
  refine P_okF (by simp; omega) fun f => ?_
  exact (R_sum (R_num a ha (skip_dec a _) (nd (by decide))) (R_more (sg := [45]) rfl (sign_dec (c := 45) (by decide) b _) rfl (by decide) (R_sum (R_num b hb (skip_dec b _) (nd (by decide))) (R_end (sg := [45]) (sign_dec (c := 45) (by decide) c _) (by decide))) (R_more (sg := [45]) rfl (sign_dec (c := 45) (by decide) c _) rfl (by decide) (R_sum (R_num c hc (skip_dec c _) (.inl rfl)) (R_end (sg := []) rfl (by decide))) (R_end (sg := []) rfl (by decide)))))
theorem t_b3 (a b d : Nat) (ha : a ≤ 256) (hb : b ≤ 256) (hd : d ≤ 256) : parseP (Lib.decDigits a ++ [42] ++ Lib.decDigits b ++ [47] ++ Lib.decDigits d ++ [37] ++ Lib.decDigits d) = okR [numO a, numO b, opO 6, numO d, opO 7, numO d, opO 8] := by
  have e : Lib.decDigits a ++ [42] ++ Lib.decDigits b ++ [47] ++ Lib.decDigits d ++ [37] ++ Lib.decDigits d = Lib.decDigits a ++ (42 :: (Lib.decDigits b ++ (47 :: (Lib.decDigits d ++ (37 :: (Lib.decDigits d ++ [])))))) := by simp
  have pa := dec_pos a
  have pb := dec_pos b
  have pd := dec_pos d
  rw [e]
  refine P_okF (by simp; omega) fun f => ?_
  exact (R_sum (R_num a ha (skip_dec a _) (nd (by decide))) (R_more (sg := [42]) rfl (sign_dec (c := 42) (by decide) b _) rfl (by decide) (R_sum (R_num b hb (skip_dec b _) (nd (by decide))) (R_end (sg := [47]) (sign_dec (c := 47) (by decide) d _) (by decide))) (R_more (sg := [47]) rfl (sign_dec (c := 47) (by decide) d _) rfl (by decide) (R_sum (R_num d hd (skip_dec d _) (nd (by decide))) (R_end (sg := [37]) (sign_dec (c := 37) (by decide) d _) (by decide))) (R_more (sg := [37]) rfl (sign_dec (c := 37) (by decide) d _) rfl (by decide) (R_sum (R_num d hd (skip_dec d _) (.inl rfl)) (R_end (sg := []) rfl (by decide))) (R_end (sg := []) rfl (by decide))))))
theorem t_b4 (a b c : Nat) (ha : a ≤ 256) (hb : b ≤ 256) (hc : c ≤ 256) : parseP ([40] ++ Lib.decDigits a ++ [43] ++ Lib.decDigits b ++ [41, 42] ++ Lib.decDigits c) = okR [numO a, numO b, opO 9, numO c, opO 6] := by
  have e : [40] ++ Lib.decDigits a ++ [43] ++ Lib.decDigits b ++ [41, 42] ++ Lib.decDigits c = 40 :: (Lib.decDigits a ++ (43 :: (Lib.decDigits b ++ (41 :: 42 :: (Lib.decDigits c ++ []))))) := by simp
  have pa := dec_pos a
  have pb := dec_pos b
  have pc := dec_pos c
  rw [e]
  refine P_okF (by simp; omega) fun f => ?_
  exact (R_sum (R_par rfl (sign_dec (c := 40) (by decide) a _) (by decide) (R_shut (R_sum (R_num a ha (skip_dec a _) (nd (by decide))) (R_more (sg := [43]) rfl (sign_dec (c := 43) (by decide) b _) rfl (by decide) (R_sum (R_num b hb (skip_dec b _) (nd (by decide))) (R_end (sg := [41]) (sign_alone (c := 41) (d := 42) (by decide) (by decide) _) (by decide))) (R_end (sg := [41]) (sign_alone (c := 41) (d := 42) (by decide) (by decide) _) (by decide)))) rfl (sign_alone (c := 41) (d := 42) (by decide) (by decide) _))) (R_more (sg := [42]) rfl (sign_dec (c := 42) (by decide) c _) rfl (by decide) (R_sum (R_num c hc (skip_dec c _) (.inl rfl)) (R_end (sg := []) rfl (by decide))) (R_end (sg := []) rfl (by decide))))
theorem t_b5 (a b c : Nat) (ha : a ≤ 256) (hb : b ≤ 256) (hc : c ≤ 256) : parseP (Lib.decDigits a ++ [43] ++ Lib.decDigits b ++ [60] ++ Lib.decDigits c) = okR [numO a, numO b, opO 9, numO c, opO 11] := by
  have e : Lib.decDigits a ++ [43] ++ Lib.decDigits b ++ [60] ++ Lib.decDigits c = Lib.decDigits a ++ (43 :: (Lib.decDigits b ++ (60 :: (Lib.decDigits c ++ [])))) := by simp
  have pa := dec_pos a
  have pb := dec_pos b
  have pc := dec_pos c
  rw [e]
  refine P_okF (by simp; omega) fun f => ?_
  exact (R_sum (R_num a ha (skip_dec a _) (nd (by decide))) (R_more (sg := [43]) rfl (sign_dec (c := 43) (by decide) b _) rfl (by decide) (R_sum (R_num b hb (skip_dec b _) (nd (by decide))) (R_end (sg := [60]) (sign_dec (c := 60) (by decide) c _) (by decide))) (R_more (sg := [60]) rfl (sign_dec (c := 60) (by decide) c _) rfl (by decide) (R_sum (R_num c hc (skip_dec c _) (.inl rfl)) (R_end (sg := []) rfl (by decide))) (R_end (sg := []) rfl (by decide)))))
theorem t_b6 (a b c : Nat) (ha : a ≤ 256) (hb : b ≤ 256) (hc : c ≤ 256) : parseP (Lib.decDigits a ++ [60] ++ Lib.decDigits b ++ [61, 61] ++ Lib.decDigits c) = okR [numO a, numO b, opO 11, numO c, opO 15] := by
  have e : Lib.decDigits a ++ [60] ++ Lib.decDigits b ++ [61, 61] ++ Lib.decDigits c = Lib.decDigits a ++ (60 :: (Lib.decDigits b ++ (61 :: 61 :: (Lib.decDigits c ++ [])))) := by simp
  have pa := dec_pos a
  have pb := dec_pos b
  have pc := dec_pos c
  rw [e]
  refine P_okF (by simp; omega) fun f => ?_
  exact (R_sum (R_num a ha (skip_dec a _) (nd (by decide))) (R_more (sg := [60]) rfl (sign_dec (c := 60) (by decide) b _) rfl (by decide) (R_sum (R_num b hb (skip_dec b _) (nd (by decide))) (R_end (sg := [61, 61]) (sign_two (c := 61) (d := 61) (by decide) _) (by decide))) (R_more (sg := [61, 61]) rfl (sign_two (c := 61) (d := 61) (by decide) _) rfl (by decide) (R_sum (R_num c hc (skip_dec c _) (.inl rfl)) (R_end (sg := []) rfl (by decide))) (R_end (sg := []) rfl (by decide)))))
theorem t_b7 (a b c : Nat) (ha : a ≤ 256) (hb : b ≤ 256) (hc : c ≤ 256) : parseP (Lib.decDigits a ++ [61, 61] ++ Lib.decDigits b ++ [38, 38] ++ Lib.decDigits c) = okR [numO a, numO b, opO 15, numO c, opO 17] := by
  have e : Lib.decDigits a ++ [61, 61] ++ Lib.decDigits b ++ [38, 38] ++ Lib.decDigits c = Lib.decDigits a ++ (61 :: 61 :: (Lib.decDigits b ++ (38 :: 38 :: (Lib.decDigits c ++ [])))) := by simp
  have pa := dec_pos a
  have pb := dec_pos b
  have pc := dec_pos c
  rw [e]
  refine P_okF (by simp; omega) fun f => ?_
  exact (R_sum (R_num a ha (skip_dec a _) (nd (by decide))) (R_more (sg := [61, 61]) rfl (sign_two (c := 61) (d := 61) (by decide) _) rfl (by decide) (R_sum (R_num b hb (skip_dec b _) (nd (by decide))) (R_end (sg := [38, 38]) (sign_two (c := 38) (d := 38) (by decide) _) (by decide))) (R_more (sg := [38, 38]) rfl (sign_two (c := 38) (d := 38) (by decide) _) rfl (by decide) (R_sum (R_num c hc (skip_dec c _) (.inl rfl)) (R_end (sg := []) rfl (by decide))) (R_end (sg := []) rfl (by decide)))))
theorem t_b8 (a b c : Nat) (ha : a ≤ 256) (hb : b ≤ 256) (hc : c ≤ 256) : parseP (Lib.decDigits a ++ [124, 124] ++ Lib.decDigits b ++ [38, 38] ++ Lib.decDigits c) = okR [numO a, numO b, numO c, opO 17, opO 18] := by
  have e : Lib.decDigits a ++ [124, 124] ++ Lib.decDigits b ++ [38, 38] ++ Lib.decDigits c = Lib.decDigits a ++ (124 :: 124 :: (Lib.decDigits b ++ (38 :: 38 :: (Lib.decDigits c ++ [])))) := by simp
  have pa := dec_pos a
  have pb := dec_pos b
  have pc := dec_pos c
  rw [e]
  refine P_okF (by simp; omega) fun f => ?_
  exact (R_sum (R_num a ha (skip_dec a _) (nd (by decide))) (R_more (sg := [124, 124]) rfl (sign_two (c := 124) (d := 124) (by decide) _) rfl (by decide) (R_sum (R_num b hb (skip_dec b _) (nd (by decide))) (R_more (sg := [38, 38]) rfl (sign_two (c := 38) (d := 38) (by decide) _) rfl (by decide) (R_sum (R_num c hc (skip_dec c _) (.inl rfl)) (R_end (sg := []) rfl (by decide))) (R_end (sg := []) rfl (by decide)))) (R_end (sg := []) rfl (by decide))))
theorem t_b9 (a b : Nat) (ha : a ≤ 256) (hb : b ≤ 256) : parseP ([45, 32] ++ Lib.decDigits a ++ [32, 45, 32, 45] ++ Lib.decDigits b) = okR [numO a, opO 3, numO b, opO 3, opO 10] := by
  have e : [45, 32] ++ Lib.decDigits a ++ [32, 45, 32, 45] ++ Lib.decDigits b = 45 :: 32 :: (Lib.decDigits a ++ (32 :: 45 :: 32 :: 45 :: (Lib.decDigits b ++ []))) := by simp
  have pa := dec_pos a
  have pb := dec_pos b
  rw [e]
  refine P_okF (by simp; omega) fun f => ?_
  exact (R_sum (R_ahead rfl (sign_alone (c := 45) (d := 32) (by decide) (by decide) _) rfl (by decide) (by decide) (by decide) (R_num a ha (skip_dec a _) (nd (by decide)))) (R_more (sg := [45]) rfl (sign_alone (c := 45) (d := 32) (by decide) (by decide) _) rfl (by decide) (R_sum (R_ahead (c := 45) rfl (sign_dec (c := 45) (by decide) b _) rfl (by decide) (by decide) (by decide) (R_num b hb (skip_dec b _) (.inl rfl))) (R_end (sg := []) rfl (by decide))) (R_end (sg := []) rfl (by decide))))
theorem t_b10 (a b : Nat) (ha : a ≤ 256) (hb : b ≤ 256) : parseP ([33] ++ Lib.decDigits a ++ [43] ++ Lib.decDigits b) = okR [numO a, opO 5, numO b, opO 9] := by
  have e : [33] ++ Lib.decDigits a ++ [43] ++ Lib.decDigits b = 33 :: (Lib.decDigits a ++ (43 :: (Lib.decDigits b ++ []))) := by simp
  have pa := dec_pos a
  have pb := dec_pos b
  rw [e]
  refine P_okF (by simp; omega) fun f => ?_
  exact (R_sum (R_ahead rfl (sign_dec (c := 33) (by decide) a _) rfl (by decide) (by decide) (by decide) (R_num a ha (skip_dec a _) (nd (by decide)))) (R_more (sg := [43]) rfl (sign_dec (c := 43) (by decide) b _) rfl (by decide) (R_sum (R_num b hb (skip_dec b _) (.inl rfl)) (R_end (sg := []) rfl (by decide))) (R_end (sg := []) rfl (by decide))))
theorem bindsP_is : BindsP parseP := ⟨t_b1, t_b2, t_b3, t_b4, t_b5, t_b6, t_b7, t_b8, t_b9, t_b10⟩
end Go.Proofs.Ytekpopopibhjbaa
