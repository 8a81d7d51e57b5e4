/-
  The contract of the document's Words (conchref1).
-/
import Derived.Test.YtdehjkmjebplbaaRefTrim
import Derived.Test.YtdehjkmjebplbaaPmRow
namespace Go.Proofs.Ytdehjkmjebplbaa
open Go.RowKit

def slLen : Value → Nat | .slice _ k _ => k | _ => 0
/-- how many words -/
def wordsN (n : Int) : Nat := (min (max n 1) 100).toNat
theorem wordsN_in (n : Int) : 1 ≤ wordsN n ∧ wordsN n ≤ 100 ∧ min (max n 1) 100 = (wordsN n : Int) := by unfold wordsN; omega

theorem tw_at {q : UInt8 → Bool} : ∀ (l : List UInt8) (k : Nat), (∀ b ∈ l.take k, q b = true) → (∀ c, l[k]? = some c → q c = false) → k ≤ l.length → l.takeWhile q = l.take k ∧ l.dropWhile q = l.drop k
  | [], k, _, _, hk => by
    have : k = 0 := by simpa using hk
    subst this
    exact ⟨rfl, rfl⟩
  | c :: l, 0, _, h2, _ => by
    rw [List.takeWhile_cons, List.dropWhile_cons, h2 c rfl]
    exact ⟨rfl, rfl⟩
  | c :: l, k + 1, h1, h2, hk => by
    have ih := tw_at l k (fun b hb => h1 b (by rw [List.take_succ_cons]; exact List.mem_cons_of_mem _ hb)) (fun d hd => h2 d hd) (by simpa using hk)
    rw [List.takeWhile_cons, List.dropWhile_cons, h1 c (by rw [List.take_succ_cons]; exact List.mem_cons_self ..)]
    simp only [if_true, List.take_succ_cons, List.drop_succ_cons]
    exact ⟨by rw [ih.1], ih.2⟩
theorem words_step {p : Nat → Bool} {all : List (List UInt8)} {L : List (List UInt8)} {u : List UInt8} {m : Nat} (h : all = L ++ wordsP p (m + 1) u) : all = (L ++ [(trimP p u).takeWhile (fun c => !inP p c)]) ++ wordsP p m ((trimP p u).dropWhile (fun c => !inP p c)) := by
  rw [h, wordsP]
  simp

theorem ext_takeV (T : ByteArray) (k : Nat) : Value.string (T.extract 0 k) = strV (T.data.toList.take k) := by
  rw [extract_bytes]
  unfold strV
  simp
theorem ext_dropD (T : ByteArray) (k : Nat) : (T.extract k T.size).data.toList = T.data.toList.drop k ∧ (T.extract k T.size).size ≤ T.size := by
  rw [extract_bytes]
  constructor
  · show (T.data.toList.drop k).take (T.size - k) = _
    rw [List.take_of_length_le (by simp)]
  · show ((T.data.toList.drop k).take (T.size - k)).toArray.size ≤ _
    simp

set_option maxHeartbeats 4000000 in
set_option maxRecDepth 100000 in
theorem refWords_is (s t : ByteArray) (n : Int) (hs : s.size ≤ 1048576) (ht : t.size ≤ 1048576) (w : World) :
    Calls Try.prog 17 #[.string s, .string t, .int .i64 n] w (LinesLeft w (wordsP (ofS t.data.toList) (wordsN n - 1) s.data.toList)) := by
  obtain ⟨i0, hi, hz0, hz1, hz2⟩ := info_parts info_str
  obtain ⟨hn1, hn2, hn3⟩ := wordsN_in n
  obtain ⟨N, hN⟩ : ∃ N, wordsN n = N := ⟨_, rfl⟩
  rw [hN] at hn1 hn2 hn3
  rw [hN]
  clear hN
  obtain ⟨N1, hN1⟩ : ∃ N1, N - 1 = N1 := ⟨_, rfl⟩
  have EN : (N : Int) - 1 = (N1 : Int) := by omega
  rw [hN1]
  have hN1m : N1 ≤ 99 := by omega
  clear hN1
  obtain ⟨W, hW⟩ : ∃ W, wordsP (ofS t.data.toList) N1 s.data.toList = W := ⟨_, rfl⟩
  rw [hW]
  have HW := Lib.hid hW
  clear hW
  have HI := fun c => Lib.hid (refInAny_is t ht c)
  have HT := fun u hu => Lib.hid (refTrim_is u t hu ht)
  go_enter Try.func17, Try.ntmps17
  go_wp2
  go_loopw [0, 7] (fun x v wr => ∃ (u : ByteArray) (L : List (List UInt8)) (ao : Option Addr) (cap : Nat), u.size ≤ s.size ∧ L.length ≤ N1 ∧ x = .string u ∧ v = .slice ao L.length cap ∧ wr.ownsRow w.heap.size 9 1 (.slice ao L.length cap) L.length (L.map strV) ∧ Below w.heap.size w wr ∧ Hid (W = L ++ wordsP (ofS t.data.toList) (N1 - L.length) u.data.toList)) (fun _ v _ => N1 - slLen v)
  case atStart => exact ⟨s, [], none, 0, Nat.le_refl _, Nat.zero_le _, rfl, rfl, World.ownsRow_nil _ _ _ _, Below.refl _ _, Lib.hid (by rw [← HW.out]; rfl)⟩
  case round =>
    obtain ⟨u, L, ao, cap, hu, hL, rfl, rfl, hown, hb, HR⟩ := hrel
    have HT1 := HT u (by omega)
    obtain ⟨T, hT⟩ : ∃ T : ByteArray, (⟨(trimP (ofS t.data.toList) u.data.toList).toArray⟩ : ByteArray) = T := ⟨_, rfl⟩
    have hTd : trimP (ofS t.data.toList) u.data.toList = T.data.toList := by rw [← hT]
    have hTs : T.size ≤ u.size := by
      rw [← hT]
      show (trimP (ofS t.data.toList) u.data.toList).toArray.size ≤ _
      have := trimP_len (p := ofS t.data.toList) u.data.toList
      simpa using this
    rw [hT] at HT1
    have HTd := Lib.hid hTd
    clear hT hTd HW
    by_cases hlt : L.length < N1
    · have hlti : (L.length : Int) < (N1 : Int) := by omega
      obtain ⟨m, hm⟩ : ∃ m, N1 - L.length = m + 1 := ⟨N1 - L.length - 1, by omega⟩
      have HR2 : Hid (W = (L ++ [T.data.toList.takeWhile (fun c => !inP (ofS t.data.toList) c)]) ++ wordsP (ofS t.data.toList) m (T.data.toList.dropWhile (fun c => !inP (ofS t.data.toList) c))) := Lib.hid (by
        rw [← HTd.out]
        exact words_step (by rw [← hm]; exact HR.out))
      have HM : Hid (N1 - (L.length + 1) = m) := Lib.hid (by omega)
      clear HR hm HTd
      go_wp2_with fail
      refine (HT1.out _).mono ?_
      rintro ending w2 ⟨rfl, rfl⟩
      clear HT1
      go_wp2
      go_loop [8] (fun i => ∃ k : Nat, k ≤ T.size ∧ i = .int .i64 (k : Int) ∧ Hid (∀ b ∈ T.data.toList.take k, (!inP (ofS t.data.toList) b) = true)) (fun i => T.size - (intOf i).toNat)
      case atStart => exact ⟨0, Nat.zero_le _, rfl, Lib.hid (fun b hb => by simp at hb)⟩
      case round =>
        obtain ⟨k, hk, rfl, HK⟩ := hrel
        by_cases hkl : k < T.size
        · have hki : (k : Int) < (T.size : Int) := by omega
          have hk00 : (0 : Int) ≤ (k : Int) := by omega
          have HI1 := HI T[k].toNat
          have HS := Lib.hid (byte_snoc T k hkl)
          have H1 : Hid (ofS t.data.toList T[k].toNat = false → ∀ b ∈ T.data.toList.take (k + 1), (!inP (ofS t.data.toList) b) = true) := Lib.hid fun h b hb => by
            rw [HS.out] at hb
            rcases List.mem_append.1 hb with h1 | h1
            · exact HK.out b h1
            · rw [List.mem_singleton.1 h1]; unfold inP; rw [h]; rfl
          have H2 : Hid (ofS t.data.toList T[k].toNat = true → T.data.toList.takeWhile (fun c => !inP (ofS t.data.toList) c) = T.data.toList.take k ∧ T.data.toList.dropWhile (fun c => !inP (ofS t.data.toList) c) = T.data.toList.drop k) := Lib.hid fun h => tw_at _ k HK.out (fun c hc => by
            have hk2 : k < T.data.toList.length := by simpa using hkl
            rw [List.getElem?_eq_getElem hk2] at hc
            injection hc with hc
            rw [← hc]
            unfold inP
            rw [show T.data.toList[k] = T[k] from rfl, h]
            rfl) (by simpa using hk)
          clear HK HS
          generalize ofS t.data.toList T[k].toNat = z at *
          go_wp2_with fail
          refine (HI1.out _).mono ?_
          rintro ending w3 ⟨rfl, rfl⟩
          cases z with
          | false =>
            have HK2 := Lib.hid (H1.out rfl)
            clear H1 H2
            go_wp2
            go_round
            case rel => exact ⟨k + 1, by omega, rfl, HK2⟩
            case measure => simp [intOf]; omega
          | true =>
            have HX := Lib.hid (H2.out rfl)
            clear H1 H2 HI1
            have hk0 : (0 : Int) ≤ (k : Int) := by omega
            have hk1 : (k : Int) ≤ (T.size : Int) := by omega
            have hsz := hb.size
            have HR3 : Hid (W = (L ++ [T.data.toList.take k]) ++ wordsP (ofS t.data.toList) (N1 - (L ++ [T.data.toList.take k]).length) (T.extract k T.size).data.toList) := Lib.hid (by
              rw [(ext_dropD T k).1, show N1 - (L ++ [T.data.toList.take k]).length = m from by rw [← HM.out]; simp, ← HX.out.1, ← HX.out.2]
              exact HR2.out)
            go_wp2_with (at_builtin; refine wpList_append_two _ rfl _ _ 26 rfl w.heap.size 9 i0 _ 1 16 Try.underlying26 hi hz0 hz1 hz2 rfl (by decide) _ _ _ rfl (hown.alloc _) ⟨wr.heap.size, 0, none⟩ 1 [.string (T.extract 0 k)] rfl rfl ?c1 ?c2 ?c3 ?c4 ?c5 ?_)
            case c1 =>
              intro j x hj
              match j, hj with
              | 0, hj => simp at hj; subst hj; simp [Addr.add]
            case c2 => intro x hx; simp at hx; subst hx; rfl
            case c3 => unfold maxLen; omega
            case c4 => omega
            case c5 => simp; omega
            intro g5 p5 w5 hown5 hg5 _
            rw [ext_takeV] at hown5
            have hb5 : Below w.heap.size w w5 := (bel_alloc hb _).grown hg5 (by simp; omega) (fun k hk => (hown.lt k hk).1)
            have hown6 : w5.ownsRow w.heap.size 9 1 (.slice (some ⟨g5, 0, none⟩) (L ++ [T.data.toList.take k]).length p5) (L ++ [T.data.toList.take k]).length ((L ++ [T.data.toList.take k]).map strV) := by
              rw [show (L ++ [T.data.toList.take k]).length = L.length + 1 by simp, List.map_append]
              exact hown5
            have hsT := (ext_dropD T k).2
            clear hown hown5 hg5 hb
            go_wp2
            go_roundw
            case rel => exact ⟨_, L ++ [T.data.toList.take k], some ⟨g5, 0, none⟩, p5, by omega, by simp; omega, rfl, by simp, hown6, hb5, HR3⟩
            case measure => simp [slLen]; omega
        · have hkt : k = T.size := by omega
          have HX : Hid (T.data.toList.takeWhile (fun c => !inP (ofS t.data.toList) c) = T.data.toList.take k ∧ T.data.toList.dropWhile (fun c => !inP (ofS t.data.toList) c) = T.data.toList.drop k) := Lib.hid (tw_at _ k HK.out (fun c hc => by rw [List.getElem?_eq_none (by simp; omega)] at hc; cases hc) (by simpa using hk))
          have hkd : decide ((k : Int) < (T.size : Int)) = false := decide_eq_false (by omega)
          have hkd2 : decide (k < T.size) = false := decide_eq_false hkl
          clear hkt HK
          have hk0 : (0 : Int) ≤ (k : Int) := by omega
          have hk1 : (k : Int) ≤ (T.size : Int) := by omega
          have hsz := hb.size
          have HR3 : Hid (W = (L ++ [T.data.toList.take k]) ++ wordsP (ofS t.data.toList) (N1 - (L ++ [T.data.toList.take k]).length) (T.extract k T.size).data.toList) := Lib.hid (by
            rw [(ext_dropD T k).1, show N1 - (L ++ [T.data.toList.take k]).length = m from by rw [← HM.out]; simp, ← HX.out.1, ← HX.out.2]
            exact HR2.out)
          go_wp2_with (at_builtin; refine wpList_append_two _ rfl _ _ 26 rfl w.heap.size 9 i0 _ 1 16 Try.underlying26 hi hz0 hz1 hz2 rfl (by decide) _ _ _ rfl (hown.alloc _) ⟨wr.heap.size, 0, none⟩ 1 [.string (T.extract 0 k)] rfl rfl ?d1 ?d2 ?d3 ?d4 ?d5 ?_)
          case d2 => rfl
          case d3 => unfold maxLen; omega
          case d4 => omega
          case d5 => omega
          intro g5 p5 w5 hown5 hg5 _
          rw [ext_takeV] at hown5
          have hb5 : Below w.heap.size w w5 := (bel_alloc hb _).grown hg5 (by simp; omega) (fun k hk => (hown.lt k hk).1)
          have hown6 : w5.ownsRow w.heap.size 9 1 (.slice (some ⟨g5, 0, none⟩) (L ++ [T.data.toList.take k]).length p5) (L ++ [T.data.toList.take k]).length ((L ++ [T.data.toList.take k]).map strV) := by
            rw [show (L ++ [T.data.toList.take k]).length = L.length + 1 by simp, List.map_append]
            exact hown5
          have hsT := (ext_dropD T k).2
          clear hown hown5 hg5 hb
          go_wp2
          go_roundw
          case rel => exact ⟨_, L ++ [T.data.toList.take k], some ⟨g5, 0, none⟩, p5, by omega, by simp; omega, rfl, by simp, hown6, hb5, HR3⟩
          case measure => simp [slLen]; omega
    · have hltd : decide ((L.length : Int) < (N1 : Int)) = false := decide_eq_false (by omega)
      have hltd2 : decide (L.length < N1) = false := decide_eq_false hlt
      have HWE : Hid (W = L ++ [T.data.toList]) := Lib.hid (by rw [HR.out, show N1 - L.length = 0 by omega, wordsP, HTd.out])
      have hsz := hb.size
      clear HR HTd
      go_wp2_with fail
      refine (HT1.out _).mono ?_
      rintro ending w2 ⟨rfl, rfl⟩
      go_wp2_with (at_builtin; refine wpList_append_two _ rfl _ _ 26 rfl w.heap.size 9 i0 _ 1 16 Try.underlying26 hi hz0 hz1 hz2 rfl (by decide) _ _ _ rfl (hown.alloc _) ⟨wr.heap.size, 0, none⟩ 1 [.string T] rfl rfl ?e1 ?e2 ?e3 ?e4 ?e5 ?_)
      case e1 =>
        intro j x hj
        match j, hj with
        | 0, hj => simp at hj; subst hj; simp [Addr.add]
      case e2 => intro x hx; simp at hx; subst hx; rfl
      case e3 => unfold maxLen; omega
      case e4 => omega
      case e5 => simp; omega
      intro g5 p5 w5 hown5 hg5 _
      have hb5 : Below w.heap.size w w5 := (bel_alloc hb _).grown hg5 (by simp; omega) (fun k hk => (hown.lt k hk).1)
      have hown6 : w5.ownsRow w.heap.size 9 1 (.slice (some ⟨g5, 0, none⟩) (L.length + 1) p5) W.length (W.map strV) := by
        rw [HWE.out, show (L ++ [T.data.toList]).length = L.length + 1 by simp, List.map_append]
        exact hown5
      have HH := Lib.hid (And.intro hown6 hb5)
      clear hown hown5 hown6 hg5 hb hb5 HT1
      go_wp2
      go_ret
      exact ⟨_, rfl, HH.out.1, HH.out.2⟩
end Go.Proofs.Ytdehjkmjebplbaa
