/-
  Contracts of package pos (Of, lineBegin, lineLen, At), of what of Go's strings it calls (Count at one byte, LastIndexByte, IndexByte), and of the document's answer (conchref1.Place), over the translation: each returns what the plain functions say, and the world is as it was.
-/
import Derived.Test.YthphdcapkgengaaChecked
import Derived.Test.YthphdcapkgengaaPosPlain
import Derived.WalkKit
import Derived.Lib.Hide
import Derived.Lib.Walk
namespace Go.Proofs.Ythphdcapkgengaa
open Go.RowKit

theorem from_data (s : ByteArray) (a : Nat) : (s.extract a s.size).data.toList = s.data.toList.drop a := by
  cases s with
  | mk d => rw [ByteArray.extract_mk]; simp; rw [List.take_of_length_le (by simp; show d.size ≤ d.size - a + a; omega)]
theorem upto_data (s : ByteArray) (b : Nat) : (s.extract 0 b).data.toList = s.data.toList.take b := by
  cases s with
  | mk d => rw [ByteArray.extract_mk]; simp
theorem byte_cons (s : ByteArray) (k : Nat) (h : k < s.size) : s.data.toList.drop k = s[k] :: s.data.toList.drop (k + 1) := by
  rw [List.drop_eq_getElem_cons (by simpa using h)]; rfl
theorem len_data (s : ByteArray) : s.data.toList.length = s.size := by simp

set_option maxHeartbeats 1000000 in
set_option maxRecDepth 100000 in
theorem Count_feed (s : ByteArray) (w : World) :
    Calls Try.prog 10 #[.string s, .string ⟨#[10]⟩] w fun e w' => e = .returned (.int .i64 (s.data.toList.count 10 : Nat)) ∧ w = w' := by
  go_enter Try.func10, Try.ntmps10
  go_wp2
  rw [run_callFunc_extern Try.func15 (by kernel_rfl) (by kernel_rfl) (by kernel_rfl) (e := Extern.BytealgCount.count) (by kernel_rfl), Lib.run_countString]
  simp only [Result.andThen]
  rw [Oper.upon_value]
  go_wp2
  go_ret
  exact ⟨rfl, rfl⟩

set_option maxHeartbeats 1000000 in
set_option maxRecDepth 100000 in
theorem slIndexByte_any (s : ByteArray) (c : Int) (w : World) :
    Calls Try.prog 20 #[.string s, .int .u8 c] w fun e w' => e = .returned (.int .i64 (Lib.indexByte s.data.toList c.toNat.toUInt8)) ∧ w = w' := by
  go_enter Try.func20, Try.ntmps20
  go_wp2
  rw [run_callFunc_extern Try.func24 (by kernel_rfl) (by kernel_rfl) (by kernel_rfl) (e := Extern.BytealgIndexByte.indexByte) (by kernel_rfl), Lib.run_indexByteString]
  simp only [Result.andThen]
  rw [Oper.upon_value]
  go_wp2
  go_ret
  exact ⟨rfl, rfl⟩

set_option maxHeartbeats 1000000 in
theorem IndexByte_feed (s : ByteArray) (w : World) :
    Calls Try.prog 18 #[.string s, .int .u8 10] w fun e w' => e = .returned (.int .i64 (Lib.indexByte s.data.toList 10)) ∧ w = w' := by
  go_enter Try.func18, Try.ntmps18
  go_wp2_with fail
  refine (slIndexByte_any _ _ _).mono ?_
  rintro e w' ⟨rfl, rfl⟩
  go_wp2
  go_ret
  exact ⟨rfl, rfl⟩

set_option maxHeartbeats 1000000 in
theorem LastIndex_feed (s : ByteArray) (w : World) (hs : s.size ≤ 1048576) :
    Calls Try.prog 17 #[.string s, .int .u8 10] w fun e w' => e = .returned (.int .i64 ((s.size : Int) - (cn s.data.toList : Nat))) ∧ w = w' := by
  go_enter Try.func17, Try.ntmps17
  go_wp2
  go_loop [5] (fun i => ∃ k : Nat, k ≤ s.size ∧ i = .int .i64 ((k : Int) - 1) ∧ Hid (cn s.data.toList = (s.size - k) + cnAt s.data.toList k)) (fun i => (intOf i + 1).toNat)
  case atStart => exact ⟨s.size, Nat.le_refl _, rfl, Lib.hid (by rw [cnAt_end _ (by simp)]; omega)⟩
  case round =>
    obtain ⟨k, hk, rfl, HR⟩ := hrel
    cases k with
    | zero =>
      have hg : ¬ (0 : Int) ≤ ((0 : Nat) : Int) - 1 := by omega
      go_wp2
      go_ret
      exact ⟨by rw [HR.out, cnAt_zero]; go_num, rfl⟩
    | succ k =>
      have hlt : k < s.size := by omega
      have hg : (((k + 1 : Nat) : Int) - 1) = (k : Int) := by omega
      rw [hg]
      have HD := Lib.hid (byte_cons s k hlt)
      by_cases hc : s[k] = 10
      · have hc2 : (s[k].toNat : Int) = 10 := by rw [hc]; rfl
        have HC := Lib.hid hc; clear hc
        go_wp2
        go_ret
        exact ⟨by rw [HR.out, (step_feed (HC.out ▸ HD.out)).2]; go_num, rfl⟩
      · have hc2 : ¬ (s[k].toNat : Int) = 10 := fun h => hc (UInt8.toNat_inj.1 (by show s[k].toNat = 10; omega))
        have HC := Lib.hid hc; clear hc
        go_wp2
        go_round
        case rel => exact ⟨k, by omega, rfl, Lib.hid (by have := (step_other HD.out HC.out).2; have := HR.out; omega)⟩
        case measure => simp [intOf]

set_option maxHeartbeats 1000000 in
theorem LastIndexByte_feed (s : ByteArray) (w : World) (hs : s.size ≤ 1048576) :
    Calls Try.prog 11 #[.string s, .int .u8 10] w fun e w' => e = .returned (.int .i64 ((s.size : Int) - (cn s.data.toList : Nat))) ∧ w = w' := by
  go_enter Try.func11, Try.ntmps11
  go_wp2_with fail
  refine (LastIndex_feed _ _ hs).mono ?_
  rintro e w' ⟨rfl, rfl⟩
  go_wp2
  go_ret
  exact ⟨rfl, rfl⟩

/-- the place that is meant by a -/
def held (n : Nat) (a : Int) : Nat := (min (max a 0) (n : Int)).toNat

theorem held_le (n : Nat) (a : Int) : held n a ≤ n := by unfold held; omega
theorem held_in (n k : Nat) (h : k ≤ n) : held n (k : Int) = k := by unfold held; omega

set_option maxHeartbeats 1000000 in
theorem Of_any (s : ByteArray) (a : Int) (w : World) (hs : s.size ≤ 1048576) :
    Calls Try.prog 7 #[.string s, .int .i64 a] w fun e w' => e = .returned (.tuple #[.int .i64 (lnAt s.data.toList (held s.size a) : Nat), .int .i64 (cnAt s.data.toList (held s.size a) : Nat)]) ∧ w = w' := by
  have hS := Lib.hid hs
  obtain ⟨h, hh⟩ : ∃ h, (min (max a 0) (s.size : Int)).toNat = h := ⟨_, rfl⟩
  have HH : Hid (held s.size a = h) := Lib.hid hh
  have hl : h ≤ s.size := by omega
  obtain ⟨x, hx⟩ : ∃ x, s.extract 0 h = x := ⟨_, rfl⟩
  have hxs : x.size = h := by rw [← hx, ByteArray.size_extract]; omega
  have HX : Hid (x.data.toList = s.data.toList.take h) := Lib.hid (by rw [← hx, upto_data])
  have hc : x.data.toList.count 10 ≤ h := by
    have := List.count_le_length (a := (10 : UInt8)) (l := x.data.toList)
    rw [len_data] at this; omega
  have hn0 := cn_pos x.data.toList
  have hn1 := cn_le x.data.toList
  rw [len_data] at hn1
  obtain ⟨N, hN⟩ : ∃ N, x.data.toList.count 10 = N := ⟨_, rfl⟩
  obtain ⟨M, hM⟩ : ∃ M, cn x.data.toList = M := ⟨_, rfl⟩
  rw [hN] at hc; rw [hM] at hn0 hn1
  have HN := Lib.hid hN
  have HM := Lib.hid hM
  go_enter Try.func7, Try.ntmps7
  go_wp2_with fail
  clear hN hM hh hx
  refine (Count_feed _ _).mono ?_
  rintro e w' ⟨rfl, rfl⟩
  rw [HN.out]
  go_wp2_with fail
  refine (LastIndexByte_feed _ _ (by omega)).mono ?_
  rintro e w' ⟨rfl, rfl⟩
  rw [HM.out]
  go_wp2
  go_ret2
  refine ⟨?_, rfl⟩
  rw [HH.out]
  unfold lnAt cnAt
  rw [← HX.out, HM.out]
  unfold ln
  rw [HN.out]
  go_num

set_option maxHeartbeats 1000000 in
theorem lineLen_any (s : ByteArray) (w : World) :
    Calls Try.prog 13 #[.string s] w fun e w' => e = .returned (.int .i64 (llen s.data.toList : Nat)) ∧ w = w' := by
  have hi := index_eq s.data.toList
  have hl := llen_le s.data.toList
  rw [len_data] at hi hl
  obtain ⟨N, hN⟩ : ∃ N, llen s.data.toList = N := ⟨_, rfl⟩
  rw [hN] at hi hl ⊢
  clear hN
  by_cases h : N < s.size
  · rw [if_pos h] at hi
    have HI := Lib.hid hi; clear hi
    go_enter Try.func13, Try.ntmps13
    go_wp2_with fail
    refine (IndexByte_feed _ _).mono ?_
    rintro e w' ⟨rfl, rfl⟩
    rw [HI.out]
    go_wp2
    go_ret
    exact ⟨rfl, rfl⟩
  · rw [if_neg h] at hi
    have HI := Lib.hid hi; clear hi
    obtain rfl : N = s.size := by omega
    go_enter Try.func13, Try.ntmps13
    go_wp2_with fail
    refine (IndexByte_feed _ _).mono ?_
    rintro e w' ⟨rfl, rfl⟩
    rw [HI.out]
    go_wp2
    go_ret
    exact ⟨rfl, rfl⟩

/-- what lineBegin tells -/
def BeginIs (l : List UInt8) (line : Int) (e : Ending) : Prop :=
  (∃ b : Nat, b ≤ l.length ∧ (lnAt l b : Int) = line ∧ cnAt l b = 1 ∧ e = .returned (.tuple #[.int .i64 b, .bool true])) ∨
  ((∀ k, k ≤ l.length → (lnAt l k : Int) = line → False) ∧ e = .returned (.tuple #[.int .i64 0, .bool false]))

set_option maxHeartbeats 1000000 in
theorem lineBegin_any (s : ByteArray) (line : Int) (w : World) (hs : s.size ≤ 1048576) (h1 : line ≤ 9223372036854775807) :
    Calls Try.prog 12 #[.string s, .int .i64 line] w fun e w' => BeginIs s.data.toList line e ∧ w = w' := by
  by_cases hp : line < 1
  · go_enter Try.func12, Try.ntmps12
    go_wp2
    go_ret2
    exact ⟨.inr ⟨fun k _ h => by have := lnAt_pos s.data.toList k; omega, rfl⟩, rfl⟩
  · go_enter Try.func12, Try.ntmps12
    go_wp2
    go_loop [1, 6] (fun x y => ∃ (n : Int) (b : Nat), 1 ≤ n ∧ n ≤ line ∧ b ≤ s.size ∧ x = .int .i64 n ∧ y = .int .i64 b ∧ Hid ((lnAt s.data.toList b : Int) = line - n + 1 ∧ cnAt s.data.toList b = 1)) (fun x _ => (intOf x).toNat)
    case atStart => exact ⟨line, 0, by omega, by omega, by omega, rfl, rfl, Lib.hid ⟨by rw [lnAt_zero]; omega, cnAt_zero _⟩⟩
    case round =>
      obtain ⟨n, b, hn, hn2, hb, rfl, rfl, HR⟩ := hrel
      by_cases hg : 1 < n
      · have hi := index_eq (s.data.toList.drop b)
        have hl := llen_le (s.data.toList.drop b)
        have hd : (s.data.toList.drop b).length = s.size - b := by simp
        have hx : (s.extract b s.size).data.toList = s.data.toList.drop b := from_data s b
        rw [← hx] at hi
        have HX := Lib.hid hx; clear hx
        by_cases h : llen (s.data.toList.drop b) < (s.data.toList.drop b).length
        · have HN := Lib.hid (next_line h)
          rw [HX.out, if_pos h] at hi
          obtain ⟨N, hN⟩ : ∃ N, llen (s.data.toList.drop b) = N := ⟨_, rfl⟩
          rw [hN] at hi h
          rw [hd] at h
          have HI := Lib.hid hi; clear hi hl hd
          have HE := Lib.hid hN; clear hN
          go_wp2_with fail
          refine (IndexByte_feed _ _).mono ?_
          rintro e w' ⟨rfl, rfl⟩
          rw [HX.out, HI.out]
          go_wp2_with fail
          go_round
          case rel => exact ⟨n - 1, b + N + 1, by omega, by omega, by omega, rfl, by go_num, Lib.hid ⟨by have := HN.out.1; rw [HE.out] at this; have := HR.out.1; omega, by have := HN.out.2; rw [HE.out] at this; exact this⟩⟩
          case measure => simp [intOf]; omega
        · rw [HX.out, if_neg h] at hi
          have HI := Lib.hid hi; clear hi hl hd
          have HL := Lib.hid h; clear h
          go_wp2_with fail
          refine (IndexByte_feed _ _).mono ?_
          rintro e w' ⟨rfl, rfl⟩
          rw [HX.out, HI.out]
          go_wp2_with fail
          go_ret2
          exact ⟨.inr ⟨fun k hk h => by have := last_line (by rw [len_data]; exact hb) hk HL.out; have := HR.out.1; omega, rfl⟩, rfl⟩
      · go_wp2_with fail
        go_ret2
        exact ⟨.inl ⟨b, by rw [len_data]; exact hb, by have := HR.out.1; omega, HR.out.2, rfl⟩, rfl⟩

/-- what At tells -/
def atRes (o : Option Nat) : Ending := .returned (.tuple #[.int .i64 (o.getD 0 : Nat), .bool o.isSome])

set_option maxHeartbeats 1000000 in
theorem At_any (s : ByteArray) (line col : Int) (w : World) (hs : s.size ≤ 1048576) (h1 : line ≤ 9223372036854775807) (h2 : col ≤ 9223372036854775807) :
    Calls Try.prog 8 #[.string s, .int .i64 line, .int .i64 col] w fun e w' => (∃ o, AtIs s.data.toList line col o ∧ e = atRes o) ∧ w = w' := by
  have hS := Lib.hid hs
  by_cases hc : col < 1
  · go_enter Try.func8, Try.ntmps8
    go_wp2
    go_ret2
    exact ⟨⟨none, fun m _ _ h => by have := cnAt_pos s.data.toList m; omega, rfl⟩, rfl⟩
  · go_enter Try.func8, Try.ntmps8
    go_wp2_with fail
    refine (lineBegin_any _ _ _ hS.out h1).mono ?_
    rintro e w' ⟨hb, rfl⟩
    rcases hb with ⟨b, hb, hl, hc1, rfl⟩ | ⟨hno, rfl⟩
    · rw [len_data] at hb
      have HL := Lib.hid hl; have HC := Lib.hid hc1; clear hl hc1
      go_wp2_with fail
      refine (lineLen_any _ _).mono ?_
      rintro e w' ⟨rfl, rfl⟩
      rw [from_data]
      obtain ⟨N, hN⟩ : ∃ N, llen (s.data.toList.drop b) = N := ⟨_, rfl⟩
      have hNl := llen_le (s.data.toList.drop b)
      rw [hN, List.length_drop, len_data] at hNl
      rw [hN]
      have HN := Lib.hid hN; clear hN
      by_cases hg : (N : Int) + 1 < col
      · go_wp2
        go_ret2
        refine ⟨⟨none, fun m hm h g => ?_, rfl⟩, rfl⟩
        have hi := in_line (l := s.data.toList) (b := b) (k := m) (by rw [len_data]; exact hb) hm HC.out (by have := HL.out; omega)
        have ha := along (l := s.data.toList) (b := b) (j := m - b) (by omega)
        rw [show b + (m - b) = m by omega, HC.out] at ha
        have := HN.out
        omega
      · go_wp2
        go_ret2
        have ha := along (l := s.data.toList) (b := b) (j := (col - 1).toNat) (by rw [HN.out]; omega)
        refine ⟨⟨some (b + (col - 1).toNat), ⟨by rw [len_data]; omega, by have := HL.out; omega, by rw [ha.2, HC.out]; omega⟩, ?_⟩, rfl⟩
        unfold atRes
        show Ending.returned (.tuple #[.int .i64 _, _]) = .returned (.tuple #[.int .i64 ((b + (col - 1).toNat : Nat) : Int), .bool true])
        rw [show ((b + (col - 1).toNat : Nat) : Int) = (b : Int) + col - 1 by omega]
        rfl
    · have HNo := Lib.hid hno; clear hno
      go_wp2
      go_ret2
      exact ⟨⟨none, fun m hm h _ => HNo.out m hm h, rfl⟩, rfl⟩

theorem At_is (s : ByteArray) (line col : Int) (o : Option Nat) (w : World) (hs : s.size ≤ 1048576) (h1 : line ≤ 9223372036854775807) (h2 : col ≤ 9223372036854775807) (ho : AtIs s.data.toList line col o) :
    Calls Try.prog 8 #[.string s, .int .i64 line, .int .i64 col] w fun e w' => e = .returned (.tuple #[.int .i64 (o.getD 0 : Nat), .bool o.isSome]) ∧ w = w' :=
  (At_any s line col w hs h1 h2).mono fun _ _ ⟨⟨_, hp, he⟩, hw⟩ => ⟨by rw [he, hp.one ho]; rfl, hw⟩

theorem Of_at (s : ByteArray) (k : Nat) (w : World) (hs : s.size ≤ 1048576) (hk : k ≤ s.size) :
    Calls Try.prog 7 #[.string s, .int .i64 k] w fun e w' => e = .returned (.tuple #[.int .i64 (lnAt s.data.toList k : Nat), .int .i64 (cnAt s.data.toList k : Nat)]) ∧ w = w' := by
  have := Of_any s k w hs
  rwa [held_in _ _ hk] at this

set_option maxHeartbeats 1000000 in
theorem Place_any (s : ByteArray) (a : Int) (w : World) (hs : s.size ≤ 1048576) :
    Calls Try.prog 9 #[.string s, .int .i64 a] w fun e w' => e = .returned (.tuple #[.int .i64 (lnAt s.data.toList (held s.size a) : Nat), .int .i64 (cnAt s.data.toList (held s.size a) : Nat)]) ∧ w = w' := by
  obtain ⟨h, hh⟩ : ∃ h : Nat, min (max a 0) (s.size : Int) = h := ⟨(min (max a 0) (s.size : Int)).toNat, by omega⟩
  have HH : Hid (held s.size a = h) := Lib.hid (by unfold held; omega)
  have hl : h ≤ s.size := by omega
  go_enter Try.func9, Try.ntmps9
  go_wp2_with fail
  clear hh
  go_loop [6, 7, 8] (fun x y i => ∃ (k n m : Nat), k ≤ h ∧ n ≤ k + 1 ∧ m ≤ k + 1 ∧ x = .int .i64 n ∧ y = .int .i64 m ∧ i = .int .i64 k ∧ Hid (lnAt s.data.toList k = n ∧ cnAt s.data.toList k = m)) (fun _ _ i => h - (intOf i).toNat)
  case atStart => exact ⟨0, 1, 1, by omega, by omega, by omega, rfl, rfl, rfl, Lib.hid ⟨lnAt_zero _, cnAt_zero _⟩⟩
  case round =>
    obtain ⟨k, n, m, hk, hn, hm, rfl, rfl, rfl, HR⟩ := hrel
    by_cases hlt : k < h
    · have hks : k < s.size := by omega
      have HD := Lib.hid (byte_cons s k hks)
      by_cases hc : s[k] = 10
      · have hc2 : (s[k].toNat : Int) = 10 := by rw [hc]; rfl
        have HC := Lib.hid hc; clear hc
        go_wp2
        go_round
        case rel => exact ⟨k + 1, n + 1, 1, by omega, by omega, by omega, by go_num, rfl, by go_num, Lib.hid (by have := step_feed (HC.out ▸ HD.out); have := HR.out; omega)⟩
        case measure => simp [intOf]; omega
      · have hc2 : ¬ (s[k].toNat : Int) = 10 := fun h => hc (UInt8.toNat_inj.1 (by show s[k].toNat = 10; omega))
        have HC := Lib.hid hc; clear hc
        go_wp2
        go_round
        case rel => exact ⟨k + 1, n, m + 1, by omega, by omega, by omega, rfl, by go_num, by go_num, Lib.hid (by have := step_other HD.out HC.out; have := HR.out; omega)⟩
        case measure => simp [intOf]; omega
    · have HK : Hid (k = h) := Lib.hid (by omega)
      go_wp2
      go_ret2
      exact ⟨by rw [HH.out, ← HK.out, HR.out.1, HR.out.2]; rfl, rfl⟩

/-- 'ends with v, and of what was there nothing turns' -/
def Gives (w : World) (v : Value) (e : Ending) (w' : World) : Prop := e = .returned v ∧ Below w.heap.size w w'

set_option maxHeartbeats 1000000 in
theorem awake_any (w : World) : Calls Try.prog 6 #[] w fun e w' => e = .returned (.bool true) ∧ w = w' := by
  have H1 : Hid (AtIs [97, 10, 98, 99] 2 2 (some 3)) := Lib.hid ⟨by decide, by decide, by decide⟩
  have H2 : Hid (AtIs [97] 2 1 none) := Lib.hid (fun m hm h _ => by
    have := lnAt_le [97] m
    have : m = 0 ∨ m = 1 := by simp at hm; omega
    rcases this with rfl | rfl
    · revert h; decide
    · revert h; decide)
  go_enter Try.func6, Try.ntmps6
  go_wp2_with fail
  refine (Of_at ⟨#[97, 10, 98, 99]⟩ 3 _ (by decide) (by decide)).mono ?_
  rintro e w' ⟨rfl, rfl⟩
  rw [show lnAt (⟨#[97, 10, 98, 99]⟩ : ByteArray).data.toList 3 = 2 by decide, show cnAt (⟨#[97, 10, 98, 99]⟩ : ByteArray).data.toList 3 = 2 by decide]
  go_wp2_with fail
  refine (At_is ⟨#[97, 10, 98, 99]⟩ 2 2 (some 3) _ (by decide) (by decide) (by decide) H1.out).mono ?_
  rintro e w' ⟨rfl, rfl⟩
  go_wp2_with fail
  refine (At_is ⟨#[97]⟩ 2 1 none _ (by decide) (by decide) (by decide) H2.out).mono ?_
  rintro e w' ⟨rfl, rfl⟩
  go_wp2
  go_ret
  exact ⟨rfl, rfl⟩

end Go.Proofs.Ythphdcapkgengaa
