/-
  The contract of the statements' SameTexts: whether two rows of texts are the same; of what was there nothing turns.
-/
import Derived.Test.YtdehjkmjebplbaaLines
namespace Go.Proofs.Ytdehjkmjebplbaa
open Go.RowKit

/-- a slice that reads as these texts -/
def StrRow (w : World) (v : Value) (xs : List (List UInt8)) : Prop :=
  ∃ (ao : Option Addr) (cap : Nat), v = .slice ao xs.length cap ∧ xs.length ≤ maxLen ∧ (0 < xs.length → ∃ g, ao = some ⟨g, 0, none⟩ ∧ ∀ (j : Nat) (x : List UInt8), xs[j]? = some x → w.cell? ⟨g, j, none⟩ = some (strV x))

theorem StrRow.of_owns {w : World} {base : Nat} {v : Value} {xs : List (List UInt8)} (h : w.ownsRow base 9 1 v xs.length (xs.map strV)) : StrRow w v xs := by
  obtain ⟨_, h1 | ⟨g, cap, cur, h1, h2, h3, h4, h5, h6, h7⟩⟩ := h
  · obtain ⟨h1, h2⟩ := h1
    refine ⟨none, 0, by rw [h2]; exact h1, by omega, fun h => by omega⟩
  · refine ⟨_, cap, h1, by omega, fun _ => ⟨g, rfl, ?_⟩⟩
    intro j x hj
    have hl : j < xs.length := (List.getElem?_eq_some_iff.1 hj).1
    have ho : w.ownsRow base 9 1 (.slice (some ⟨g, 0, none⟩) xs.length cap) xs.length (xs.map strV) := ⟨by simp, .inr ⟨g, cap, cur, rfl, h2, h3, h4, h5, h6, h7⟩⟩
    rw [ho.cellAt j (by omega), List.getElem?_map, hj]; rfl

/-- what a look leaves: the answer, and draws -/
def Told (w : World) (b : Bool) (e : Ending) (w' : World) : Prop := e = .returned (.bool b) ∧ ∃ n, w' = w.drewN n

theorem same_upto {xs ys : List (List UInt8)} {n k : Nat} (hx : xs.length = n) (hy : ys.length = n) (hk : n ≤ k) (h : ∀ j : Nat, j < k → xs[j]? = ys[j]?) : xs = ys := by
  apply List.ext_getElem?
  intro j
  by_cases hj : j < k
  · exact h j hj
  · rw [List.getElem?_eq_none (by omega), List.getElem?_eq_none (by omega)]

set_option maxHeartbeats 1000000 in
theorem SameTexts_any (a b : Value) (xs ys : List (List UInt8)) (w : World) (ha : StrRow w a xs) (hb : StrRow w b ys) :
    Calls Try.prog 10 #[a, b] w (Told w (decide (xs = ys))) := by
  obtain ⟨ao, ca, rfl, hla, hca⟩ := ha
  obtain ⟨bo, cb, rfl, hlb, hcb⟩ := hb
  unfold maxLen at hla hlb
  generalize hn : xs.length = n at *
  generalize hm : ys.length = m at *
  by_cases hne : n = m
  · subst hne
    have HN := Lib.hid hn; have HM := Lib.hid hm; have HA := Lib.hid hca; have HB := Lib.hid hcb
    clear hn hm hca hcb
    go_enter Try.func10, Try.ntmps10
    go_wp2
    go_loopw [5] (fun i wr => ∃ (k q : Nat), k ≤ n ∧ i = .int .i64 k ∧ wr = w.drewN q ∧ Hid (∀ j : Nat, j < k → xs[j]? = ys[j]?)) (fun i _ => n - (intOf i).toNat)
    case atStart => exact ⟨0, 0, Nat.zero_le _, rfl, rfl, Lib.hid (fun j hj => by omega)⟩
    case round =>
      obtain ⟨k, q, hk, rfl, rfl, HR⟩ := hrel
      by_cases hlt : k < n
      · obtain ⟨g, rfl, hg⟩ := HA.out (by omega)
        obtain ⟨g', rfl, hg'⟩ := HB.out (by omega)
        obtain ⟨x, hx⟩ : ∃ x, xs[k]? = some x := ⟨_, List.getElem?_eq_getElem (by have := HN.out; omega)⟩
        obtain ⟨y, hy⟩ : ∃ y, ys[k]? = some y := ⟨_, List.getElem?_eq_getElem (by have := HM.out; omega)⟩
        have c1 := hg k x hx
        have c2 := hg' k y hy
        unfold strV at c1 c2
        obtain ⟨X, hX⟩ : ∃ X : ByteArray, X = ⟨x.toArray⟩ := ⟨_, rfl⟩
        obtain ⟨Y, hY⟩ : ∃ Y : ByteArray, Y = ⟨y.toArray⟩ := ⟨_, rfl⟩
        rw [← hX] at c1; rw [← hY] at c2
        have HX := Lib.hid hX; have HY := Lib.hid hY; have Hx := Lib.hid hx; have Hy := Lib.hid hy
        clear hg hg' hx hy hX hY HA HB
        go_wp2
        have hXd : X.toList = x := by rw [toList_data, HX.out]
        have hYd : Y.toList = y := by rw [toList_data, HY.out]
        have HXd := Lib.hid hXd; have HYd := Lib.hid hYd
        clear hXd hYd HX HY
        go_quiet (fail)
        go_wp2
        · have h : (!X.toList == Y.toList) = true := by assumption
          go_ret
          refine ⟨?_, _, World.drewN_drewN _ _ _⟩
          have hne : ¬ xs = ys := by
            intro he
            rw [HXd.out, HYd.out] at h
            have : x = y := Option.some.inj (by rw [← Hx.out, ← Hy.out, he])
            simp [this] at h
          rw [decide_eq_false hne]; rfl
        · have h : (!X.toList == Y.toList) = false := by assumption
          go_roundw
          case rel =>
            refine ⟨k + 1, _, by omega, by go_num, rfl, Lib.hid ?_⟩
            intro j hj
            by_cases hjk : j < k
            · exact HR.out j hjk
            · obtain rfl : j = k := by omega
              rw [HXd.out, HYd.out] at h
              rw [Hx.out, Hy.out]
              have : x = y := by simpa using h
              rw [this]
          case measure => simp [intOf]; omega
      · have HE : Hid (xs = ys) := Lib.hid (same_upto HN.out HM.out (by omega) HR.out)
        go_wp2
        go_ret
        exact ⟨by rw [decide_eq_true HE.out]; rfl, _, rfl⟩
  · have HE : Hid (¬ xs = ys) := Lib.hid (by intro h; rw [h] at hn; omega)
    clear hn hm hca hcb
    have hb : ((n : Int) != (m : Int)) = true := by rw [bne_iff_ne]; omega
    go_enter Try.func10, Try.ntmps10
    go_wp2
    go_ret
    exact ⟨by rw [decide_eq_false HE.out]; rfl, 0, rfl⟩
end Go.Proofs.Ytdehjkmjebplbaa
