/-
  Contracts of package split's Fields and Words: a slice of its own that owns just the fields, or the words.
-/
import Derived.Test.YtdehjkmjebplbaaSpFace
namespace Go.Proofs.Ytdehjkmjebplbaa
open Go.RowKit

theorem own_lower {w : World} {B b : Nat} {e : TypeId} {z : Nat} {v : Value} {n : Nat} {xs : List Value} (h : w.ownsRow B e z v n xs) (hb : b ≤ B) : w.ownsRow b e z v n xs := by
  obtain ⟨h0, h1 | ⟨g, cap, cur, h1, h2, h3⟩⟩ := h
  · exact ⟨h0, .inl h1⟩
  · exact ⟨h0, .inr ⟨g, cap, cur, h1, by omega, h3⟩⟩
theorem fields_step {p : Nat → Bool} {all L : List (List UInt8)} {u : List UInt8} (h : all = L ++ fgo p u []) (hn : (nextF p u).isEmpty = false) : all = (L ++ [nextF p u]) ++ fgo p (nextR p u) [] := by
  rw [h, fields_next, hn]
  simp
theorem fields_end {p : Nat → Bool} {all L : List (List UInt8)} {u : List UInt8} (h : all = L ++ fgo p u []) (hn : (nextF p u).isEmpty = true) : all = L := by
  rw [h, fields_next, hn]
  simp
theorem str_emp (x : List UInt8) : (⟨x.toArray⟩ : ByteArray).toList.isEmpty = x.isEmpty := by rw [toList_data]

set_option maxHeartbeats 4000000 in
set_option maxRecDepth 100000 in
theorem splitFields_is (s t : ByteArray) (hs : s.size ≤ 1048576) (ht : t.size ≤ 1048576) (w : World) :
    Calls Try.prog 11 #[.string s, .string t] w (LinesLeft w (fieldsOf s.data.toList t.data.toList)) := by
  obtain ⟨i0, hi, hz0, hz1, hz2⟩ := info_parts info_str
  have hz := zero_marks
  have HM := Lib.hid (marked_is t ht)
  have HN := fun b u w hu hB => Lib.hid (next_is t.data.toList b u w hu hB)
  obtain ⟨W, hW⟩ : ∃ W, fieldsOf s.data.toList t.data.toList = W := ⟨_, rfl⟩
  rw [hW]
  have HW : Hid (W = [] ++ fgo (ofS t.data.toList) s.data.toList []) := Lib.hid (by rw [← hW]; rfl)
  clear hW
  go_enter Try.func11, Try.ntmps11
  go_wp2_with fail
  refine (HM.out _).mono ?_
  rintro ending w1 ⟨rfl, hb⟩
  clear HM
  obtain ⟨w2, hw2, hB, hb2, hsz2⟩ := marks_laid w w1 hb t.data.toList
  have HW2 := Lib.hid hw2
  have HSZ := Lib.hid hsz2
  clear hw2 hsz2
  go_wp2_with (first | (refine wpList_store_row rfl 35 _ _ rfl w1.heap.size _ rfl rfl _ _ (BlkAt.new w1 _ _) (size_marks _) (by rw [Lib.setCells_size, Array.size_replicate]) (Lib.setCells_one _) ?_; rw [HW2.out]) | fail)
  go_loopw [0, 6] (fun x v wr => ∃ (u : ByteArray) (L : List (List UInt8)), u.size + L.length ≤ s.size ∧ x = .string u ∧ wr.ownsRow w2.heap.size 9 1 v L.length (L.map strV) ∧ Below w2.heap.size w2 wr ∧ Hid (W = L ++ fgo (ofS t.data.toList) u.data.toList [])) (fun x _ _ => strLen x)
  case atStart => exact ⟨s, [], by simp, rfl, World.ownsRow_nil _ _ _ _, Below.refl _ _, HW⟩
  case round =>
    clear HW HW2
    obtain ⟨u, L, hu, rfl, hown, hbx, HR⟩ := hrel
    have HN1 := HN w1.heap.size u wr (by omega) (hB.after hbx)
    clear HN
    have hlen := next_len (ofS t.data.toList) u.data.toList
    have HS1 : Hid (_ ) := Lib.hid (fields_step HR.out)
    have HS2 : Hid (_ ) := Lib.hid (fields_end HR.out)
    clear HR
    generalize nextF (ofS t.data.toList) u.data.toList = f at *
    generalize nextR (ofS t.data.toList) u.data.toList = r at *
    have hF := str_emp f
    have HFV : Hid (strV f = .string ⟨f.toArray⟩) := Lib.hid rfl
    have HRV : Hid (strV r = .string ⟨r.toArray⟩) := Lib.hid rfl
    have HRd : Hid ((⟨r.toArray⟩ : ByteArray).data.toList = r) := Lib.hid rfl
    have HRs : Hid ((⟨r.toArray⟩ : ByteArray).size = r.length) := Lib.hid rfl
    rw [HFV.out, HRV.out] at HN1
    generalize (⟨f.toArray⟩ : ByteArray) = F at *
    generalize (⟨r.toArray⟩ : ByteArray) = R at *
    have hul : u.data.toList.length = u.size := by simp
    rw [hul] at hlen
    clear hul HRV
    cases hfe : f.isEmpty with
    | true =>
      rw [hfe] at hF
      have HX := Lib.hid (HS2.out hfe)
      clear HS1 HS2 hfe
      go_wp2_with fail
      refine HN1.out.mono ?_
      rintro ending w3 ⟨rfl, n, rfl⟩
      have HO := Lib.hid (own_drewN (own_lower hown hb2.size) n)
      have HBB := Lib.hid (bel_drewN (bel_step hb2 hbx) n)
      clear hown hbx HN1
      go_wp2
      go_ret
      exact ⟨_, rfl, by rw [HX.out]; exact HO.out, HBB.out⟩
    | false =>
      rw [hfe] at hF
      have HX := Lib.hid (HS1.out hfe)
      have hfl : 0 < f.length := by
        cases f with
        | nil => simp at hfe
        | cons _ _ => simp
      clear HS1 HS2 hfe
      go_wp2_with fail
      refine HN1.out.mono ?_
      rintro ending w3 ⟨rfl, n, rfl⟩
      have hown2 := own_drewN hown n
      have hbx2 := bel_drewN hbx n
      clear hown hbx HN1
      generalize wr.drewN n = wr at *
      go_wp2_with (at_builtin; refine wpList_append_own _ rfl _ _ 26 rfl w2.heap.size 9 i0 (.string ByteArray.empty) 1 16 Try.underlying26 hi hz0 hz1 hz2 rfl (by decide) _ _ _ rfl (hown2.alloc _) ⟨wr.heap.size, 0, none⟩ 1 1 [.string F] rfl rfl ?c1 ?c2 ?c3 ?c4 ?c5 ?_)
      case c1 =>
        intro j u hj
        match j, hj with
        | 0, hj => simp at hj; subst hj; simp [Addr.add]
      case c2 => intro u hu; simp at hu; subst hu; rfl
      case c3 => unfold maxLen; omega
      case c4 => omega
      case c5 => have := hbx2.size; simp; omega
      intro v' w5 hown' hgrow _
      rw [← HFV.out] at hown'
      have RR := rel_line (x := f) hbx2 hown2 hown' hgrow
      clear hown' hgrow hown2 hbx2
      go_wp2
      go_roundw
      case rel => exact ⟨R, L ++ [f], by have := HRs.out; simp; omega, rfl, RR.1, RR.2, Lib.hid (by rw [HRd.out]; exact HX.out)⟩
      case measure => have := HRs.out; simp [strLen]; omega
end Go.Proofs.Ytdehjkmjebplbaa
