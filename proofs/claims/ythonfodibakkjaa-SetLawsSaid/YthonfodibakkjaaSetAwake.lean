/-
  conchlaw3.awake: what the document fixes of sets.
-/
import Derived.Test.YthonfodibakkjaaSetAt
import Derived.Test.YthonfodibakkjaaSetOf
import Derived.Test.YthonfodibakkjaaSetBytesOf
import Derived.Test.YthonfodibakkjaaLater
namespace Go.Proofs.Ythonfodibakkjaa
open Go.RowKit

theorem bytes_ba : bytesS (ofS [98, 97]) = [97, 98] := by decide +kernel
theorem bytes_012 : bytesS (rangeS 48 50) = [48, 49, 50] := by decide +kernel
theorem cnt_all : cntS (rangeS 1 255) = 255 := by decide +kernel
theorem ba_a : ofS [98, 97] 97 = true := by decide +kernel
theorem ba_c : ofS [98, 97] 99 = false := by decide +kernel
theorem all_0 : rangeS 1 255 0 = false := by decide +kernel
theorem sub_ba : subS (ofS [98, 97]) (rangeS 1 255) = true := by
  rw [subS_iff]
  intro c _ h
  obtain ⟨b, hb, rfl⟩ := (ofS_iff _ _).1 h
  simp at hb
  rcases hb with rfl | rfl <;> decide +kernel

set_option maxHeartbeats 400000 in
set_option maxRecDepth 100000 in
theorem awake_is (w : World) : Calls Try.prog 11 #[] w (Gives w (.bool true)) := by
  have h1 := Of_is ⟨#[98, 97]⟩ (by decide)
  rw [show (⟨#[98, 97]⟩ : ByteArray).data.toList = [98, 97] from rfl] at h1
  have h2 := Bytes_is (ofS [98, 97])
  rw [bytes_ba] at h2
  have h3 := Has_is (ofS [98, 97]) 97 (by decide)
  rw [ba_a] at h3
  have h4 := Has_is (ofS [98, 97]) 99 (by decide)
  rw [ba_c] at h4
  have h5 := All_is
  have h6 := Count_is (rangeS 1 255)
  rw [cnt_all] at h6
  have h7 := Has_is (rangeS 1 255) 0 (by decide)
  rw [all_0] at h7
  have h8 := Range_is 48 50
  have h9 := Bytes_is (rangeS 48 50)
  rw [bytes_012] at h9
  have hX := Within_is (ofS [98, 97]) (rangeS 1 255)
  rw [sub_ba] at hX
  have H1 := Lib.hid h1
  have H2 := Lib.hid h2
  have H3 := Lib.hid h3
  have H4 := Lib.hid h4
  have H5 := Lib.hid h5
  have H6 := Lib.hid h6
  have H7 := Lib.hid h7
  have H8 := Lib.hid h8
  have H9 := Lib.hid h9
  have HX := Lib.hid hX
  clear h1 h2 h3 h4 h5 h6 h7 h8 h9 hX
  have hn : ∀ w : World, SetAt (w.alloc (.cells #[.int .u64 (wd (ofS [98, 97]) 0 : Nat), .int .u64 (wd (ofS [98, 97]) 1 : Nat), .int .u64 (wd (ofS [98, 97]) 2 : Nat), .int .u64 (wd (ofS [98, 97]) 3 : Nat)] 24)) w.heap.size (ofS [98, 97]) := fun w => SetAt.new w _
  have HN := Lib.hid hn
  clear hn
  unfold setV at H1 H2 H3 H4 H5 H6 H7 H8 H9 HX
  generalize ofS [98, 97] = p at *
  generalize rangeS 1 255 = q at *
  generalize rangeS 48 50 = r at *
  go_enter Try.func11, Try.ntmps11
  go_wp2_with fail
  refine (H1.out _).mono ?_
  rintro e w1 ⟨rfl, hb1⟩
  go_wp2
  have hs := HN.out w1
  have hB := Lib.hid (bel_alloc hb1 (.cells #[.int .u64 (wd p 0 : Nat), .int .u64 (wd p 1 : Nat), .int .u64 (wd p 2 : Nat), .int .u64 (wd p 3 : Nat)] 24))
  clear hb1
  generalize w1.alloc (.cells #[.int .u64 (wd p 0 : Nat), .int .u64 (wd p 1 : Nat), .int .u64 (wd p 2 : Nat), .int .u64 (wd p 3 : Nat)] 24) = wB at *
  have L0 : ∀ x : Later wB, x.at_.cell? ⟨w1.heap.size, 0, none⟩ = some (.int .u64 (wd p 0 : Nat)) := fun x => (hs.after x.below).cells.1
  have L1 : ∀ x : Later wB, x.at_.cell? ⟨w1.heap.size, 1, none⟩ = some (.int .u64 (wd p 1 : Nat)) := fun x => (hs.after x.below).cells.2.1
  have L2 : ∀ x : Later wB, x.at_.cell? ⟨w1.heap.size, 2, none⟩ = some (.int .u64 (wd p 2 : Nat)) := fun x => (hs.after x.below).cells.2.2.1
  have L3 : ∀ x : Later wB, x.at_.cell? ⟨w1.heap.size, 3, none⟩ = some (.int .u64 (wd p 3 : Nat)) := fun x => (hs.after x.below).cells.2.2.2
  refine region_later (by kernel_rfl) (by kernel_rfl) ?_
  repeat (go_big_quiet_step (fail))
  go_big_quiet_step (exact later (H2.out _))
  repeat (go_big_quiet_step (fail))
  go_big_quiet_step (exact later (H3.out _))
  repeat (go_big_quiet_step (fail))
  go_big_quiet_step (exact later (H4.out _))
  repeat (go_big_quiet_step (fail))
  go_big_quiet_step (exact later (H5.out _))
  repeat (go_big_quiet_step (fail))
  go_big_quiet_step (exact later (H6.out _))
  repeat (go_big_quiet_step (fail))
  go_big_quiet_step (exact later (H5.out _))
  repeat (go_big_quiet_step (fail))
  go_big_quiet_step (exact later (H7.out _))
  repeat (go_big_quiet_step (fail))
  go_big_quiet_step (exact later (H8.out _))
  repeat (go_big_quiet_step (fail))
  go_big_quiet_step (exact later (H9.out _))
  repeat (go_big_quiet_step (fail))
  go_big_quiet_step (exact later (H5.out _))
  repeat (go_big_quiet_step (fail))
  go_big_quiet_step (exact later (HX.out _))
  repeat (go_big_quiet_step (fail))
  refine wpQuiet_nil ?_
  rintro _ ⟨x, rfl⟩
  go_wp2
  go_ret
  exact ⟨rfl, bel_step hB.out x.below⟩
end Go.Proofs.Ythonfodibakkjaa
