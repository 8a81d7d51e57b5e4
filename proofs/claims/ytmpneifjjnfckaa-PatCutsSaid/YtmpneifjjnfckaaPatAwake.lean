/-
  The contract of conchlaw6.awake. (By wip/tools/gen_patawake.py.)
-/
import Derived.Test.YtmpneifjjnfckaaPatFace
import Derived.Test.YtmpneifjjnfckaaPatLawsTwo
namespace Go.Proofs.Ytmpneifjjnfckaa
open Go.RowKit

set_option maxHeartbeats 4000000 in
set_option maxRecDepth 100000 in
theorem awake6_is (w : World) : Calls Try.prog 9 #[] w (Gives w (.bool true)) := by
  have R0 := Lib.hid (patRaw_is ⟨#[97, 42]⟩ (by decide))
  have m0 : ∀ L w, LiveAt w L (rp 2) → Calls Try.prog 10 #[patV ⟨#[97, 42]⟩ L, .string ⟨#[97, 98]⟩] w (Gives w (.bool true)) := fun L w h => by
    have := patMatch_is ⟨#[97, 42]⟩ (by decide) L (rp 2) ⟨#[97, 98]⟩ (by decide) w h
    rwa [show patB (⟨#[97, 42]⟩ : ByteArray).data.toList (rp 2) (⟨#[97, 98]⟩ : ByteArray).data.toList = true from aw1] at this
  unfold patV at m0
  have M0 := Lib.hid m0
  clear m0
  have R1 := Lib.hid (patRaw_is ⟨#[97, 63]⟩ (by decide))
  have m1 : ∀ L w, LiveAt w L (rp 2) → Calls Try.prog 10 #[patV ⟨#[97, 63]⟩ L, .string ⟨#[97]⟩] w (Gives w (.bool false)) := fun L w h => by
    have := patMatch_is ⟨#[97, 63]⟩ (by decide) L (rp 2) ⟨#[97]⟩ (by decide) w h
    rwa [show patB (⟨#[97, 63]⟩ : ByteArray).data.toList (rp 2) (⟨#[97]⟩ : ByteArray).data.toList = false from aw2] at this
  unfold patV at m1
  have M1 := Lib.hid m1
  clear m1
  have R2 := Lib.hid (patRaw_is ⟨#[91, 97, 45, 99, 93]⟩ (by decide))
  have m2 : ∀ L w, LiveAt w L (rp 5) → Calls Try.prog 10 #[patV ⟨#[91, 97, 45, 99, 93]⟩ L, .string ⟨#[98]⟩] w (Gives w (.bool true)) := fun L w h => by
    have := patMatch_is ⟨#[91, 97, 45, 99, 93]⟩ (by decide) L (rp 5) ⟨#[98]⟩ (by decide) w h
    rwa [show patB (⟨#[91, 97, 45, 99, 93]⟩ : ByteArray).data.toList (rp 5) (⟨#[98]⟩ : ByteArray).data.toList = true from aw3] at this
  unfold patV at m2
  have M2 := Lib.hid m2
  clear m2
  have R3 := Lib.hid (patRaw_is ⟨#[91, 33, 97, 45, 99, 93]⟩ (by decide))
  have m3 : ∀ L w, LiveAt w L (rp 6) → Calls Try.prog 10 #[patV ⟨#[91, 33, 97, 45, 99, 93]⟩ L, .string ⟨#[98]⟩] w (Gives w (.bool false)) := fun L w h => by
    have := patMatch_is ⟨#[91, 33, 97, 45, 99, 93]⟩ (by decide) L (rp 6) ⟨#[98]⟩ (by decide) w h
    rwa [show patB (⟨#[91, 33, 97, 45, 99, 93]⟩ : ByteArray).data.toList (rp 6) (⟨#[98]⟩ : ByteArray).data.toList = false from aw4] at this
  unfold patV at m3
  have M3 := Lib.hid m3
  clear m3
  have R4 := Lib.hid (patRaw_is ⟨#[91]⟩ (by decide))
  have m4 : ∀ L w, LiveAt w L (rp 1) → Calls Try.prog 10 #[patV ⟨#[91]⟩ L, .string ⟨#[91]⟩] w (Gives w (.bool true)) := fun L w h => by
    have := patMatch_is ⟨#[91]⟩ (by decide) L (rp 1) ⟨#[91]⟩ (by decide) w h
    rwa [show patB (⟨#[91]⟩ : ByteArray).data.toList (rp 1) (⟨#[91]⟩ : ByteArray).data.toList = true from aw5] at this
  unfold patV at m4
  have M4 := Lib.hid m4
  clear m4
  have R5 := Lib.hid (patRaw_is ⟨#[91, 97]⟩ (by decide))
  have m5 : ∀ L w, LiveAt w L (rp 2) → Calls Try.prog 11 #[patV ⟨#[91, 97]⟩ L] w (Gives w (.bool false)) := fun L w h => by
    have := patActive_is ⟨#[91, 97]⟩ (by decide) L (rp 2) w h
    rwa [show actB (⟨#[91, 97]⟩ : ByteArray).data.toList (rp 2) = false from aw6] at this
  unfold patV at m5
  have M5 := Lib.hid m5
  clear m5
  have R6 := Lib.hid (patRaw_is ⟨#[91, 97, 93]⟩ (by decide))
  have m6 : ∀ L w, LiveAt w L (rp 3) → Calls Try.prog 11 #[patV ⟨#[91, 97, 93]⟩ L] w (Gives w (.bool true)) := fun L w h => by
    have := patActive_is ⟨#[91, 97, 93]⟩ (by decide) L (rp 3) w h
    rwa [show actB (⟨#[91, 97, 93]⟩ : ByteArray).data.toList (rp 3) = true from aw7] at this
  unfold patV at m6
  have M6 := Lib.hid m6
  clear m6
  have R7 := Lib.hid (patRaw_is ⟨#[42, 46]⟩ (by decide))
  have m7 : ∀ L w, LiveAt w L (rp 2) → Calls Try.prog 14 #[patV ⟨#[42, 46]⟩ L, .string ⟨#[97, 46, 98, 46, 99]⟩, .bool true, .bool false] w (Gives w (.string ⟨#[98, 46, 99]⟩)) := fun L w h => by
    have := patCut_is ⟨#[42, 46]⟩ (by decide) L (rp 2) ⟨#[97, 46, 98, 46, 99]⟩ (by decide) true false w h
    rwa [show cutB (patB (⟨#[42, 46]⟩ : ByteArray).data.toList (rp 2)) (⟨#[97, 46, 98, 46, 99]⟩ : ByteArray).data.toList true false = [98, 46, 99] from aw8] at this
  unfold patV at m7
  have M7 := Lib.hid m7
  clear m7
  have R8 := Lib.hid (patRaw_is ⟨#[42, 46]⟩ (by decide))
  have m8 : ∀ L w, LiveAt w L (rp 2) → Calls Try.prog 14 #[patV ⟨#[42, 46]⟩ L, .string ⟨#[97, 46, 98, 46, 99]⟩, .bool true, .bool true] w (Gives w (.string ⟨#[99]⟩)) := fun L w h => by
    have := patCut_is ⟨#[42, 46]⟩ (by decide) L (rp 2) ⟨#[97, 46, 98, 46, 99]⟩ (by decide) true true w h
    rwa [show cutB (patB (⟨#[42, 46]⟩ : ByteArray).data.toList (rp 2)) (⟨#[97, 46, 98, 46, 99]⟩ : ByteArray).data.toList true true = [99] from aw9] at this
  unfold patV at m8
  have M8 := Lib.hid m8
  clear m8
  have k0 : Below w.heap.size w w := Below.refl _ _
  go_enter Try.func9, Try.ntmps9
  go_wp2_with fail
  refine (R0.out _).mono ?_
  rintro e y0 ⟨L0, v0, rfl, hL0, hv0, j0, _⟩
  obtain rfl : v0 = rp 2 := hv0
  have k1 := bel_step k0 j0
  clear j0 k0
  unfold patV
  go_wp2_with fail
  refine (M0.out _ _ hL0).mono ?_
  rintro e y1 ⟨rfl, j1⟩
  have k2 := bel_step k1 j1
  clear j1 k1 hL0
  go_wp2_with fail
  refine (R1.out _).mono ?_
  rintro e y2 ⟨L1, v1, rfl, hL1, hv1, j2, _⟩
  obtain rfl : v1 = rp 2 := hv1
  have k3 := bel_step k2 j2
  clear j2 k2
  unfold patV
  go_wp2_with fail
  refine (M1.out _ _ hL1).mono ?_
  rintro e y3 ⟨rfl, j3⟩
  have k4 := bel_step k3 j3
  clear j3 k3 hL1
  go_wp2_with fail
  refine (R2.out _).mono ?_
  rintro e y4 ⟨L2, v2, rfl, hL2, hv2, j4, _⟩
  obtain rfl : v2 = rp 5 := hv2
  have k5 := bel_step k4 j4
  clear j4 k4
  unfold patV
  go_wp2_with fail
  refine (M2.out _ _ hL2).mono ?_
  rintro e y5 ⟨rfl, j5⟩
  have k6 := bel_step k5 j5
  clear j5 k5 hL2
  go_wp2_with fail
  refine (R3.out _).mono ?_
  rintro e y6 ⟨L3, v3, rfl, hL3, hv3, j6, _⟩
  obtain rfl : v3 = rp 6 := hv3
  have k7 := bel_step k6 j6
  clear j6 k6
  unfold patV
  go_wp2_with fail
  refine (M3.out _ _ hL3).mono ?_
  rintro e y7 ⟨rfl, j7⟩
  have k8 := bel_step k7 j7
  clear j7 k7 hL3
  go_wp2_with fail
  refine (R4.out _).mono ?_
  rintro e y8 ⟨L4, v4, rfl, hL4, hv4, j8, _⟩
  obtain rfl : v4 = rp 1 := hv4
  have k9 := bel_step k8 j8
  clear j8 k8
  unfold patV
  go_wp2_with fail
  refine (M4.out _ _ hL4).mono ?_
  rintro e y9 ⟨rfl, j9⟩
  have k10 := bel_step k9 j9
  clear j9 k9 hL4
  go_wp2_with fail
  refine (R5.out _).mono ?_
  rintro e y10 ⟨L5, v5, rfl, hL5, hv5, j10, _⟩
  obtain rfl : v5 = rp 2 := hv5
  have k11 := bel_step k10 j10
  clear j10 k10
  unfold patV
  go_wp2_with fail
  refine (M5.out _ _ hL5).mono ?_
  rintro e y11 ⟨rfl, j11⟩
  have k12 := bel_step k11 j11
  clear j11 k11 hL5
  go_wp2_with fail
  refine (R6.out _).mono ?_
  rintro e y12 ⟨L6, v6, rfl, hL6, hv6, j12, _⟩
  obtain rfl : v6 = rp 3 := hv6
  have k13 := bel_step k12 j12
  clear j12 k12
  unfold patV
  go_wp2_with fail
  refine (M6.out _ _ hL6).mono ?_
  rintro e y13 ⟨rfl, j13⟩
  have k14 := bel_step k13 j13
  clear j13 k13 hL6
  go_wp2_with fail
  refine (R7.out _).mono ?_
  rintro e y14 ⟨L7, v7, rfl, hL7, hv7, j14, _⟩
  obtain rfl : v7 = rp 2 := hv7
  have k15 := bel_step k14 j14
  clear j14 k14
  unfold patV
  go_wp2_with fail
  refine (M7.out _ _ hL7).mono ?_
  rintro e y15 ⟨rfl, j15⟩
  have k16 := bel_step k15 j15
  clear j15 k15 hL7
  go_wp2_with fail
  refine (R8.out _).mono ?_
  rintro e y16 ⟨L8, v8, rfl, hL8, hv8, j16, _⟩
  obtain rfl : v8 = rp 2 := hv8
  have k17 := bel_step k16 j16
  clear j16 k16
  unfold patV
  go_wp2_with fail
  refine (M8.out _ _ hL8).mono ?_
  rintro e y17 ⟨rfl, j17⟩
  have k18 := bel_step k17 j17
  clear j17 k17 hL8
  go_wp2
  go_ret
  exact ⟨rfl, k18⟩
end Go.Proofs.Ytmpneifjjnfckaa
