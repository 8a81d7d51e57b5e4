/-
  conchlaw8.ArithBinds returns true, over package arith's contracts: its long statement step by step. (By wip/tools/gen_binds.py.)
-/
import Derived.Test.YtekpopopibhjbaaArBindsQ
import Derived.Test.YtekpopopibhjbaaStep
namespace Go.Proofs.Ytekpopopibhjbaa
open Go.RowKit

theorem enter1 (args : Array Value) (w : World) : (callFunc 8 args).run Try.prog w = .ok (.enter 8 args) w := call_enter Try.func8 (by decide) rfl args w
theorem enter2 (args : Array Value) (w : World) : (callFunc 12 args).run Try.prog w = .ok (.enter 12 args) w := call_enter Try.func12 (by decide) rfl args w
theorem enter0 (args : Array Value) (w : World) : (callFunc 13 args).run Try.prog w = .ok (.enter 13 args) w := call_enter Try.func13 (by decide) rfl args w
theorem truth_gives (b : Bool) (w : World) : Calls Try.prog 12 #[.bool b] w (Gives w (.int .i64 (truthI b))) :=
  (truth_is b w).mono fun _ _ ⟨h1, h2⟩ => ⟨h1, h2 ▸ Below.refl _ _⟩
theorem wrapS (n : Int) (h : -9223372036854775808 ≤ n ∧ n ≤ 9223372036854775807) : IntKind.i64.wrap n = n := IntWalk.i64_in _ h
theorem arr0 (a : Act) : (#[] : Array Operand).map a.eval = #[] := by simp
theorem arr1 {a : Act} {x : Operand} {u : Value} (h : a.eval x = u) : (#[x] : Array Operand).map a.eval = #[u] := by simp [h]
theorem arr2 {a : Act} {x y : Operand} {u v : Value} (h : a.eval x = u) (k : a.eval y = v) : (#[x, y] : Array Operand).map a.eval = #[u, v] := by simp [h, k]
theorem region_named {P : Program} {Q : Exit → Act → World → Prop} {a : Act} {w : World} {id : Nat} {l : List Oper} (h : ∀ ops, ops = l.toArray → wpList P ops Q l a w) : (Code.region id l.toArray false).wp P Q a w := wp_region_lit (h _ rfl)

set_option maxHeartbeats 16000000 in
set_option maxRecDepth 100000 in
theorem ArithBinds_walk {P : List UInt8 → PRes} (F : ArithFace P) (AW : AwakeP P) (Q : BindsP P) (a b c d : Int) (w : World) :
    Calls Try.prog 3 #[.int .i64 a, .int .i64 b, .int .i64 c, .int .i64 d] w (Gives w (.bool true)) := by
  have FA := Lib.hid (fun w => awake8_is F AW w)
  obtain ⟨a1, a2⟩ := and_mask_le a 8 (by decide) 255 (by decide)
  obtain ⟨A, hA⟩ : ∃ A : Nat, bits .and .i64 a 255 = (A : Int) := ⟨(bits .and .i64 a 255).toNat, by omega⟩
  have hA5 : A ≤ 255 := by omega
  clear a1 a2
  obtain ⟨b1, b2⟩ := and_mask_le b 8 (by decide) 255 (by decide)
  obtain ⟨B, hB⟩ : ∃ B : Nat, bits .and .i64 b 255 = (B : Int) := ⟨(bits .and .i64 b 255).toNat, by omega⟩
  have hB5 : B ≤ 255 := by omega
  clear b1 b2
  obtain ⟨c1, c2⟩ := and_mask_le c 8 (by decide) 255 (by decide)
  obtain ⟨C, hC⟩ : ∃ C : Nat, bits .and .i64 c 255 = (C : Int) := ⟨(bits .and .i64 c 255).toNat, by omega⟩
  have hC5 : C ≤ 255 := by omega
  clear c1 c2
  obtain ⟨d1, d2⟩ := and_mask_le d 8 (by decide) 255 (by decide)
  obtain ⟨E, hE⟩ : ∃ E : Nat, bits .and .i64 d 255 = (E : Int) := ⟨(bits .and .i64 d 255).toNat, by omega⟩
  have hE5 : E ≤ 255 := by omega
  clear d1 d2
  obtain ⟨D, hD⟩ : ∃ D, E + 1 = D := ⟨_, rfl⟩
  have hDi : (E : Int) + 1 = (D : Int) := by omega
  have hD1 : 1 ≤ D := by omega
  have hD6 : D ≤ 256 := by omega
  clear hD
  obtain ⟨X, hXv, hXd, hXs⟩ := dec_str A (by omega)
  have GX := RDigits_pos A (by omega)
  rw [hXv] at GX
  have HGX := Lib.hid GX
  clear GX hXv
  obtain ⟨Y, hYv, hYd, hYs⟩ := dec_str B (by omega)
  have GY := RDigits_pos B (by omega)
  rw [hYv] at GY
  have HGY := Lib.hid GY
  clear GY hYv
  obtain ⟨Z, hZv, hZd, hZs⟩ := dec_str C (by omega)
  have GZ := RDigits_pos C (by omega)
  rw [hZv] at GZ
  have HGZ := Lib.hid GZ
  clear GZ hZv
  obtain ⟨V, hVv, hVd, hVs⟩ := dec_str D (by omega)
  have GV := RDigits_pos D (by omega)
  rw [hVv] at GV
  have HGV := Lib.hid GV
  clear GV hVv
  obtain ⟨m1, hm1⟩ : ∃ m : Nat, (B : Int) * (C : Int) = (m : Int) := ⟨B * C, by simp⟩
  have hm19 : m1 ≤ 65536 := by
    have h1 : B * C ≤ 256 * 256 := Nat.mul_le_mul (by omega) (by omega)
    have h2 : ((B * C : Nat) : Int) = (m1 : Int) := by rw [← hm1]; simp
    omega
  obtain ⟨m3, hm3⟩ : ∃ m : Nat, (A : Int) * (B : Int) = (m : Int) := ⟨A * B, by simp⟩
  have hm39 : m3 ≤ 65536 := by
    have h1 : A * B ≤ 256 * 256 := Nat.mul_le_mul (by omega) (by omega)
    have h2 : ((A * B : Nat) : Int) = (m3 : Int) := by rw [← hm3]; simp
    omega
  obtain ⟨q3, hq3⟩ : ∃ q : Nat, (m3 : Int) / (D : Int) = (q : Int) := ⟨m3 / D, by simp⟩
  have hq39 : q3 ≤ 65536 := by
    have h1 : m3 / D ≤ m3 := Nat.div_le_self _ _
    have h2 : ((m3 / D : Nat) : Int) = (q3 : Int) := by rw [← hq3]; simp
    omega
  obtain ⟨r3, hr3⟩ : ∃ r : Nat, (q3 : Int) % (D : Int) = (r : Int) := ⟨q3 % D, by simp⟩
  obtain ⟨m4, hm4⟩ : ∃ m : Nat, ((A : Int) + (B : Int)) * (C : Int) = (m : Int) := ⟨(A + B) * C, by simp⟩
  have hm49 : m4 ≤ 1000000 := by
    have h1 : (A + B) * C ≤ 512 * 256 := Nat.mul_le_mul (by omega) (by omega)
    have h2 : (((A + B) * C : Nat) : Int) = (m4 : Int) := by rw [← hm4]; simp
    omega
  have Ib1 : Hid (∀ w, Calls Try.prog 8 #[.string (X ++ ⟨#[43]⟩ ++ Y ++ ⟨#[42]⟩ ++ Z), .int .i64 ((A : Int) + (m1 : Int))] w (Gives w (.bool true))) := Lib.hid fun w => is_b1 F Q (by omega : A ≤ 256) (by omega : B ≤ 256) (by omega : C ≤ 256) hXd hYd hZd hXs hYs hZs m1 hm1 hm19 w
  have Ib2 : Hid (∀ w, Calls Try.prog 8 #[.string (X ++ ⟨#[45]⟩ ++ Y ++ ⟨#[45]⟩ ++ Z), .int .i64 ((A : Int) - (B : Int) - (C : Int))] w (Gives w (.bool true))) := Lib.hid fun w => is_b2 F Q (by omega : A ≤ 256) (by omega : B ≤ 256) (by omega : C ≤ 256) hXd hYd hZd hXs hYs hZs  w
  have Ib3 : Hid (∀ w, Calls Try.prog 8 #[.string (X ++ ⟨#[42]⟩ ++ Y ++ ⟨#[47]⟩ ++ V ++ ⟨#[37]⟩ ++ V), .int .i64 ((r3 : Int))] w (Gives w (.bool true))) := Lib.hid fun w => is_b3 F Q (by omega : A ≤ 256) (by omega : B ≤ 256) (by omega : D ≤ 256) hXd hYd hVd hXs hYs hVs hD1 m3 q3 r3 hm3 hm39 hq3 hq39 hr3 w
  have Ib4 : Hid (∀ w, Calls Try.prog 8 #[.string (⟨#[40]⟩ ++ X ++ ⟨#[43]⟩ ++ Y ++ ⟨#[41, 42]⟩ ++ Z), .int .i64 ((m4 : Int))] w (Gives w (.bool true))) := Lib.hid fun w => is_b4 F Q (by omega : A ≤ 256) (by omega : B ≤ 256) (by omega : C ≤ 256) hXd hYd hZd hXs hYs hZs m4 hm4 hm49 w
  have Ib5 : Hid (∀ w, Calls Try.prog 8 #[.string (X ++ ⟨#[43]⟩ ++ Y ++ ⟨#[60]⟩ ++ Z), .int .i64 (truthI (decide ((A : Int) + (B : Int) < (C : Int))))] w (Gives w (.bool true))) := Lib.hid fun w => is_b5 F Q (by omega : A ≤ 256) (by omega : B ≤ 256) (by omega : C ≤ 256) hXd hYd hZd hXs hYs hZs  w
  have Ib6 : Hid (∀ w, Calls Try.prog 8 #[.string (X ++ ⟨#[60]⟩ ++ Y ++ ⟨#[61, 61]⟩ ++ Z), .int .i64 (truthI (decide (truthI (decide ((A : Int) < (B : Int))) = (C : Int))))] w (Gives w (.bool true))) := Lib.hid fun w => is_b6 F Q (by omega : A ≤ 256) (by omega : B ≤ 256) (by omega : C ≤ 256) hXd hYd hZd hXs hYs hZs  w
  have Ib7 : Hid (∀ w, Calls Try.prog 8 #[.string (X ++ ⟨#[61, 61]⟩ ++ Y ++ ⟨#[38, 38]⟩ ++ Z), .int .i64 (truthI (decide ((A : Int) = (B : Int)) && !decide ((C : Int) = 0)))] w (Gives w (.bool true))) := Lib.hid fun w => is_b7 F Q (by omega : A ≤ 256) (by omega : B ≤ 256) (by omega : C ≤ 256) hXd hYd hZd hXs hYs hZs  w
  have Ib8 : Hid (∀ w, Calls Try.prog 8 #[.string (X ++ ⟨#[124, 124]⟩ ++ Y ++ ⟨#[38, 38]⟩ ++ Z), .int .i64 (truthI (!decide ((A : Int) = 0) || (!decide ((B : Int) = 0) && !decide ((C : Int) = 0))))] w (Gives w (.bool true))) := Lib.hid fun w => is_b8 F Q (by omega : A ≤ 256) (by omega : B ≤ 256) (by omega : C ≤ 256) hXd hYd hZd hXs hYs hZs  w
  have Ib9 : Hid (∀ w, Calls Try.prog 8 #[.string (⟨#[45, 32]⟩ ++ X ++ ⟨#[32, 45, 32, 45]⟩ ++ Y), .int .i64 (-(A : Int) + (B : Int))] w (Gives w (.bool true))) := Lib.hid fun w => is_b9 F Q (by omega : A ≤ 256) (by omega : B ≤ 256) hXd hYd hXs hYs  w
  have Ib10 : Hid (∀ w, Calls Try.prog 8 #[.string (⟨#[33]⟩ ++ X ++ ⟨#[43]⟩ ++ Y), .int .i64 (truthI (decide ((A : Int) = 0)) + (B : Int))] w (Gives w (.bool true))) := Lib.hid fun w => is_b10 F Q (by omega : A ≤ 256) (by omega : B ≤ 256) hXd hYd hXs hYs  w
  clear hXd hYd hZd hVd
  go_enter Try.func3, Try.ntmps3
  go_wp2_with fail
  refine (HGX.out _).mono ?_
  rintro e wx ⟨rfl, rfl⟩
  clear HGX
  go_wp2_with fail
  refine (HGY.out _).mono ?_
  rintro e wx ⟨rfl, rfl⟩
  clear HGY
  go_wp2_with fail
  refine (HGZ.out _).mono ?_
  rintro e wx ⟨rfl, rfl⟩
  clear HGZ
  go_wp2_with fail
  refine (HGV.out _).mono ?_
  rintro e wx ⟨rfl, rfl⟩
  clear HGV
  clear hA hB hC hE hDi hE5
  have hb0 : Below w.heap.size w w := Below.refl _ _
  go_upto_region 5 with fail
  refine region_named ?_
  intro ops hO
  refine frame_named ?_
  intro a ha
  have hF : Fr 212 15 (sl a) a := ⟨by rw [ha]; rfl, by rw [ha], fun _ _ => rfl⟩
  have L0 : sl a 0 = .int .i64 ((A : Int)) := by rw [ha]; rfl
  have L1 : sl a 1 = .int .i64 ((B : Int)) := by rw [ha]; rfl
  have L2 : sl a 2 = .int .i64 ((C : Int)) := by rw [ha]; rfl
  have L3 : sl a 3 = .int .i64 ((D : Int)) := by rw [ha]; rfl
  have L9 : sl a 9 = .string (X) := by rw [ha]; rfl
  have L10 : sl a 10 = .string (Y) := by rw [ha]; rfl
  have L11 : sl a 11 = .string (Z) := by rw [ha]; rfl
  have L12 : sl a 12 = .string (V) := by rw [ha]; rfl
  have L13 : sl a 13 = .func (.func 8) #[] #[] := by rw [ha]; rfl
  have L14 : sl a 14 = .func (.func 12) #[] #[] := by rw [ha]; rfl
  have g14 : (ops[14]?).bind (·.dst) = some 46 := by rw [hO]; rfl
  have g30 : (ops[30]?).bind (·.dst) = some 62 := by rw [hO]; rfl
  have g51 : (ops[51]?).bind (·.dst) = some 83 := by rw [hO]; rfl
  have g68 : (ops[68]?).bind (·.dst) = some 100 := by rw [hO]; rfl
  have g86 : (ops[86]?).bind (·.dst) = some 118 := by rw [hO]; rfl
  have g106 : (ops[106]?).bind (·.dst) = some 138 := by rw [hO]; rfl
  have g119 : (ops[119]?).bind (·.dst) = some 151 := by rw [hO]; rfl
  have g126 : (ops[126]?).bind (·.dst) = some 158 := by rw [hO]; rfl
  have g138 : (ops[138]?).bind (·.dst) = some 170 := by rw [hO]; rfl
  have g141 : (ops[141]?).bind (·.dst) = some 173 := by rw [hO]; rfl
  have g149 : (ops[149]?).bind (·.dst) = some 181 := by rw [hO]; rfl
  have g162 : (ops[162]?).bind (·.dst) = some 194 := by rw [hO]; rfl
  have g177 : (ops[177]?).bind (·.dst) = some 209 := by rw [hO]; rfl
  clear ha hO
  generalize sl a = L at *
  refine st_val (d := 32) (v := .func (.func 8) #[] #[]) hF rfl (by decide) (by decide) (want_none rfl) (ex_move (x := (.tmp 13)) rfl ((hF.low 13 (by decide)).trans L13)) ?_
  clear hF
  intro a hF kp s32
  clear kp
  refine st_val (d := 33) (v := .string (X)) hF rfl (by decide) (by decide) (want_none rfl) (ex_move (x := (.tmp 9)) rfl ((hF.low 9 (by decide)).trans L9)) ?_
  clear hF
  intro a hF kp s33
  replace s32 := (kp 32 (by decide)).trans s32
  clear kp
  refine st_val (d := 34) (v := .string (X ++ (ByteArray.mk #[43]))) hF rfl (by decide) (by decide) (want_none rfl) (ex_cat (x := (.tmp 33)) (y := (.const (.string ((ByteArray.mk #[43]))))) rfl s33 rfl (by simp only [sz_43]; omega)) ?_
  clear hF
  intro a hF kp s34
  replace s32 := (kp 32 (by decide)).trans s32
  clear s33
  clear kp
  refine st_val (d := 35) (v := .string (Y)) hF rfl (by decide) (by decide) (want_none rfl) (ex_move (x := (.tmp 10)) rfl ((hF.low 10 (by decide)).trans L10)) ?_
  clear hF
  intro a hF kp s35
  replace s32 := (kp 32 (by decide)).trans s32
  replace s34 := (kp 34 (by decide)).trans s34
  clear kp
  refine st_val (d := 36) (v := .string (X ++ (ByteArray.mk #[43]) ++ Y)) hF rfl (by decide) (by decide) (want_none rfl) (ex_cat (x := (.tmp 34)) (y := (.tmp 35)) rfl s34 s35 (by simp only [ByteArray.size_append, sz_43]; omega)) ?_
  clear hF
  intro a hF kp s36
  replace s32 := (kp 32 (by decide)).trans s32
  clear s34
  clear s35
  clear kp
  refine st_val (d := 37) (v := .string (X ++ (ByteArray.mk #[43]) ++ Y ++ (ByteArray.mk #[42]))) hF rfl (by decide) (by decide) (want_none rfl) (ex_cat (x := (.tmp 36)) (y := (.const (.string ((ByteArray.mk #[42]))))) rfl s36 rfl (by simp only [ByteArray.size_append, sz_43, sz_42]; omega)) ?_
  clear hF
  intro a hF kp s37
  replace s32 := (kp 32 (by decide)).trans s32
  clear s36
  clear kp
  refine st_val (d := 38) (v := .string (Z)) hF rfl (by decide) (by decide) (want_none rfl) (ex_move (x := (.tmp 11)) rfl ((hF.low 11 (by decide)).trans L11)) ?_
  clear hF
  intro a hF kp s38
  replace s32 := (kp 32 (by decide)).trans s32
  replace s37 := (kp 37 (by decide)).trans s37
  clear kp
  refine st_val (d := 39) (v := .string (X ++ (ByteArray.mk #[43]) ++ Y ++ (ByteArray.mk #[42]) ++ Z)) hF rfl (by decide) (by decide) (want_none rfl) (ex_cat (x := (.tmp 37)) (y := (.tmp 38)) rfl s37 s38 (by simp only [ByteArray.size_append, sz_43, sz_42]; omega)) ?_
  clear hF
  intro a hF kp s39
  replace s32 := (kp 32 (by decide)).trans s32
  clear s37
  clear s38
  clear kp
  refine st_val (d := 40) (v := .int .i64 ((A : Int))) hF rfl (by decide) (by decide) (want_none rfl) (ex_move (x := (.tmp 0)) rfl ((hF.low 0 (by decide)).trans L0)) ?_
  clear hF
  intro a hF kp s40
  replace s32 := (kp 32 (by decide)).trans s32
  replace s39 := (kp 39 (by decide)).trans s39
  clear kp
  refine st_val (d := 41) (v := .int .i64 ((B : Int))) hF rfl (by decide) (by decide) (want_none rfl) (ex_move (x := (.tmp 1)) rfl ((hF.low 1 (by decide)).trans L1)) ?_
  clear hF
  intro a hF kp s41
  replace s32 := (kp 32 (by decide)).trans s32
  replace s39 := (kp 39 (by decide)).trans s39
  replace s40 := (kp 40 (by decide)).trans s40
  clear kp
  refine st_val (d := 42) (v := .int .i64 ((C : Int))) hF rfl (by decide) (by decide) (want_none rfl) (ex_move (x := (.tmp 2)) rfl ((hF.low 2 (by decide)).trans L2)) ?_
  clear hF
  intro a hF kp s42
  replace s32 := (kp 32 (by decide)).trans s32
  replace s39 := (kp 39 (by decide)).trans s39
  replace s40 := (kp 40 (by decide)).trans s40
  replace s41 := (kp 41 (by decide)).trans s41
  clear kp
  refine st_val (d := 43) (v := .int .i64 ((m1 : Int))) hF rfl (by decide) (by decide) (want_none rfl) (ex_mul (x := (.tmp 41)) (y := (.tmp 42)) (r := (m1 : Int)) rfl s41 s42 (by rw [hm1]; exact wrapS _ (by omega))) ?_
  clear hF
  intro a hF kp s43
  replace s32 := (kp 32 (by decide)).trans s32
  replace s39 := (kp 39 (by decide)).trans s39
  replace s40 := (kp 40 (by decide)).trans s40
  clear s41
  clear s42
  clear kp
  refine st_val (d := 44) (v := .int .i64 ((A : Int) + (m1 : Int))) hF rfl (by decide) (by decide) (want_none rfl) (ex_add (x := (.tmp 40)) (y := (.tmp 43)) rfl s40 s43 (wrapS _ (by omega))) ?_
  clear hF
  intro a hF kp s44
  replace s32 := (kp 32 (by decide)).trans s32
  replace s39 := (kp 39 (by decide)).trans s39
  clear s40
  clear s43
  clear kp
  refine st_call (d := 45) (args := #[.string (X ++ (ByteArray.mk #[43]) ++ Y ++ (ByteArray.mk #[42]) ++ Z), .int .i64 ((A : Int) + (m1 : Int))]) (v := .bool (true)) hF rfl (by decide) (by decide) (want_none rfl) (ex_call (x := (.tmp 32)) (xs := #[(.tmp 39), (.tmp 44)]) rfl s32 (arr2 s39 s44) enter1) (Ib1.out _) ?_
  clear hF
  rintro a w1 hw hF kp s45
  have hb1 := bel_step hb0 hw
  clear hw hb0
  clear s32
  clear s39
  clear s44
  clear kp
  refine st_val (d := 46) (v := .bool (true)) hF rfl (by decide) (by decide) (want_none rfl) (ex_move (x := (.tmp 45)) rfl s45) ?_
  clear hF
  intro a hF kp s46
  clear s45
  clear kp
  refine st_val (d := 47) (v := .func (.func 8) #[] #[]) hF rfl (by decide) (by decide) (want_yes rfl g14 s46) (ex_move (x := (.tmp 13)) rfl ((hF.low 13 (by decide)).trans L13)) ?_
  clear hF
  intro a hF kp s47
  replace s46 := (kp 46 (by decide)).trans s46
  clear kp
  refine st_val (d := 48) (v := .string (X)) hF rfl (by decide) (by decide) (want_yes rfl g14 s46) (ex_move (x := (.tmp 9)) rfl ((hF.low 9 (by decide)).trans L9)) ?_
  clear hF
  intro a hF kp s48
  replace s46 := (kp 46 (by decide)).trans s46
  replace s47 := (kp 47 (by decide)).trans s47
  clear kp
  refine st_val (d := 49) (v := .string (X ++ (ByteArray.mk #[45]))) hF rfl (by decide) (by decide) (want_yes rfl g14 s46) (ex_cat (x := (.tmp 48)) (y := (.const (.string ((ByteArray.mk #[45]))))) rfl s48 rfl (by simp only [sz_45]; omega)) ?_
  clear hF
  intro a hF kp s49
  replace s46 := (kp 46 (by decide)).trans s46
  replace s47 := (kp 47 (by decide)).trans s47
  clear s48
  clear kp
  refine st_val (d := 50) (v := .string (Y)) hF rfl (by decide) (by decide) (want_yes rfl g14 s46) (ex_move (x := (.tmp 10)) rfl ((hF.low 10 (by decide)).trans L10)) ?_
  clear hF
  intro a hF kp s50
  replace s46 := (kp 46 (by decide)).trans s46
  replace s47 := (kp 47 (by decide)).trans s47
  replace s49 := (kp 49 (by decide)).trans s49
  clear kp
  refine st_val (d := 51) (v := .string (X ++ (ByteArray.mk #[45]) ++ Y)) hF rfl (by decide) (by decide) (want_yes rfl g14 s46) (ex_cat (x := (.tmp 49)) (y := (.tmp 50)) rfl s49 s50 (by simp only [ByteArray.size_append, sz_45]; omega)) ?_
  clear hF
  intro a hF kp s51
  replace s46 := (kp 46 (by decide)).trans s46
  replace s47 := (kp 47 (by decide)).trans s47
  clear s49
  clear s50
  clear kp
  refine st_val (d := 52) (v := .string (X ++ (ByteArray.mk #[45]) ++ Y ++ (ByteArray.mk #[45]))) hF rfl (by decide) (by decide) (want_yes rfl g14 s46) (ex_cat (x := (.tmp 51)) (y := (.const (.string ((ByteArray.mk #[45]))))) rfl s51 rfl (by simp only [ByteArray.size_append, sz_45]; omega)) ?_
  clear hF
  intro a hF kp s52
  replace s46 := (kp 46 (by decide)).trans s46
  replace s47 := (kp 47 (by decide)).trans s47
  clear s51
  clear kp
  refine st_val (d := 53) (v := .string (Z)) hF rfl (by decide) (by decide) (want_yes rfl g14 s46) (ex_move (x := (.tmp 11)) rfl ((hF.low 11 (by decide)).trans L11)) ?_
  clear hF
  intro a hF kp s53
  replace s46 := (kp 46 (by decide)).trans s46
  replace s47 := (kp 47 (by decide)).trans s47
  replace s52 := (kp 52 (by decide)).trans s52
  clear kp
  refine st_val (d := 54) (v := .string (X ++ (ByteArray.mk #[45]) ++ Y ++ (ByteArray.mk #[45]) ++ Z)) hF rfl (by decide) (by decide) (want_yes rfl g14 s46) (ex_cat (x := (.tmp 52)) (y := (.tmp 53)) rfl s52 s53 (by simp only [ByteArray.size_append, sz_45]; omega)) ?_
  clear hF
  intro a hF kp s54
  replace s46 := (kp 46 (by decide)).trans s46
  replace s47 := (kp 47 (by decide)).trans s47
  clear s52
  clear s53
  clear kp
  refine st_val (d := 55) (v := .int .i64 ((A : Int))) hF rfl (by decide) (by decide) (want_yes rfl g14 s46) (ex_move (x := (.tmp 0)) rfl ((hF.low 0 (by decide)).trans L0)) ?_
  clear hF
  intro a hF kp s55
  replace s46 := (kp 46 (by decide)).trans s46
  replace s47 := (kp 47 (by decide)).trans s47
  replace s54 := (kp 54 (by decide)).trans s54
  clear kp
  refine st_val (d := 56) (v := .int .i64 ((B : Int))) hF rfl (by decide) (by decide) (want_yes rfl g14 s46) (ex_move (x := (.tmp 1)) rfl ((hF.low 1 (by decide)).trans L1)) ?_
  clear hF
  intro a hF kp s56
  replace s46 := (kp 46 (by decide)).trans s46
  replace s47 := (kp 47 (by decide)).trans s47
  replace s54 := (kp 54 (by decide)).trans s54
  replace s55 := (kp 55 (by decide)).trans s55
  clear kp
  refine st_val (d := 57) (v := .int .i64 ((A : Int) - (B : Int))) hF rfl (by decide) (by decide) (want_yes rfl g14 s46) (ex_sub (x := (.tmp 55)) (y := (.tmp 56)) rfl s55 s56 (wrapS _ (by omega))) ?_
  clear hF
  intro a hF kp s57
  replace s46 := (kp 46 (by decide)).trans s46
  replace s47 := (kp 47 (by decide)).trans s47
  replace s54 := (kp 54 (by decide)).trans s54
  clear s55
  clear s56
  clear kp
  refine st_val (d := 58) (v := .int .i64 ((C : Int))) hF rfl (by decide) (by decide) (want_yes rfl g14 s46) (ex_move (x := (.tmp 2)) rfl ((hF.low 2 (by decide)).trans L2)) ?_
  clear hF
  intro a hF kp s58
  replace s46 := (kp 46 (by decide)).trans s46
  replace s47 := (kp 47 (by decide)).trans s47
  replace s54 := (kp 54 (by decide)).trans s54
  replace s57 := (kp 57 (by decide)).trans s57
  clear kp
  refine st_val (d := 59) (v := .int .i64 ((A : Int) - (B : Int) - (C : Int))) hF rfl (by decide) (by decide) (want_yes rfl g14 s46) (ex_sub (x := (.tmp 57)) (y := (.tmp 58)) rfl s57 s58 (wrapS _ (by omega))) ?_
  clear hF
  intro a hF kp s59
  replace s46 := (kp 46 (by decide)).trans s46
  replace s47 := (kp 47 (by decide)).trans s47
  replace s54 := (kp 54 (by decide)).trans s54
  clear s57
  clear s58
  clear kp
  refine st_call (d := 60) (args := #[.string (X ++ (ByteArray.mk #[45]) ++ Y ++ (ByteArray.mk #[45]) ++ Z), .int .i64 ((A : Int) - (B : Int) - (C : Int))]) (v := .bool (true)) hF rfl (by decide) (by decide) (want_yes rfl g14 s46) (ex_call (x := (.tmp 47)) (xs := #[(.tmp 54), (.tmp 59)]) rfl s47 (arr2 s54 s59) enter1) (Ib2.out _) ?_
  clear hF
  rintro a w2 hw hF kp s60
  have hb2 := bel_step hb1 hw
  clear hw hb1
  replace s46 := (kp 46 (by decide)).trans s46
  clear s47
  clear s54
  clear s59
  clear kp
  refine st_val (d := 61) (v := .bool (true)) hF rfl (by decide) (by decide) (want_none rfl) (ex_pick (t := true) (c := (.tmp 46)) (x := (.tmp 60)) (y := (.const (.bool (false)))) rfl s46 s60) ?_
  clear hF
  intro a hF kp s61
  clear s46
  clear s60
  clear kp
  refine st_val (d := 62) (v := .bool (true)) hF rfl (by decide) (by decide) (want_none rfl) (ex_move (x := (.tmp 61)) rfl s61) ?_
  clear hF
  intro a hF kp s62
  clear s61
  clear kp
  refine st_val (d := 63) (v := .func (.func 8) #[] #[]) hF rfl (by decide) (by decide) (want_yes rfl g30 s62) (ex_move (x := (.tmp 13)) rfl ((hF.low 13 (by decide)).trans L13)) ?_
  clear hF
  intro a hF kp s63
  replace s62 := (kp 62 (by decide)).trans s62
  clear kp
  refine st_val (d := 64) (v := .string (X)) hF rfl (by decide) (by decide) (want_yes rfl g30 s62) (ex_move (x := (.tmp 9)) rfl ((hF.low 9 (by decide)).trans L9)) ?_
  clear hF
  intro a hF kp s64
  replace s62 := (kp 62 (by decide)).trans s62
  replace s63 := (kp 63 (by decide)).trans s63
  clear kp
  refine st_val (d := 65) (v := .string (X ++ (ByteArray.mk #[42]))) hF rfl (by decide) (by decide) (want_yes rfl g30 s62) (ex_cat (x := (.tmp 64)) (y := (.const (.string ((ByteArray.mk #[42]))))) rfl s64 rfl (by simp only [sz_42]; omega)) ?_
  clear hF
  intro a hF kp s65
  replace s62 := (kp 62 (by decide)).trans s62
  replace s63 := (kp 63 (by decide)).trans s63
  clear s64
  clear kp
  refine st_val (d := 66) (v := .string (Y)) hF rfl (by decide) (by decide) (want_yes rfl g30 s62) (ex_move (x := (.tmp 10)) rfl ((hF.low 10 (by decide)).trans L10)) ?_
  clear hF
  intro a hF kp s66
  replace s62 := (kp 62 (by decide)).trans s62
  replace s63 := (kp 63 (by decide)).trans s63
  replace s65 := (kp 65 (by decide)).trans s65
  clear kp
  refine st_val (d := 67) (v := .string (X ++ (ByteArray.mk #[42]) ++ Y)) hF rfl (by decide) (by decide) (want_yes rfl g30 s62) (ex_cat (x := (.tmp 65)) (y := (.tmp 66)) rfl s65 s66 (by simp only [ByteArray.size_append, sz_42]; omega)) ?_
  clear hF
  intro a hF kp s67
  replace s62 := (kp 62 (by decide)).trans s62
  replace s63 := (kp 63 (by decide)).trans s63
  clear s65
  clear s66
  clear kp
  refine st_val (d := 68) (v := .string (X ++ (ByteArray.mk #[42]) ++ Y ++ (ByteArray.mk #[47]))) hF rfl (by decide) (by decide) (want_yes rfl g30 s62) (ex_cat (x := (.tmp 67)) (y := (.const (.string ((ByteArray.mk #[47]))))) rfl s67 rfl (by simp only [ByteArray.size_append, sz_42, sz_47]; omega)) ?_
  clear hF
  intro a hF kp s68
  replace s62 := (kp 62 (by decide)).trans s62
  replace s63 := (kp 63 (by decide)).trans s63
  clear s67
  clear kp
  refine st_val (d := 69) (v := .string (V)) hF rfl (by decide) (by decide) (want_yes rfl g30 s62) (ex_move (x := (.tmp 12)) rfl ((hF.low 12 (by decide)).trans L12)) ?_
  clear hF
  intro a hF kp s69
  replace s62 := (kp 62 (by decide)).trans s62
  replace s63 := (kp 63 (by decide)).trans s63
  replace s68 := (kp 68 (by decide)).trans s68
  clear kp
  refine st_val (d := 70) (v := .string (X ++ (ByteArray.mk #[42]) ++ Y ++ (ByteArray.mk #[47]) ++ V)) hF rfl (by decide) (by decide) (want_yes rfl g30 s62) (ex_cat (x := (.tmp 68)) (y := (.tmp 69)) rfl s68 s69 (by simp only [ByteArray.size_append, sz_42, sz_47]; omega)) ?_
  clear hF
  intro a hF kp s70
  replace s62 := (kp 62 (by decide)).trans s62
  replace s63 := (kp 63 (by decide)).trans s63
  clear s68
  clear s69
  clear kp
  refine st_val (d := 71) (v := .string (X ++ (ByteArray.mk #[42]) ++ Y ++ (ByteArray.mk #[47]) ++ V ++ (ByteArray.mk #[37]))) hF rfl (by decide) (by decide) (want_yes rfl g30 s62) (ex_cat (x := (.tmp 70)) (y := (.const (.string ((ByteArray.mk #[37]))))) rfl s70 rfl (by simp only [ByteArray.size_append, sz_42, sz_47, sz_37]; omega)) ?_
  clear hF
  intro a hF kp s71
  replace s62 := (kp 62 (by decide)).trans s62
  replace s63 := (kp 63 (by decide)).trans s63
  clear s70
  clear kp
  refine st_val (d := 72) (v := .string (V)) hF rfl (by decide) (by decide) (want_yes rfl g30 s62) (ex_move (x := (.tmp 12)) rfl ((hF.low 12 (by decide)).trans L12)) ?_
  clear hF
  intro a hF kp s72
  replace s62 := (kp 62 (by decide)).trans s62
  replace s63 := (kp 63 (by decide)).trans s63
  replace s71 := (kp 71 (by decide)).trans s71
  clear kp
  refine st_val (d := 73) (v := .string (X ++ (ByteArray.mk #[42]) ++ Y ++ (ByteArray.mk #[47]) ++ V ++ (ByteArray.mk #[37]) ++ V)) hF rfl (by decide) (by decide) (want_yes rfl g30 s62) (ex_cat (x := (.tmp 71)) (y := (.tmp 72)) rfl s71 s72 (by simp only [ByteArray.size_append, sz_42, sz_47, sz_37]; omega)) ?_
  clear hF
  intro a hF kp s73
  replace s62 := (kp 62 (by decide)).trans s62
  replace s63 := (kp 63 (by decide)).trans s63
  clear s71
  clear s72
  clear kp
  refine st_val (d := 74) (v := .int .i64 ((A : Int))) hF rfl (by decide) (by decide) (want_yes rfl g30 s62) (ex_move (x := (.tmp 0)) rfl ((hF.low 0 (by decide)).trans L0)) ?_
  clear hF
  intro a hF kp s74
  replace s62 := (kp 62 (by decide)).trans s62
  replace s63 := (kp 63 (by decide)).trans s63
  replace s73 := (kp 73 (by decide)).trans s73
  clear kp
  refine st_val (d := 75) (v := .int .i64 ((B : Int))) hF rfl (by decide) (by decide) (want_yes rfl g30 s62) (ex_move (x := (.tmp 1)) rfl ((hF.low 1 (by decide)).trans L1)) ?_
  clear hF
  intro a hF kp s75
  replace s62 := (kp 62 (by decide)).trans s62
  replace s63 := (kp 63 (by decide)).trans s63
  replace s73 := (kp 73 (by decide)).trans s73
  replace s74 := (kp 74 (by decide)).trans s74
  clear kp
  refine st_val (d := 76) (v := .int .i64 ((m3 : Int))) hF rfl (by decide) (by decide) (want_yes rfl g30 s62) (ex_mul (x := (.tmp 74)) (y := (.tmp 75)) (r := (m3 : Int)) rfl s74 s75 (by rw [hm3]; exact wrapS _ (by omega))) ?_
  clear hF
  intro a hF kp s76
  replace s62 := (kp 62 (by decide)).trans s62
  replace s63 := (kp 63 (by decide)).trans s63
  replace s73 := (kp 73 (by decide)).trans s73
  clear s74
  clear s75
  clear kp
  refine st_val (d := 77) (v := .int .i64 ((D : Int))) hF rfl (by decide) (by decide) (want_yes rfl g30 s62) (ex_move (x := (.tmp 3)) rfl ((hF.low 3 (by decide)).trans L3)) ?_
  clear hF
  intro a hF kp s77
  replace s62 := (kp 62 (by decide)).trans s62
  replace s63 := (kp 63 (by decide)).trans s63
  replace s73 := (kp 73 (by decide)).trans s73
  replace s76 := (kp 76 (by decide)).trans s76
  clear kp
  refine st_val (d := 78) (v := .int .i64 ((q3 : Int))) hF rfl (by decide) (by decide) (want_yes rfl g30 s62) (ex_quo (x := (.tmp 76)) (y := (.tmp 77)) (r := (q3 : Int)) rfl s76 s77 (by omega) (by rw [Int.tdiv_eq_ediv_of_nonneg (by omega), hq3]; exact wrapS _ (by omega))) ?_
  clear hF
  intro a hF kp s78
  replace s62 := (kp 62 (by decide)).trans s62
  replace s63 := (kp 63 (by decide)).trans s63
  replace s73 := (kp 73 (by decide)).trans s73
  clear s76
  clear s77
  clear kp
  refine st_val (d := 79) (v := .int .i64 ((D : Int))) hF rfl (by decide) (by decide) (want_yes rfl g30 s62) (ex_move (x := (.tmp 3)) rfl ((hF.low 3 (by decide)).trans L3)) ?_
  clear hF
  intro a hF kp s79
  replace s62 := (kp 62 (by decide)).trans s62
  replace s63 := (kp 63 (by decide)).trans s63
  replace s73 := (kp 73 (by decide)).trans s73
  replace s78 := (kp 78 (by decide)).trans s78
  clear kp
  refine st_val (d := 80) (v := .int .i64 ((r3 : Int))) hF rfl (by decide) (by decide) (want_yes rfl g30 s62) (ex_rem (x := (.tmp 78)) (y := (.tmp 79)) (r := (r3 : Int)) rfl s78 s79 (by omega) (by rw [Int.tmod_eq_emod_of_nonneg (by omega), hr3])) ?_
  clear hF
  intro a hF kp s80
  replace s62 := (kp 62 (by decide)).trans s62
  replace s63 := (kp 63 (by decide)).trans s63
  replace s73 := (kp 73 (by decide)).trans s73
  clear s78
  clear s79
  clear kp
  refine st_call (d := 81) (args := #[.string (X ++ (ByteArray.mk #[42]) ++ Y ++ (ByteArray.mk #[47]) ++ V ++ (ByteArray.mk #[37]) ++ V), .int .i64 ((r3 : Int))]) (v := .bool (true)) hF rfl (by decide) (by decide) (want_yes rfl g30 s62) (ex_call (x := (.tmp 63)) (xs := #[(.tmp 73), (.tmp 80)]) rfl s63 (arr2 s73 s80) enter1) (Ib3.out _) ?_
  clear hF
  rintro a w3 hw hF kp s81
  have hb3 := bel_step hb2 hw
  clear hw hb2
  replace s62 := (kp 62 (by decide)).trans s62
  clear s63
  clear s73
  clear s80
  clear kp
  refine st_val (d := 82) (v := .bool (true)) hF rfl (by decide) (by decide) (want_none rfl) (ex_pick (t := true) (c := (.tmp 62)) (x := (.tmp 81)) (y := (.const (.bool (false)))) rfl s62 s81) ?_
  clear hF
  intro a hF kp s82
  clear s62
  clear s81
  clear kp
  refine st_val (d := 83) (v := .bool (true)) hF rfl (by decide) (by decide) (want_none rfl) (ex_move (x := (.tmp 82)) rfl s82) ?_
  clear hF
  intro a hF kp s83
  clear s82
  clear kp
  refine st_val (d := 84) (v := .func (.func 8) #[] #[]) hF rfl (by decide) (by decide) (want_yes rfl g51 s83) (ex_move (x := (.tmp 13)) rfl ((hF.low 13 (by decide)).trans L13)) ?_
  clear hF
  intro a hF kp s84
  replace s83 := (kp 83 (by decide)).trans s83
  clear kp
  refine st_val (d := 85) (v := .string (X)) hF rfl (by decide) (by decide) (want_yes rfl g51 s83) (ex_move (x := (.tmp 9)) rfl ((hF.low 9 (by decide)).trans L9)) ?_
  clear hF
  intro a hF kp s85
  replace s83 := (kp 83 (by decide)).trans s83
  replace s84 := (kp 84 (by decide)).trans s84
  clear kp
  refine st_val (d := 86) (v := .string ((ByteArray.mk #[40]) ++ X)) hF rfl (by decide) (by decide) (want_yes rfl g51 s83) (ex_cat (x := (.const (.string ((ByteArray.mk #[40]))))) (y := (.tmp 85)) rfl rfl s85 (by simp only [sz_40]; omega)) ?_
  clear hF
  intro a hF kp s86
  replace s83 := (kp 83 (by decide)).trans s83
  replace s84 := (kp 84 (by decide)).trans s84
  clear s85
  clear kp
  refine st_val (d := 87) (v := .string ((ByteArray.mk #[40]) ++ X ++ (ByteArray.mk #[43]))) hF rfl (by decide) (by decide) (want_yes rfl g51 s83) (ex_cat (x := (.tmp 86)) (y := (.const (.string ((ByteArray.mk #[43]))))) rfl s86 rfl (by simp only [ByteArray.size_append, sz_40, sz_43]; omega)) ?_
  clear hF
  intro a hF kp s87
  replace s83 := (kp 83 (by decide)).trans s83
  replace s84 := (kp 84 (by decide)).trans s84
  clear s86
  clear kp
  refine st_val (d := 88) (v := .string (Y)) hF rfl (by decide) (by decide) (want_yes rfl g51 s83) (ex_move (x := (.tmp 10)) rfl ((hF.low 10 (by decide)).trans L10)) ?_
  clear hF
  intro a hF kp s88
  replace s83 := (kp 83 (by decide)).trans s83
  replace s84 := (kp 84 (by decide)).trans s84
  replace s87 := (kp 87 (by decide)).trans s87
  clear kp
  refine st_val (d := 89) (v := .string ((ByteArray.mk #[40]) ++ X ++ (ByteArray.mk #[43]) ++ Y)) hF rfl (by decide) (by decide) (want_yes rfl g51 s83) (ex_cat (x := (.tmp 87)) (y := (.tmp 88)) rfl s87 s88 (by simp only [ByteArray.size_append, sz_40, sz_43]; omega)) ?_
  clear hF
  intro a hF kp s89
  replace s83 := (kp 83 (by decide)).trans s83
  replace s84 := (kp 84 (by decide)).trans s84
  clear s87
  clear s88
  clear kp
  refine st_val (d := 90) (v := .string ((ByteArray.mk #[40]) ++ X ++ (ByteArray.mk #[43]) ++ Y ++ (ByteArray.mk #[41, 42]))) hF rfl (by decide) (by decide) (want_yes rfl g51 s83) (ex_cat (x := (.tmp 89)) (y := (.const (.string ((ByteArray.mk #[41, 42]))))) rfl s89 rfl (by simp only [ByteArray.size_append, sz_40, sz_43, sz_4142]; omega)) ?_
  clear hF
  intro a hF kp s90
  replace s83 := (kp 83 (by decide)).trans s83
  replace s84 := (kp 84 (by decide)).trans s84
  clear s89
  clear kp
  refine st_val (d := 91) (v := .string (Z)) hF rfl (by decide) (by decide) (want_yes rfl g51 s83) (ex_move (x := (.tmp 11)) rfl ((hF.low 11 (by decide)).trans L11)) ?_
  clear hF
  intro a hF kp s91
  replace s83 := (kp 83 (by decide)).trans s83
  replace s84 := (kp 84 (by decide)).trans s84
  replace s90 := (kp 90 (by decide)).trans s90
  clear kp
  refine st_val (d := 92) (v := .string ((ByteArray.mk #[40]) ++ X ++ (ByteArray.mk #[43]) ++ Y ++ (ByteArray.mk #[41, 42]) ++ Z)) hF rfl (by decide) (by decide) (want_yes rfl g51 s83) (ex_cat (x := (.tmp 90)) (y := (.tmp 91)) rfl s90 s91 (by simp only [ByteArray.size_append, sz_40, sz_43, sz_4142]; omega)) ?_
  clear hF
  intro a hF kp s92
  replace s83 := (kp 83 (by decide)).trans s83
  replace s84 := (kp 84 (by decide)).trans s84
  clear s90
  clear s91
  clear kp
  refine st_val (d := 93) (v := .int .i64 ((A : Int))) hF rfl (by decide) (by decide) (want_yes rfl g51 s83) (ex_move (x := (.tmp 0)) rfl ((hF.low 0 (by decide)).trans L0)) ?_
  clear hF
  intro a hF kp s93
  replace s83 := (kp 83 (by decide)).trans s83
  replace s84 := (kp 84 (by decide)).trans s84
  replace s92 := (kp 92 (by decide)).trans s92
  clear kp
  refine st_val (d := 94) (v := .int .i64 ((B : Int))) hF rfl (by decide) (by decide) (want_yes rfl g51 s83) (ex_move (x := (.tmp 1)) rfl ((hF.low 1 (by decide)).trans L1)) ?_
  clear hF
  intro a hF kp s94
  replace s83 := (kp 83 (by decide)).trans s83
  replace s84 := (kp 84 (by decide)).trans s84
  replace s92 := (kp 92 (by decide)).trans s92
  replace s93 := (kp 93 (by decide)).trans s93
  clear kp
  refine st_val (d := 95) (v := .int .i64 ((A : Int) + (B : Int))) hF rfl (by decide) (by decide) (want_yes rfl g51 s83) (ex_add (x := (.tmp 93)) (y := (.tmp 94)) rfl s93 s94 (wrapS _ (by omega))) ?_
  clear hF
  intro a hF kp s95
  replace s83 := (kp 83 (by decide)).trans s83
  replace s84 := (kp 84 (by decide)).trans s84
  replace s92 := (kp 92 (by decide)).trans s92
  clear s93
  clear s94
  clear kp
  refine st_val (d := 96) (v := .int .i64 ((C : Int))) hF rfl (by decide) (by decide) (want_yes rfl g51 s83) (ex_move (x := (.tmp 2)) rfl ((hF.low 2 (by decide)).trans L2)) ?_
  clear hF
  intro a hF kp s96
  replace s83 := (kp 83 (by decide)).trans s83
  replace s84 := (kp 84 (by decide)).trans s84
  replace s92 := (kp 92 (by decide)).trans s92
  replace s95 := (kp 95 (by decide)).trans s95
  clear kp
  refine st_val (d := 97) (v := .int .i64 ((m4 : Int))) hF rfl (by decide) (by decide) (want_yes rfl g51 s83) (ex_mul (x := (.tmp 95)) (y := (.tmp 96)) (r := (m4 : Int)) rfl s95 s96 (by rw [hm4]; exact wrapS _ (by omega))) ?_
  clear hF
  intro a hF kp s97
  replace s83 := (kp 83 (by decide)).trans s83
  replace s84 := (kp 84 (by decide)).trans s84
  replace s92 := (kp 92 (by decide)).trans s92
  clear s95
  clear s96
  clear kp
  refine st_call (d := 98) (args := #[.string ((ByteArray.mk #[40]) ++ X ++ (ByteArray.mk #[43]) ++ Y ++ (ByteArray.mk #[41, 42]) ++ Z), .int .i64 ((m4 : Int))]) (v := .bool (true)) hF rfl (by decide) (by decide) (want_yes rfl g51 s83) (ex_call (x := (.tmp 84)) (xs := #[(.tmp 92), (.tmp 97)]) rfl s84 (arr2 s92 s97) enter1) (Ib4.out _) ?_
  clear hF
  rintro a w4 hw hF kp s98
  have hb4 := bel_step hb3 hw
  clear hw hb3
  replace s83 := (kp 83 (by decide)).trans s83
  clear s84
  clear s92
  clear s97
  clear kp
  refine st_val (d := 99) (v := .bool (true)) hF rfl (by decide) (by decide) (want_none rfl) (ex_pick (t := true) (c := (.tmp 83)) (x := (.tmp 98)) (y := (.const (.bool (false)))) rfl s83 s98) ?_
  clear hF
  intro a hF kp s99
  clear s83
  clear s98
  clear kp
  refine st_val (d := 100) (v := .bool (true)) hF rfl (by decide) (by decide) (want_none rfl) (ex_move (x := (.tmp 99)) rfl s99) ?_
  clear hF
  intro a hF kp s100
  clear s99
  clear kp
  refine st_val (d := 101) (v := .func (.func 8) #[] #[]) hF rfl (by decide) (by decide) (want_yes rfl g68 s100) (ex_move (x := (.tmp 13)) rfl ((hF.low 13 (by decide)).trans L13)) ?_
  clear hF
  intro a hF kp s101
  replace s100 := (kp 100 (by decide)).trans s100
  clear kp
  refine st_val (d := 102) (v := .string (X)) hF rfl (by decide) (by decide) (want_yes rfl g68 s100) (ex_move (x := (.tmp 9)) rfl ((hF.low 9 (by decide)).trans L9)) ?_
  clear hF
  intro a hF kp s102
  replace s100 := (kp 100 (by decide)).trans s100
  replace s101 := (kp 101 (by decide)).trans s101
  clear kp
  refine st_val (d := 103) (v := .string (X ++ (ByteArray.mk #[43]))) hF rfl (by decide) (by decide) (want_yes rfl g68 s100) (ex_cat (x := (.tmp 102)) (y := (.const (.string ((ByteArray.mk #[43]))))) rfl s102 rfl (by simp only [sz_43]; omega)) ?_
  clear hF
  intro a hF kp s103
  replace s100 := (kp 100 (by decide)).trans s100
  replace s101 := (kp 101 (by decide)).trans s101
  clear s102
  clear kp
  refine st_val (d := 104) (v := .string (Y)) hF rfl (by decide) (by decide) (want_yes rfl g68 s100) (ex_move (x := (.tmp 10)) rfl ((hF.low 10 (by decide)).trans L10)) ?_
  clear hF
  intro a hF kp s104
  replace s100 := (kp 100 (by decide)).trans s100
  replace s101 := (kp 101 (by decide)).trans s101
  replace s103 := (kp 103 (by decide)).trans s103
  clear kp
  refine st_val (d := 105) (v := .string (X ++ (ByteArray.mk #[43]) ++ Y)) hF rfl (by decide) (by decide) (want_yes rfl g68 s100) (ex_cat (x := (.tmp 103)) (y := (.tmp 104)) rfl s103 s104 (by simp only [ByteArray.size_append, sz_43]; omega)) ?_
  clear hF
  intro a hF kp s105
  replace s100 := (kp 100 (by decide)).trans s100
  replace s101 := (kp 101 (by decide)).trans s101
  clear s103
  clear s104
  clear kp
  refine st_val (d := 106) (v := .string (X ++ (ByteArray.mk #[43]) ++ Y ++ (ByteArray.mk #[60]))) hF rfl (by decide) (by decide) (want_yes rfl g68 s100) (ex_cat (x := (.tmp 105)) (y := (.const (.string ((ByteArray.mk #[60]))))) rfl s105 rfl (by simp only [ByteArray.size_append, sz_43, sz_60]; omega)) ?_
  clear hF
  intro a hF kp s106
  replace s100 := (kp 100 (by decide)).trans s100
  replace s101 := (kp 101 (by decide)).trans s101
  clear s105
  clear kp
  refine st_val (d := 107) (v := .string (Z)) hF rfl (by decide) (by decide) (want_yes rfl g68 s100) (ex_move (x := (.tmp 11)) rfl ((hF.low 11 (by decide)).trans L11)) ?_
  clear hF
  intro a hF kp s107
  replace s100 := (kp 100 (by decide)).trans s100
  replace s101 := (kp 101 (by decide)).trans s101
  replace s106 := (kp 106 (by decide)).trans s106
  clear kp
  refine st_val (d := 108) (v := .string (X ++ (ByteArray.mk #[43]) ++ Y ++ (ByteArray.mk #[60]) ++ Z)) hF rfl (by decide) (by decide) (want_yes rfl g68 s100) (ex_cat (x := (.tmp 106)) (y := (.tmp 107)) rfl s106 s107 (by simp only [ByteArray.size_append, sz_43, sz_60]; omega)) ?_
  clear hF
  intro a hF kp s108
  replace s100 := (kp 100 (by decide)).trans s100
  replace s101 := (kp 101 (by decide)).trans s101
  clear s106
  clear s107
  clear kp
  refine st_val (d := 109) (v := .func (.func 12) #[] #[]) hF rfl (by decide) (by decide) (want_yes rfl g68 s100) (ex_move (x := (.tmp 14)) rfl ((hF.low 14 (by decide)).trans L14)) ?_
  clear hF
  intro a hF kp s109
  replace s100 := (kp 100 (by decide)).trans s100
  replace s101 := (kp 101 (by decide)).trans s101
  replace s108 := (kp 108 (by decide)).trans s108
  clear kp
  refine st_val (d := 110) (v := .int .i64 ((A : Int))) hF rfl (by decide) (by decide) (want_yes rfl g68 s100) (ex_move (x := (.tmp 0)) rfl ((hF.low 0 (by decide)).trans L0)) ?_
  clear hF
  intro a hF kp s110
  replace s100 := (kp 100 (by decide)).trans s100
  replace s101 := (kp 101 (by decide)).trans s101
  replace s108 := (kp 108 (by decide)).trans s108
  replace s109 := (kp 109 (by decide)).trans s109
  clear kp
  refine st_val (d := 111) (v := .int .i64 ((B : Int))) hF rfl (by decide) (by decide) (want_yes rfl g68 s100) (ex_move (x := (.tmp 1)) rfl ((hF.low 1 (by decide)).trans L1)) ?_
  clear hF
  intro a hF kp s111
  replace s100 := (kp 100 (by decide)).trans s100
  replace s101 := (kp 101 (by decide)).trans s101
  replace s108 := (kp 108 (by decide)).trans s108
  replace s109 := (kp 109 (by decide)).trans s109
  replace s110 := (kp 110 (by decide)).trans s110
  clear kp
  refine st_val (d := 112) (v := .int .i64 ((A : Int) + (B : Int))) hF rfl (by decide) (by decide) (want_yes rfl g68 s100) (ex_add (x := (.tmp 110)) (y := (.tmp 111)) rfl s110 s111 (wrapS _ (by omega))) ?_
  clear hF
  intro a hF kp s112
  replace s100 := (kp 100 (by decide)).trans s100
  replace s101 := (kp 101 (by decide)).trans s101
  replace s108 := (kp 108 (by decide)).trans s108
  replace s109 := (kp 109 (by decide)).trans s109
  clear s110
  clear s111
  clear kp
  refine st_val (d := 113) (v := .int .i64 ((C : Int))) hF rfl (by decide) (by decide) (want_yes rfl g68 s100) (ex_move (x := (.tmp 2)) rfl ((hF.low 2 (by decide)).trans L2)) ?_
  clear hF
  intro a hF kp s113
  replace s100 := (kp 100 (by decide)).trans s100
  replace s101 := (kp 101 (by decide)).trans s101
  replace s108 := (kp 108 (by decide)).trans s108
  replace s109 := (kp 109 (by decide)).trans s109
  replace s112 := (kp 112 (by decide)).trans s112
  clear kp
  refine st_val (d := 114) (v := .bool (decide ((A : Int) + (B : Int) < (C : Int)))) hF rfl (by decide) (by decide) (want_yes rfl g68 s100) (ex_lss (x := (.tmp 112)) (y := (.tmp 113)) rfl s112 s113) ?_
  clear hF
  intro a hF kp s114
  replace s100 := (kp 100 (by decide)).trans s100
  replace s101 := (kp 101 (by decide)).trans s101
  replace s108 := (kp 108 (by decide)).trans s108
  replace s109 := (kp 109 (by decide)).trans s109
  clear s112
  clear s113
  clear kp
  refine st_call (d := 115) (args := #[.bool (decide ((A : Int) + (B : Int) < (C : Int)))]) (v := .int .i64 (truthI (decide ((A : Int) + (B : Int) < (C : Int))))) hF rfl (by decide) (by decide) (want_yes rfl g68 s100) (ex_call (x := (.tmp 109)) (xs := #[(.tmp 114)]) rfl s109 (arr1 s114) enter2) (truth_gives _ _) ?_
  clear hF
  rintro a w5 hw hF kp s115
  have hb5 := bel_step hb4 hw
  clear hw hb4
  replace s100 := (kp 100 (by decide)).trans s100
  replace s101 := (kp 101 (by decide)).trans s101
  replace s108 := (kp 108 (by decide)).trans s108
  clear s109
  clear s114
  clear kp
  refine st_call (d := 116) (args := #[.string (X ++ (ByteArray.mk #[43]) ++ Y ++ (ByteArray.mk #[60]) ++ Z), .int .i64 (truthI (decide ((A : Int) + (B : Int) < (C : Int))))]) (v := .bool (true)) hF rfl (by decide) (by decide) (want_yes rfl g68 s100) (ex_call (x := (.tmp 101)) (xs := #[(.tmp 108), (.tmp 115)]) rfl s101 (arr2 s108 s115) enter1) (Ib5.out _) ?_
  clear hF
  rintro a w6 hw hF kp s116
  have hb6 := bel_step hb5 hw
  clear hw hb5
  replace s100 := (kp 100 (by decide)).trans s100
  clear s101
  clear s108
  clear s115
  clear kp
  refine st_val (d := 117) (v := .bool (true)) hF rfl (by decide) (by decide) (want_none rfl) (ex_pick (t := true) (c := (.tmp 100)) (x := (.tmp 116)) (y := (.const (.bool (false)))) rfl s100 s116) ?_
  clear hF
  intro a hF kp s117
  clear s100
  clear s116
  clear kp
  refine st_val (d := 118) (v := .bool (true)) hF rfl (by decide) (by decide) (want_none rfl) (ex_move (x := (.tmp 117)) rfl s117) ?_
  clear hF
  intro a hF kp s118
  clear s117
  clear kp
  refine st_val (d := 119) (v := .func (.func 8) #[] #[]) hF rfl (by decide) (by decide) (want_yes rfl g86 s118) (ex_move (x := (.tmp 13)) rfl ((hF.low 13 (by decide)).trans L13)) ?_
  clear hF
  intro a hF kp s119
  replace s118 := (kp 118 (by decide)).trans s118
  clear kp
  refine st_val (d := 120) (v := .string (X)) hF rfl (by decide) (by decide) (want_yes rfl g86 s118) (ex_move (x := (.tmp 9)) rfl ((hF.low 9 (by decide)).trans L9)) ?_
  clear hF
  intro a hF kp s120
  replace s118 := (kp 118 (by decide)).trans s118
  replace s119 := (kp 119 (by decide)).trans s119
  clear kp
  refine st_val (d := 121) (v := .string (X ++ (ByteArray.mk #[60]))) hF rfl (by decide) (by decide) (want_yes rfl g86 s118) (ex_cat (x := (.tmp 120)) (y := (.const (.string ((ByteArray.mk #[60]))))) rfl s120 rfl (by simp only [sz_60]; omega)) ?_
  clear hF
  intro a hF kp s121
  replace s118 := (kp 118 (by decide)).trans s118
  replace s119 := (kp 119 (by decide)).trans s119
  clear s120
  clear kp
  refine st_val (d := 122) (v := .string (Y)) hF rfl (by decide) (by decide) (want_yes rfl g86 s118) (ex_move (x := (.tmp 10)) rfl ((hF.low 10 (by decide)).trans L10)) ?_
  clear hF
  intro a hF kp s122
  replace s118 := (kp 118 (by decide)).trans s118
  replace s119 := (kp 119 (by decide)).trans s119
  replace s121 := (kp 121 (by decide)).trans s121
  clear kp
  refine st_val (d := 123) (v := .string (X ++ (ByteArray.mk #[60]) ++ Y)) hF rfl (by decide) (by decide) (want_yes rfl g86 s118) (ex_cat (x := (.tmp 121)) (y := (.tmp 122)) rfl s121 s122 (by simp only [ByteArray.size_append, sz_60]; omega)) ?_
  clear hF
  intro a hF kp s123
  replace s118 := (kp 118 (by decide)).trans s118
  replace s119 := (kp 119 (by decide)).trans s119
  clear s121
  clear s122
  clear kp
  refine st_val (d := 124) (v := .string (X ++ (ByteArray.mk #[60]) ++ Y ++ (ByteArray.mk #[61, 61]))) hF rfl (by decide) (by decide) (want_yes rfl g86 s118) (ex_cat (x := (.tmp 123)) (y := (.const (.string ((ByteArray.mk #[61, 61]))))) rfl s123 rfl (by simp only [ByteArray.size_append, sz_60, sz_6161]; omega)) ?_
  clear hF
  intro a hF kp s124
  replace s118 := (kp 118 (by decide)).trans s118
  replace s119 := (kp 119 (by decide)).trans s119
  clear s123
  clear kp
  refine st_val (d := 125) (v := .string (Z)) hF rfl (by decide) (by decide) (want_yes rfl g86 s118) (ex_move (x := (.tmp 11)) rfl ((hF.low 11 (by decide)).trans L11)) ?_
  clear hF
  intro a hF kp s125
  replace s118 := (kp 118 (by decide)).trans s118
  replace s119 := (kp 119 (by decide)).trans s119
  replace s124 := (kp 124 (by decide)).trans s124
  clear kp
  refine st_val (d := 126) (v := .string (X ++ (ByteArray.mk #[60]) ++ Y ++ (ByteArray.mk #[61, 61]) ++ Z)) hF rfl (by decide) (by decide) (want_yes rfl g86 s118) (ex_cat (x := (.tmp 124)) (y := (.tmp 125)) rfl s124 s125 (by simp only [ByteArray.size_append, sz_60, sz_6161]; omega)) ?_
  clear hF
  intro a hF kp s126
  replace s118 := (kp 118 (by decide)).trans s118
  replace s119 := (kp 119 (by decide)).trans s119
  clear s124
  clear s125
  clear kp
  refine st_val (d := 127) (v := .func (.func 12) #[] #[]) hF rfl (by decide) (by decide) (want_yes rfl g86 s118) (ex_move (x := (.tmp 14)) rfl ((hF.low 14 (by decide)).trans L14)) ?_
  clear hF
  intro a hF kp s127
  replace s118 := (kp 118 (by decide)).trans s118
  replace s119 := (kp 119 (by decide)).trans s119
  replace s126 := (kp 126 (by decide)).trans s126
  clear kp
  refine st_val (d := 128) (v := .func (.func 12) #[] #[]) hF rfl (by decide) (by decide) (want_yes rfl g86 s118) (ex_move (x := (.tmp 14)) rfl ((hF.low 14 (by decide)).trans L14)) ?_
  clear hF
  intro a hF kp s128
  replace s118 := (kp 118 (by decide)).trans s118
  replace s119 := (kp 119 (by decide)).trans s119
  replace s126 := (kp 126 (by decide)).trans s126
  replace s127 := (kp 127 (by decide)).trans s127
  clear kp
  refine st_val (d := 129) (v := .int .i64 ((A : Int))) hF rfl (by decide) (by decide) (want_yes rfl g86 s118) (ex_move (x := (.tmp 0)) rfl ((hF.low 0 (by decide)).trans L0)) ?_
  clear hF
  intro a hF kp s129
  replace s118 := (kp 118 (by decide)).trans s118
  replace s119 := (kp 119 (by decide)).trans s119
  replace s126 := (kp 126 (by decide)).trans s126
  replace s127 := (kp 127 (by decide)).trans s127
  replace s128 := (kp 128 (by decide)).trans s128
  clear kp
  refine st_val (d := 130) (v := .int .i64 ((B : Int))) hF rfl (by decide) (by decide) (want_yes rfl g86 s118) (ex_move (x := (.tmp 1)) rfl ((hF.low 1 (by decide)).trans L1)) ?_
  clear hF
  intro a hF kp s130
  replace s118 := (kp 118 (by decide)).trans s118
  replace s119 := (kp 119 (by decide)).trans s119
  replace s126 := (kp 126 (by decide)).trans s126
  replace s127 := (kp 127 (by decide)).trans s127
  replace s128 := (kp 128 (by decide)).trans s128
  replace s129 := (kp 129 (by decide)).trans s129
  clear kp
  refine st_val (d := 131) (v := .bool (decide ((A : Int) < (B : Int)))) hF rfl (by decide) (by decide) (want_yes rfl g86 s118) (ex_lss (x := (.tmp 129)) (y := (.tmp 130)) rfl s129 s130) ?_
  clear hF
  intro a hF kp s131
  replace s118 := (kp 118 (by decide)).trans s118
  replace s119 := (kp 119 (by decide)).trans s119
  replace s126 := (kp 126 (by decide)).trans s126
  replace s127 := (kp 127 (by decide)).trans s127
  replace s128 := (kp 128 (by decide)).trans s128
  clear s129
  clear s130
  clear kp
  refine st_call (d := 132) (args := #[.bool (decide ((A : Int) < (B : Int)))]) (v := .int .i64 (truthI (decide ((A : Int) < (B : Int))))) hF rfl (by decide) (by decide) (want_yes rfl g86 s118) (ex_call (x := (.tmp 128)) (xs := #[(.tmp 131)]) rfl s128 (arr1 s131) enter2) (truth_gives _ _) ?_
  clear hF
  rintro a w7 hw hF kp s132
  have hb7 := bel_step hb6 hw
  clear hw hb6
  replace s118 := (kp 118 (by decide)).trans s118
  replace s119 := (kp 119 (by decide)).trans s119
  replace s126 := (kp 126 (by decide)).trans s126
  replace s127 := (kp 127 (by decide)).trans s127
  clear s128
  clear s131
  clear kp
  refine st_val (d := 133) (v := .int .i64 ((C : Int))) hF rfl (by decide) (by decide) (want_yes rfl g86 s118) (ex_move (x := (.tmp 2)) rfl ((hF.low 2 (by decide)).trans L2)) ?_
  clear hF
  intro a hF kp s133
  replace s118 := (kp 118 (by decide)).trans s118
  replace s119 := (kp 119 (by decide)).trans s119
  replace s126 := (kp 126 (by decide)).trans s126
  replace s127 := (kp 127 (by decide)).trans s127
  replace s132 := (kp 132 (by decide)).trans s132
  clear kp
  refine st_val (d := 134) (v := .bool (decide (truthI (decide ((A : Int) < (B : Int))) = (C : Int)))) hF rfl (by decide) (by decide) (want_yes rfl g86 s118) (ex_eql (x := (.tmp 132)) (y := (.tmp 133)) rfl s132 s133) ?_
  clear hF
  intro a hF kp s134
  replace s118 := (kp 118 (by decide)).trans s118
  replace s119 := (kp 119 (by decide)).trans s119
  replace s126 := (kp 126 (by decide)).trans s126
  replace s127 := (kp 127 (by decide)).trans s127
  clear s132
  clear s133
  clear kp
  refine st_call (d := 135) (args := #[.bool (decide (truthI (decide ((A : Int) < (B : Int))) = (C : Int)))]) (v := .int .i64 (truthI (decide (truthI (decide ((A : Int) < (B : Int))) = (C : Int))))) hF rfl (by decide) (by decide) (want_yes rfl g86 s118) (ex_call (x := (.tmp 127)) (xs := #[(.tmp 134)]) rfl s127 (arr1 s134) enter2) (truth_gives _ _) ?_
  clear hF
  rintro a w8 hw hF kp s135
  have hb8 := bel_step hb7 hw
  clear hw hb7
  replace s118 := (kp 118 (by decide)).trans s118
  replace s119 := (kp 119 (by decide)).trans s119
  replace s126 := (kp 126 (by decide)).trans s126
  clear s127
  clear s134
  clear kp
  refine st_call (d := 136) (args := #[.string (X ++ (ByteArray.mk #[60]) ++ Y ++ (ByteArray.mk #[61, 61]) ++ Z), .int .i64 (truthI (decide (truthI (decide ((A : Int) < (B : Int))) = (C : Int))))]) (v := .bool (true)) hF rfl (by decide) (by decide) (want_yes rfl g86 s118) (ex_call (x := (.tmp 119)) (xs := #[(.tmp 126), (.tmp 135)]) rfl s119 (arr2 s126 s135) enter1) (Ib6.out _) ?_
  clear hF
  rintro a w9 hw hF kp s136
  have hb9 := bel_step hb8 hw
  clear hw hb8
  replace s118 := (kp 118 (by decide)).trans s118
  clear s119
  clear s126
  clear s135
  clear kp
  refine st_val (d := 137) (v := .bool (true)) hF rfl (by decide) (by decide) (want_none rfl) (ex_pick (t := true) (c := (.tmp 118)) (x := (.tmp 136)) (y := (.const (.bool (false)))) rfl s118 s136) ?_
  clear hF
  intro a hF kp s137
  clear s118
  clear s136
  clear kp
  refine st_val (d := 138) (v := .bool (true)) hF rfl (by decide) (by decide) (want_none rfl) (ex_move (x := (.tmp 137)) rfl s137) ?_
  clear hF
  intro a hF kp s138
  clear s137
  clear kp
  refine st_val (d := 139) (v := .func (.func 8) #[] #[]) hF rfl (by decide) (by decide) (want_yes rfl g106 s138) (ex_move (x := (.tmp 13)) rfl ((hF.low 13 (by decide)).trans L13)) ?_
  clear hF
  intro a hF kp s139
  replace s138 := (kp 138 (by decide)).trans s138
  clear kp
  refine st_val (d := 140) (v := .string (X)) hF rfl (by decide) (by decide) (want_yes rfl g106 s138) (ex_move (x := (.tmp 9)) rfl ((hF.low 9 (by decide)).trans L9)) ?_
  clear hF
  intro a hF kp s140
  replace s138 := (kp 138 (by decide)).trans s138
  replace s139 := (kp 139 (by decide)).trans s139
  clear kp
  refine st_val (d := 141) (v := .string (X ++ (ByteArray.mk #[61, 61]))) hF rfl (by decide) (by decide) (want_yes rfl g106 s138) (ex_cat (x := (.tmp 140)) (y := (.const (.string ((ByteArray.mk #[61, 61]))))) rfl s140 rfl (by simp only [sz_6161]; omega)) ?_
  clear hF
  intro a hF kp s141
  replace s138 := (kp 138 (by decide)).trans s138
  replace s139 := (kp 139 (by decide)).trans s139
  clear s140
  clear kp
  refine st_val (d := 142) (v := .string (Y)) hF rfl (by decide) (by decide) (want_yes rfl g106 s138) (ex_move (x := (.tmp 10)) rfl ((hF.low 10 (by decide)).trans L10)) ?_
  clear hF
  intro a hF kp s142
  replace s138 := (kp 138 (by decide)).trans s138
  replace s139 := (kp 139 (by decide)).trans s139
  replace s141 := (kp 141 (by decide)).trans s141
  clear kp
  refine st_val (d := 143) (v := .string (X ++ (ByteArray.mk #[61, 61]) ++ Y)) hF rfl (by decide) (by decide) (want_yes rfl g106 s138) (ex_cat (x := (.tmp 141)) (y := (.tmp 142)) rfl s141 s142 (by simp only [ByteArray.size_append, sz_6161]; omega)) ?_
  clear hF
  intro a hF kp s143
  replace s138 := (kp 138 (by decide)).trans s138
  replace s139 := (kp 139 (by decide)).trans s139
  clear s141
  clear s142
  clear kp
  refine st_val (d := 144) (v := .string (X ++ (ByteArray.mk #[61, 61]) ++ Y ++ (ByteArray.mk #[38, 38]))) hF rfl (by decide) (by decide) (want_yes rfl g106 s138) (ex_cat (x := (.tmp 143)) (y := (.const (.string ((ByteArray.mk #[38, 38]))))) rfl s143 rfl (by simp only [ByteArray.size_append, sz_6161, sz_3838]; omega)) ?_
  clear hF
  intro a hF kp s144
  replace s138 := (kp 138 (by decide)).trans s138
  replace s139 := (kp 139 (by decide)).trans s139
  clear s143
  clear kp
  refine st_val (d := 145) (v := .string (Z)) hF rfl (by decide) (by decide) (want_yes rfl g106 s138) (ex_move (x := (.tmp 11)) rfl ((hF.low 11 (by decide)).trans L11)) ?_
  clear hF
  intro a hF kp s145
  replace s138 := (kp 138 (by decide)).trans s138
  replace s139 := (kp 139 (by decide)).trans s139
  replace s144 := (kp 144 (by decide)).trans s144
  clear kp
  refine st_val (d := 146) (v := .string (X ++ (ByteArray.mk #[61, 61]) ++ Y ++ (ByteArray.mk #[38, 38]) ++ Z)) hF rfl (by decide) (by decide) (want_yes rfl g106 s138) (ex_cat (x := (.tmp 144)) (y := (.tmp 145)) rfl s144 s145 (by simp only [ByteArray.size_append, sz_6161, sz_3838]; omega)) ?_
  clear hF
  intro a hF kp s146
  replace s138 := (kp 138 (by decide)).trans s138
  replace s139 := (kp 139 (by decide)).trans s139
  clear s144
  clear s145
  clear kp
  refine st_val (d := 147) (v := .func (.func 12) #[] #[]) hF rfl (by decide) (by decide) (want_yes rfl g106 s138) (ex_move (x := (.tmp 14)) rfl ((hF.low 14 (by decide)).trans L14)) ?_
  clear hF
  intro a hF kp s147
  replace s138 := (kp 138 (by decide)).trans s138
  replace s139 := (kp 139 (by decide)).trans s139
  replace s146 := (kp 146 (by decide)).trans s146
  clear kp
  refine st_val (d := 148) (v := .int .i64 ((A : Int))) hF rfl (by decide) (by decide) (want_yes rfl g106 s138) (ex_move (x := (.tmp 0)) rfl ((hF.low 0 (by decide)).trans L0)) ?_
  clear hF
  intro a hF kp s148
  replace s138 := (kp 138 (by decide)).trans s138
  replace s139 := (kp 139 (by decide)).trans s139
  replace s146 := (kp 146 (by decide)).trans s146
  replace s147 := (kp 147 (by decide)).trans s147
  clear kp
  refine st_val (d := 149) (v := .int .i64 ((B : Int))) hF rfl (by decide) (by decide) (want_yes rfl g106 s138) (ex_move (x := (.tmp 1)) rfl ((hF.low 1 (by decide)).trans L1)) ?_
  clear hF
  intro a hF kp s149
  replace s138 := (kp 138 (by decide)).trans s138
  replace s139 := (kp 139 (by decide)).trans s139
  replace s146 := (kp 146 (by decide)).trans s146
  replace s147 := (kp 147 (by decide)).trans s147
  replace s148 := (kp 148 (by decide)).trans s148
  clear kp
  refine st_val (d := 150) (v := .bool (decide ((A : Int) = (B : Int)))) hF rfl (by decide) (by decide) (want_yes rfl g106 s138) (ex_eql (x := (.tmp 148)) (y := (.tmp 149)) rfl s148 s149) ?_
  clear hF
  intro a hF kp s150
  replace s138 := (kp 138 (by decide)).trans s138
  replace s139 := (kp 139 (by decide)).trans s139
  replace s146 := (kp 146 (by decide)).trans s146
  replace s147 := (kp 147 (by decide)).trans s147
  clear s148
  clear s149
  clear kp
  refine st_val (d := 151) (v := .bool (decide ((A : Int) = (B : Int)))) hF rfl (by decide) (by decide) (want_yes rfl g106 s138) (ex_move (x := (.tmp 150)) rfl s150) ?_
  clear hF
  intro a hF kp s151
  replace s138 := (kp 138 (by decide)).trans s138
  replace s139 := (kp 139 (by decide)).trans s139
  replace s146 := (kp 146 (by decide)).trans s146
  replace s147 := (kp 147 (by decide)).trans s147
  clear s150
  clear kp
  refine st_join 3 (fun a w' => w' = w9 ∧ Fr 212 15 L a ∧ sl a 138 = .bool (true) ∧ sl a 139 = .func (.func 8) #[] #[] ∧ sl a 146 = .string (X ++ (ByteArray.mk #[61, 61]) ++ Y ++ (ByteArray.mk #[38, 38]) ++ Z) ∧ sl a 147 = .func (.func 12) #[] #[] ∧ sl a 154 = .bool (decide ((A : Int) = (B : Int)) && !decide ((C : Int) = 0))) ?rest152 ?here152
  case here152 =>
    intro hj
    cases hq : decide ((A : Int) = (B : Int)) with
    | true =>
      rw [hq] at s151
      refine st_val (d := 152) (v := .int .i64 ((C : Int))) hF rfl (by decide) (by decide) (want_yes rfl g119 s151) (ex_move (x := (.tmp 2)) rfl ((hF.low 2 (by decide)).trans L2)) ?_
      clear hF
      intro a hF kp s152
      replace s138 := (kp 138 (by decide)).trans s138
      replace s139 := (kp 139 (by decide)).trans s139
      replace s146 := (kp 146 (by decide)).trans s146
      replace s147 := (kp 147 (by decide)).trans s147
      replace s151 := (kp 151 (by decide)).trans s151
      clear kp
      refine st_val (d := 153) (v := .bool (!decide ((C : Int) = 0))) hF rfl (by decide) (by decide) (want_yes rfl g119 s151) (ex_neq (x := (.tmp 152)) (y := (.const (.int .i64 (0)))) rfl s152 rfl) ?_
      clear hF
      intro a hF kp s153
      replace s138 := (kp 138 (by decide)).trans s138
      replace s139 := (kp 139 (by decide)).trans s139
      replace s146 := (kp 146 (by decide)).trans s146
      replace s147 := (kp 147 (by decide)).trans s147
      replace s151 := (kp 151 (by decide)).trans s151
      clear s152
      clear kp
      refine st_val (d := 154) (v := .bool (!decide ((C : Int) = 0))) hF rfl (by decide) (by decide) (want_yes rfl g106 s138) (ex_pick (t := true) (c := (.tmp 151)) (x := (.tmp 153)) (y := (.const (.bool (false)))) rfl s151 s153) ?_
      clear hF
      intro a hF kp s154
      replace s138 := (kp 138 (by decide)).trans s138
      replace s139 := (kp 139 (by decide)).trans s139
      replace s146 := (kp 146 (by decide)).trans s146
      replace s147 := (kp 147 (by decide)).trans s147
      clear s151
      clear s153
      clear kp
      exact hj _ _ ⟨rfl, hF, s138, s139, s146, s147, s154.trans (by rw [hq]; rfl)⟩
    | false =>
      rw [hq] at s151
      refine st_skip (d := 152) hF rfl (by decide) (by decide) (want_no rfl g119 s151 (by decide)) ?_
      clear hF
      intro a hF kp s152
      replace s138 := (kp 138 (by decide)).trans s138
      replace s139 := (kp 139 (by decide)).trans s139
      replace s146 := (kp 146 (by decide)).trans s146
      replace s147 := (kp 147 (by decide)).trans s147
      replace s151 := (kp 151 (by decide)).trans s151
      clear kp
      refine st_skip (d := 153) hF rfl (by decide) (by decide) (want_no rfl g119 s151 (by decide)) ?_
      clear hF
      intro a hF kp s153
      replace s138 := (kp 138 (by decide)).trans s138
      replace s139 := (kp 139 (by decide)).trans s139
      replace s146 := (kp 146 (by decide)).trans s146
      replace s147 := (kp 147 (by decide)).trans s147
      replace s151 := (kp 151 (by decide)).trans s151
      clear s152
      clear kp
      refine st_val (d := 154) (v := .bool (false)) hF rfl (by decide) (by decide) (want_yes rfl g106 s138) (ex_pick (t := false) (c := (.tmp 151)) (x := (.tmp 153)) (y := (.const (.bool (false)))) rfl s151 rfl) ?_
      clear hF
      intro a hF kp s154
      replace s138 := (kp 138 (by decide)).trans s138
      replace s139 := (kp 139 (by decide)).trans s139
      replace s146 := (kp 146 (by decide)).trans s146
      replace s147 := (kp 147 (by decide)).trans s147
      clear s151
      clear s153
      clear kp
      exact hj _ _ ⟨rfl, hF, s138, s139, s146, s147, s154.trans (by rw [hq]; rfl)⟩
  case rest152 =>
  clear hF s138 s139 s146 s147 s151
  rintro a w' ⟨rfl, hF, s138, s139, s146, s147, s154⟩
  refine st_call (d := 155) (args := #[.bool (decide ((A : Int) = (B : Int)) && !decide ((C : Int) = 0))]) (v := .int .i64 (truthI (decide ((A : Int) = (B : Int)) && !decide ((C : Int) = 0)))) hF rfl (by decide) (by decide) (want_yes rfl g106 s138) (ex_call (x := (.tmp 147)) (xs := #[(.tmp 154)]) rfl s147 (arr1 s154) enter2) (truth_gives _ _) ?_
  clear hF
  rintro a w10 hw hF kp s155
  have hb10 := bel_step hb9 hw
  clear hw hb9
  replace s138 := (kp 138 (by decide)).trans s138
  replace s139 := (kp 139 (by decide)).trans s139
  replace s146 := (kp 146 (by decide)).trans s146
  clear s147
  clear s154
  clear kp
  refine st_call (d := 156) (args := #[.string (X ++ (ByteArray.mk #[61, 61]) ++ Y ++ (ByteArray.mk #[38, 38]) ++ Z), .int .i64 (truthI (decide ((A : Int) = (B : Int)) && !decide ((C : Int) = 0)))]) (v := .bool (true)) hF rfl (by decide) (by decide) (want_yes rfl g106 s138) (ex_call (x := (.tmp 139)) (xs := #[(.tmp 146), (.tmp 155)]) rfl s139 (arr2 s146 s155) enter1) (Ib7.out _) ?_
  clear hF
  rintro a w11 hw hF kp s156
  have hb11 := bel_step hb10 hw
  clear hw hb10
  replace s138 := (kp 138 (by decide)).trans s138
  clear s139
  clear s146
  clear s155
  clear kp
  refine st_val (d := 157) (v := .bool (true)) hF rfl (by decide) (by decide) (want_none rfl) (ex_pick (t := true) (c := (.tmp 138)) (x := (.tmp 156)) (y := (.const (.bool (false)))) rfl s138 s156) ?_
  clear hF
  intro a hF kp s157
  clear s138
  clear s156
  clear kp
  refine st_val (d := 158) (v := .bool (true)) hF rfl (by decide) (by decide) (want_none rfl) (ex_move (x := (.tmp 157)) rfl s157) ?_
  clear hF
  intro a hF kp s158
  clear s157
  clear kp
  refine st_val (d := 159) (v := .func (.func 8) #[] #[]) hF rfl (by decide) (by decide) (want_yes rfl g126 s158) (ex_move (x := (.tmp 13)) rfl ((hF.low 13 (by decide)).trans L13)) ?_
  clear hF
  intro a hF kp s159
  replace s158 := (kp 158 (by decide)).trans s158
  clear kp
  refine st_val (d := 160) (v := .string (X)) hF rfl (by decide) (by decide) (want_yes rfl g126 s158) (ex_move (x := (.tmp 9)) rfl ((hF.low 9 (by decide)).trans L9)) ?_
  clear hF
  intro a hF kp s160
  replace s158 := (kp 158 (by decide)).trans s158
  replace s159 := (kp 159 (by decide)).trans s159
  clear kp
  refine st_val (d := 161) (v := .string (X ++ (ByteArray.mk #[124, 124]))) hF rfl (by decide) (by decide) (want_yes rfl g126 s158) (ex_cat (x := (.tmp 160)) (y := (.const (.string ((ByteArray.mk #[124, 124]))))) rfl s160 rfl (by simp only [sz_124124]; omega)) ?_
  clear hF
  intro a hF kp s161
  replace s158 := (kp 158 (by decide)).trans s158
  replace s159 := (kp 159 (by decide)).trans s159
  clear s160
  clear kp
  refine st_val (d := 162) (v := .string (Y)) hF rfl (by decide) (by decide) (want_yes rfl g126 s158) (ex_move (x := (.tmp 10)) rfl ((hF.low 10 (by decide)).trans L10)) ?_
  clear hF
  intro a hF kp s162
  replace s158 := (kp 158 (by decide)).trans s158
  replace s159 := (kp 159 (by decide)).trans s159
  replace s161 := (kp 161 (by decide)).trans s161
  clear kp
  refine st_val (d := 163) (v := .string (X ++ (ByteArray.mk #[124, 124]) ++ Y)) hF rfl (by decide) (by decide) (want_yes rfl g126 s158) (ex_cat (x := (.tmp 161)) (y := (.tmp 162)) rfl s161 s162 (by simp only [ByteArray.size_append, sz_124124]; omega)) ?_
  clear hF
  intro a hF kp s163
  replace s158 := (kp 158 (by decide)).trans s158
  replace s159 := (kp 159 (by decide)).trans s159
  clear s161
  clear s162
  clear kp
  refine st_val (d := 164) (v := .string (X ++ (ByteArray.mk #[124, 124]) ++ Y ++ (ByteArray.mk #[38, 38]))) hF rfl (by decide) (by decide) (want_yes rfl g126 s158) (ex_cat (x := (.tmp 163)) (y := (.const (.string ((ByteArray.mk #[38, 38]))))) rfl s163 rfl (by simp only [ByteArray.size_append, sz_124124, sz_3838]; omega)) ?_
  clear hF
  intro a hF kp s164
  replace s158 := (kp 158 (by decide)).trans s158
  replace s159 := (kp 159 (by decide)).trans s159
  clear s163
  clear kp
  refine st_val (d := 165) (v := .string (Z)) hF rfl (by decide) (by decide) (want_yes rfl g126 s158) (ex_move (x := (.tmp 11)) rfl ((hF.low 11 (by decide)).trans L11)) ?_
  clear hF
  intro a hF kp s165
  replace s158 := (kp 158 (by decide)).trans s158
  replace s159 := (kp 159 (by decide)).trans s159
  replace s164 := (kp 164 (by decide)).trans s164
  clear kp
  refine st_val (d := 166) (v := .string (X ++ (ByteArray.mk #[124, 124]) ++ Y ++ (ByteArray.mk #[38, 38]) ++ Z)) hF rfl (by decide) (by decide) (want_yes rfl g126 s158) (ex_cat (x := (.tmp 164)) (y := (.tmp 165)) rfl s164 s165 (by simp only [ByteArray.size_append, sz_124124, sz_3838]; omega)) ?_
  clear hF
  intro a hF kp s166
  replace s158 := (kp 158 (by decide)).trans s158
  replace s159 := (kp 159 (by decide)).trans s159
  clear s164
  clear s165
  clear kp
  refine st_val (d := 167) (v := .func (.func 12) #[] #[]) hF rfl (by decide) (by decide) (want_yes rfl g126 s158) (ex_move (x := (.tmp 14)) rfl ((hF.low 14 (by decide)).trans L14)) ?_
  clear hF
  intro a hF kp s167
  replace s158 := (kp 158 (by decide)).trans s158
  replace s159 := (kp 159 (by decide)).trans s159
  replace s166 := (kp 166 (by decide)).trans s166
  clear kp
  refine st_val (d := 168) (v := .int .i64 ((A : Int))) hF rfl (by decide) (by decide) (want_yes rfl g126 s158) (ex_move (x := (.tmp 0)) rfl ((hF.low 0 (by decide)).trans L0)) ?_
  clear hF
  intro a hF kp s168
  replace s158 := (kp 158 (by decide)).trans s158
  replace s159 := (kp 159 (by decide)).trans s159
  replace s166 := (kp 166 (by decide)).trans s166
  replace s167 := (kp 167 (by decide)).trans s167
  clear kp
  refine st_val (d := 169) (v := .bool (!decide ((A : Int) = 0))) hF rfl (by decide) (by decide) (want_yes rfl g126 s158) (ex_neq (x := (.tmp 168)) (y := (.const (.int .i64 (0)))) rfl s168 rfl) ?_
  clear hF
  intro a hF kp s169
  replace s158 := (kp 158 (by decide)).trans s158
  replace s159 := (kp 159 (by decide)).trans s159
  replace s166 := (kp 166 (by decide)).trans s166
  replace s167 := (kp 167 (by decide)).trans s167
  clear s168
  clear kp
  refine st_val (d := 170) (v := .bool (!decide ((A : Int) = 0))) hF rfl (by decide) (by decide) (want_yes rfl g126 s158) (ex_move (x := (.tmp 169)) rfl s169) ?_
  clear hF
  intro a hF kp s170
  replace s158 := (kp 158 (by decide)).trans s158
  replace s159 := (kp 159 (by decide)).trans s159
  replace s166 := (kp 166 (by decide)).trans s166
  replace s167 := (kp 167 (by decide)).trans s167
  clear s169
  clear kp
  refine st_join 7 (fun a w' => w' = w11 ∧ Fr 212 15 L a ∧ sl a 158 = .bool (true) ∧ sl a 159 = .func (.func 8) #[] #[] ∧ sl a 166 = .string (X ++ (ByteArray.mk #[124, 124]) ++ Y ++ (ByteArray.mk #[38, 38]) ++ Z) ∧ sl a 167 = .func (.func 12) #[] #[] ∧ sl a 177 = .bool (!decide ((A : Int) = 0) || (!decide ((B : Int) = 0) && !decide ((C : Int) = 0)))) ?rest171 ?here171
  case here171 =>
    intro hj
    cases hp : (!decide ((A : Int) = 0)) with
    | true =>
      rw [hp] at s170
      refine st_skip (d := 171) hF rfl (by decide) (by decide) (want_no rfl g138 s170 (by decide)) ?_
      clear hF
      intro a hF kp s171
      replace s158 := (kp 158 (by decide)).trans s158
      replace s159 := (kp 159 (by decide)).trans s159
      replace s166 := (kp 166 (by decide)).trans s166
      replace s167 := (kp 167 (by decide)).trans s167
      replace s170 := (kp 170 (by decide)).trans s170
      clear kp
      refine st_skip (d := 172) hF rfl (by decide) (by decide) (want_no rfl g138 s170 (by decide)) ?_
      clear hF
      intro a hF kp s172
      replace s158 := (kp 158 (by decide)).trans s158
      replace s159 := (kp 159 (by decide)).trans s159
      replace s166 := (kp 166 (by decide)).trans s166
      replace s167 := (kp 167 (by decide)).trans s167
      replace s170 := (kp 170 (by decide)).trans s170
      clear s171
      clear kp
      refine st_skip (d := 173) hF rfl (by decide) (by decide) (want_no rfl g138 s170 (by decide)) ?_
      clear hF
      intro a hF kp s173
      replace s158 := (kp 158 (by decide)).trans s158
      replace s159 := (kp 159 (by decide)).trans s159
      replace s166 := (kp 166 (by decide)).trans s166
      replace s167 := (kp 167 (by decide)).trans s167
      replace s170 := (kp 170 (by decide)).trans s170
      clear s172
      clear kp
      refine st_skip (d := 174) hF rfl (by decide) (by decide) (want_undef rfl g141 s173) ?_
      clear hF
      intro a hF kp s174
      replace s158 := (kp 158 (by decide)).trans s158
      replace s159 := (kp 159 (by decide)).trans s159
      replace s166 := (kp 166 (by decide)).trans s166
      replace s167 := (kp 167 (by decide)).trans s167
      replace s170 := (kp 170 (by decide)).trans s170
      replace s173 := (kp 173 (by decide)).trans s173
      clear kp
      refine st_skip (d := 175) hF rfl (by decide) (by decide) (want_undef rfl g141 s173) ?_
      clear hF
      intro a hF kp s175
      replace s158 := (kp 158 (by decide)).trans s158
      replace s159 := (kp 159 (by decide)).trans s159
      replace s166 := (kp 166 (by decide)).trans s166
      replace s167 := (kp 167 (by decide)).trans s167
      replace s170 := (kp 170 (by decide)).trans s170
      replace s173 := (kp 173 (by decide)).trans s173
      clear s174
      clear kp
      refine st_skip (d := 176) hF rfl (by decide) (by decide) (want_no rfl g138 s170 (by decide)) ?_
      clear hF
      intro a hF kp s176
      replace s158 := (kp 158 (by decide)).trans s158
      replace s159 := (kp 159 (by decide)).trans s159
      replace s166 := (kp 166 (by decide)).trans s166
      replace s167 := (kp 167 (by decide)).trans s167
      replace s170 := (kp 170 (by decide)).trans s170
      clear s173
      clear s175
      clear kp
      refine st_val (d := 177) (v := .bool (true)) hF rfl (by decide) (by decide) (want_yes rfl g126 s158) (ex_pick (t := true) (c := (.tmp 170)) (x := (.const (.bool (true)))) (y := (.tmp 176)) rfl s170 rfl) ?_
      clear hF
      intro a hF kp s177
      replace s158 := (kp 158 (by decide)).trans s158
      replace s159 := (kp 159 (by decide)).trans s159
      replace s166 := (kp 166 (by decide)).trans s166
      replace s167 := (kp 167 (by decide)).trans s167
      clear s170
      clear s176
      clear kp
      exact hj _ _ ⟨rfl, hF, s158, s159, s166, s167, s177.trans (by rw [hp]; rfl)⟩
    | false =>
      rw [hp] at s170
      refine st_val (d := 171) (v := .int .i64 ((B : Int))) hF rfl (by decide) (by decide) (want_yes rfl g138 s170) (ex_move (x := (.tmp 1)) rfl ((hF.low 1 (by decide)).trans L1)) ?_
      clear hF
      intro a hF kp s171
      replace s158 := (kp 158 (by decide)).trans s158
      replace s159 := (kp 159 (by decide)).trans s159
      replace s166 := (kp 166 (by decide)).trans s166
      replace s167 := (kp 167 (by decide)).trans s167
      replace s170 := (kp 170 (by decide)).trans s170
      clear kp
      refine st_val (d := 172) (v := .bool (!decide ((B : Int) = 0))) hF rfl (by decide) (by decide) (want_yes rfl g138 s170) (ex_neq (x := (.tmp 171)) (y := (.const (.int .i64 (0)))) rfl s171 rfl) ?_
      clear hF
      intro a hF kp s172
      replace s158 := (kp 158 (by decide)).trans s158
      replace s159 := (kp 159 (by decide)).trans s159
      replace s166 := (kp 166 (by decide)).trans s166
      replace s167 := (kp 167 (by decide)).trans s167
      replace s170 := (kp 170 (by decide)).trans s170
      clear s171
      clear kp
      refine st_val (d := 173) (v := .bool (!decide ((B : Int) = 0))) hF rfl (by decide) (by decide) (want_yes rfl g138 s170) (ex_move (x := (.tmp 172)) rfl s172) ?_
      clear hF
      intro a hF kp s173
      replace s158 := (kp 158 (by decide)).trans s158
      replace s159 := (kp 159 (by decide)).trans s159
      replace s166 := (kp 166 (by decide)).trans s166
      replace s167 := (kp 167 (by decide)).trans s167
      replace s170 := (kp 170 (by decide)).trans s170
      clear s172
      clear kp
      cases hr : (!decide ((B : Int) = 0)) with
      | true =>
        rw [hr] at s173
        refine st_val (d := 174) (v := .int .i64 ((C : Int))) hF rfl (by decide) (by decide) (want_yes rfl g141 s173) (ex_move (x := (.tmp 2)) rfl ((hF.low 2 (by decide)).trans L2)) ?_
        clear hF
        intro a hF kp s174
        replace s158 := (kp 158 (by decide)).trans s158
        replace s159 := (kp 159 (by decide)).trans s159
        replace s166 := (kp 166 (by decide)).trans s166
        replace s167 := (kp 167 (by decide)).trans s167
        replace s170 := (kp 170 (by decide)).trans s170
        replace s173 := (kp 173 (by decide)).trans s173
        clear kp
        refine st_val (d := 175) (v := .bool (!decide ((C : Int) = 0))) hF rfl (by decide) (by decide) (want_yes rfl g141 s173) (ex_neq (x := (.tmp 174)) (y := (.const (.int .i64 (0)))) rfl s174 rfl) ?_
        clear hF
        intro a hF kp s175
        replace s158 := (kp 158 (by decide)).trans s158
        replace s159 := (kp 159 (by decide)).trans s159
        replace s166 := (kp 166 (by decide)).trans s166
        replace s167 := (kp 167 (by decide)).trans s167
        replace s170 := (kp 170 (by decide)).trans s170
        replace s173 := (kp 173 (by decide)).trans s173
        clear s174
        clear kp
        refine st_val (d := 176) (v := .bool (!decide ((C : Int) = 0))) hF rfl (by decide) (by decide) (want_yes rfl g138 s170) (ex_pick (t := true) (c := (.tmp 173)) (x := (.tmp 175)) (y := (.const (.bool (false)))) rfl s173 s175) ?_
        clear hF
        intro a hF kp s176
        replace s158 := (kp 158 (by decide)).trans s158
        replace s159 := (kp 159 (by decide)).trans s159
        replace s166 := (kp 166 (by decide)).trans s166
        replace s167 := (kp 167 (by decide)).trans s167
        replace s170 := (kp 170 (by decide)).trans s170
        clear s173
        clear s175
        clear kp
        refine st_val (d := 177) (v := .bool (!decide ((C : Int) = 0))) hF rfl (by decide) (by decide) (want_yes rfl g126 s158) (ex_pick (t := false) (c := (.tmp 170)) (x := (.const (.bool (true)))) (y := (.tmp 176)) rfl s170 s176) ?_
        clear hF
        intro a hF kp s177
        replace s158 := (kp 158 (by decide)).trans s158
        replace s159 := (kp 159 (by decide)).trans s159
        replace s166 := (kp 166 (by decide)).trans s166
        replace s167 := (kp 167 (by decide)).trans s167
        clear s170
        clear s176
        clear kp
        exact hj _ _ ⟨rfl, hF, s158, s159, s166, s167, s177.trans (by rw [hp, hr]; rfl)⟩
      | false =>
        rw [hr] at s173
        refine st_skip (d := 174) hF rfl (by decide) (by decide) (want_no rfl g141 s173 (by decide)) ?_
        clear hF
        intro a hF kp s174
        replace s158 := (kp 158 (by decide)).trans s158
        replace s159 := (kp 159 (by decide)).trans s159
        replace s166 := (kp 166 (by decide)).trans s166
        replace s167 := (kp 167 (by decide)).trans s167
        replace s170 := (kp 170 (by decide)).trans s170
        replace s173 := (kp 173 (by decide)).trans s173
        clear kp
        refine st_skip (d := 175) hF rfl (by decide) (by decide) (want_no rfl g141 s173 (by decide)) ?_
        clear hF
        intro a hF kp s175
        replace s158 := (kp 158 (by decide)).trans s158
        replace s159 := (kp 159 (by decide)).trans s159
        replace s166 := (kp 166 (by decide)).trans s166
        replace s167 := (kp 167 (by decide)).trans s167
        replace s170 := (kp 170 (by decide)).trans s170
        replace s173 := (kp 173 (by decide)).trans s173
        clear s174
        clear kp
        refine st_val (d := 176) (v := .bool (false)) hF rfl (by decide) (by decide) (want_yes rfl g138 s170) (ex_pick (t := false) (c := (.tmp 173)) (x := (.tmp 175)) (y := (.const (.bool (false)))) rfl s173 rfl) ?_
        clear hF
        intro a hF kp s176
        replace s158 := (kp 158 (by decide)).trans s158
        replace s159 := (kp 159 (by decide)).trans s159
        replace s166 := (kp 166 (by decide)).trans s166
        replace s167 := (kp 167 (by decide)).trans s167
        replace s170 := (kp 170 (by decide)).trans s170
        clear s173
        clear s175
        clear kp
        refine st_val (d := 177) (v := .bool (false)) hF rfl (by decide) (by decide) (want_yes rfl g126 s158) (ex_pick (t := false) (c := (.tmp 170)) (x := (.const (.bool (true)))) (y := (.tmp 176)) rfl s170 s176) ?_
        clear hF
        intro a hF kp s177
        replace s158 := (kp 158 (by decide)).trans s158
        replace s159 := (kp 159 (by decide)).trans s159
        replace s166 := (kp 166 (by decide)).trans s166
        replace s167 := (kp 167 (by decide)).trans s167
        clear s170
        clear s176
        clear kp
        exact hj _ _ ⟨rfl, hF, s158, s159, s166, s167, s177.trans (by rw [hp, hr]; rfl)⟩
  case rest171 =>
  clear hF s158 s159 s166 s167 s170
  rintro a w' ⟨rfl, hF, s158, s159, s166, s167, s177⟩
  refine st_call (d := 178) (args := #[.bool (!decide ((A : Int) = 0) || (!decide ((B : Int) = 0) && !decide ((C : Int) = 0)))]) (v := .int .i64 (truthI (!decide ((A : Int) = 0) || (!decide ((B : Int) = 0) && !decide ((C : Int) = 0))))) hF rfl (by decide) (by decide) (want_yes rfl g126 s158) (ex_call (x := (.tmp 167)) (xs := #[(.tmp 177)]) rfl s167 (arr1 s177) enter2) (truth_gives _ _) ?_
  clear hF
  rintro a w12 hw hF kp s178
  have hb12 := bel_step hb11 hw
  clear hw hb11
  replace s158 := (kp 158 (by decide)).trans s158
  replace s159 := (kp 159 (by decide)).trans s159
  replace s166 := (kp 166 (by decide)).trans s166
  clear s167
  clear s177
  clear kp
  refine st_call (d := 179) (args := #[.string (X ++ (ByteArray.mk #[124, 124]) ++ Y ++ (ByteArray.mk #[38, 38]) ++ Z), .int .i64 (truthI (!decide ((A : Int) = 0) || (!decide ((B : Int) = 0) && !decide ((C : Int) = 0))))]) (v := .bool (true)) hF rfl (by decide) (by decide) (want_yes rfl g126 s158) (ex_call (x := (.tmp 159)) (xs := #[(.tmp 166), (.tmp 178)]) rfl s159 (arr2 s166 s178) enter1) (Ib8.out _) ?_
  clear hF
  rintro a w13 hw hF kp s179
  have hb13 := bel_step hb12 hw
  clear hw hb12
  replace s158 := (kp 158 (by decide)).trans s158
  clear s159
  clear s166
  clear s178
  clear kp
  refine st_val (d := 180) (v := .bool (true)) hF rfl (by decide) (by decide) (want_none rfl) (ex_pick (t := true) (c := (.tmp 158)) (x := (.tmp 179)) (y := (.const (.bool (false)))) rfl s158 s179) ?_
  clear hF
  intro a hF kp s180
  clear s158
  clear s179
  clear kp
  refine st_val (d := 181) (v := .bool (true)) hF rfl (by decide) (by decide) (want_none rfl) (ex_move (x := (.tmp 180)) rfl s180) ?_
  clear hF
  intro a hF kp s181
  clear s180
  clear kp
  refine st_val (d := 182) (v := .func (.func 8) #[] #[]) hF rfl (by decide) (by decide) (want_yes rfl g149 s181) (ex_move (x := (.tmp 13)) rfl ((hF.low 13 (by decide)).trans L13)) ?_
  clear hF
  intro a hF kp s182
  replace s181 := (kp 181 (by decide)).trans s181
  clear kp
  refine st_val (d := 183) (v := .string (X)) hF rfl (by decide) (by decide) (want_yes rfl g149 s181) (ex_move (x := (.tmp 9)) rfl ((hF.low 9 (by decide)).trans L9)) ?_
  clear hF
  intro a hF kp s183
  replace s181 := (kp 181 (by decide)).trans s181
  replace s182 := (kp 182 (by decide)).trans s182
  clear kp
  refine st_val (d := 184) (v := .string ((ByteArray.mk #[45, 32]) ++ X)) hF rfl (by decide) (by decide) (want_yes rfl g149 s181) (ex_cat (x := (.const (.string ((ByteArray.mk #[45, 32]))))) (y := (.tmp 183)) rfl rfl s183 (by simp only [sz_4532]; omega)) ?_
  clear hF
  intro a hF kp s184
  replace s181 := (kp 181 (by decide)).trans s181
  replace s182 := (kp 182 (by decide)).trans s182
  clear s183
  clear kp
  refine st_val (d := 185) (v := .string ((ByteArray.mk #[45, 32]) ++ X ++ (ByteArray.mk #[32, 45, 32, 45]))) hF rfl (by decide) (by decide) (want_yes rfl g149 s181) (ex_cat (x := (.tmp 184)) (y := (.const (.string ((ByteArray.mk #[32, 45, 32, 45]))))) rfl s184 rfl (by simp only [ByteArray.size_append, sz_4532, sz_32453245]; omega)) ?_
  clear hF
  intro a hF kp s185
  replace s181 := (kp 181 (by decide)).trans s181
  replace s182 := (kp 182 (by decide)).trans s182
  clear s184
  clear kp
  refine st_val (d := 186) (v := .string (Y)) hF rfl (by decide) (by decide) (want_yes rfl g149 s181) (ex_move (x := (.tmp 10)) rfl ((hF.low 10 (by decide)).trans L10)) ?_
  clear hF
  intro a hF kp s186
  replace s181 := (kp 181 (by decide)).trans s181
  replace s182 := (kp 182 (by decide)).trans s182
  replace s185 := (kp 185 (by decide)).trans s185
  clear kp
  refine st_val (d := 187) (v := .string ((ByteArray.mk #[45, 32]) ++ X ++ (ByteArray.mk #[32, 45, 32, 45]) ++ Y)) hF rfl (by decide) (by decide) (want_yes rfl g149 s181) (ex_cat (x := (.tmp 185)) (y := (.tmp 186)) rfl s185 s186 (by simp only [ByteArray.size_append, sz_4532, sz_32453245]; omega)) ?_
  clear hF
  intro a hF kp s187
  replace s181 := (kp 181 (by decide)).trans s181
  replace s182 := (kp 182 (by decide)).trans s182
  clear s185
  clear s186
  clear kp
  refine st_val (d := 188) (v := .int .i64 ((A : Int))) hF rfl (by decide) (by decide) (want_yes rfl g149 s181) (ex_move (x := (.tmp 0)) rfl ((hF.low 0 (by decide)).trans L0)) ?_
  clear hF
  intro a hF kp s188
  replace s181 := (kp 181 (by decide)).trans s181
  replace s182 := (kp 182 (by decide)).trans s182
  replace s187 := (kp 187 (by decide)).trans s187
  clear kp
  refine st_val (d := 189) (v := .int .i64 (-(A : Int))) hF rfl (by decide) (by decide) (want_yes rfl g149 s181) (ex_neg (x := (.tmp 188)) rfl s188 (wrapS _ (by omega))) ?_
  clear hF
  intro a hF kp s189
  replace s181 := (kp 181 (by decide)).trans s181
  replace s182 := (kp 182 (by decide)).trans s182
  replace s187 := (kp 187 (by decide)).trans s187
  clear s188
  clear kp
  refine st_val (d := 190) (v := .int .i64 ((B : Int))) hF rfl (by decide) (by decide) (want_yes rfl g149 s181) (ex_move (x := (.tmp 1)) rfl ((hF.low 1 (by decide)).trans L1)) ?_
  clear hF
  intro a hF kp s190
  replace s181 := (kp 181 (by decide)).trans s181
  replace s182 := (kp 182 (by decide)).trans s182
  replace s187 := (kp 187 (by decide)).trans s187
  replace s189 := (kp 189 (by decide)).trans s189
  clear kp
  refine st_val (d := 191) (v := .int .i64 (-(A : Int) + (B : Int))) hF rfl (by decide) (by decide) (want_yes rfl g149 s181) (ex_add (x := (.tmp 189)) (y := (.tmp 190)) rfl s189 s190 (wrapS _ (by omega))) ?_
  clear hF
  intro a hF kp s191
  replace s181 := (kp 181 (by decide)).trans s181
  replace s182 := (kp 182 (by decide)).trans s182
  replace s187 := (kp 187 (by decide)).trans s187
  clear s189
  clear s190
  clear kp
  refine st_call (d := 192) (args := #[.string ((ByteArray.mk #[45, 32]) ++ X ++ (ByteArray.mk #[32, 45, 32, 45]) ++ Y), .int .i64 (-(A : Int) + (B : Int))]) (v := .bool (true)) hF rfl (by decide) (by decide) (want_yes rfl g149 s181) (ex_call (x := (.tmp 182)) (xs := #[(.tmp 187), (.tmp 191)]) rfl s182 (arr2 s187 s191) enter1) (Ib9.out _) ?_
  clear hF
  rintro a w14 hw hF kp s192
  have hb14 := bel_step hb13 hw
  clear hw hb13
  replace s181 := (kp 181 (by decide)).trans s181
  clear s182
  clear s187
  clear s191
  clear kp
  refine st_val (d := 193) (v := .bool (true)) hF rfl (by decide) (by decide) (want_none rfl) (ex_pick (t := true) (c := (.tmp 181)) (x := (.tmp 192)) (y := (.const (.bool (false)))) rfl s181 s192) ?_
  clear hF
  intro a hF kp s193
  clear s181
  clear s192
  clear kp
  refine st_val (d := 194) (v := .bool (true)) hF rfl (by decide) (by decide) (want_none rfl) (ex_move (x := (.tmp 193)) rfl s193) ?_
  clear hF
  intro a hF kp s194
  clear s193
  clear kp
  refine st_val (d := 195) (v := .func (.func 8) #[] #[]) hF rfl (by decide) (by decide) (want_yes rfl g162 s194) (ex_move (x := (.tmp 13)) rfl ((hF.low 13 (by decide)).trans L13)) ?_
  clear hF
  intro a hF kp s195
  replace s194 := (kp 194 (by decide)).trans s194
  clear kp
  refine st_val (d := 196) (v := .string (X)) hF rfl (by decide) (by decide) (want_yes rfl g162 s194) (ex_move (x := (.tmp 9)) rfl ((hF.low 9 (by decide)).trans L9)) ?_
  clear hF
  intro a hF kp s196
  replace s194 := (kp 194 (by decide)).trans s194
  replace s195 := (kp 195 (by decide)).trans s195
  clear kp
  refine st_val (d := 197) (v := .string ((ByteArray.mk #[33]) ++ X)) hF rfl (by decide) (by decide) (want_yes rfl g162 s194) (ex_cat (x := (.const (.string ((ByteArray.mk #[33]))))) (y := (.tmp 196)) rfl rfl s196 (by simp only [sz_33]; omega)) ?_
  clear hF
  intro a hF kp s197
  replace s194 := (kp 194 (by decide)).trans s194
  replace s195 := (kp 195 (by decide)).trans s195
  clear s196
  clear kp
  refine st_val (d := 198) (v := .string ((ByteArray.mk #[33]) ++ X ++ (ByteArray.mk #[43]))) hF rfl (by decide) (by decide) (want_yes rfl g162 s194) (ex_cat (x := (.tmp 197)) (y := (.const (.string ((ByteArray.mk #[43]))))) rfl s197 rfl (by simp only [ByteArray.size_append, sz_33, sz_43]; omega)) ?_
  clear hF
  intro a hF kp s198
  replace s194 := (kp 194 (by decide)).trans s194
  replace s195 := (kp 195 (by decide)).trans s195
  clear s197
  clear kp
  refine st_val (d := 199) (v := .string (Y)) hF rfl (by decide) (by decide) (want_yes rfl g162 s194) (ex_move (x := (.tmp 10)) rfl ((hF.low 10 (by decide)).trans L10)) ?_
  clear hF
  intro a hF kp s199
  replace s194 := (kp 194 (by decide)).trans s194
  replace s195 := (kp 195 (by decide)).trans s195
  replace s198 := (kp 198 (by decide)).trans s198
  clear kp
  refine st_val (d := 200) (v := .string ((ByteArray.mk #[33]) ++ X ++ (ByteArray.mk #[43]) ++ Y)) hF rfl (by decide) (by decide) (want_yes rfl g162 s194) (ex_cat (x := (.tmp 198)) (y := (.tmp 199)) rfl s198 s199 (by simp only [ByteArray.size_append, sz_33, sz_43]; omega)) ?_
  clear hF
  intro a hF kp s200
  replace s194 := (kp 194 (by decide)).trans s194
  replace s195 := (kp 195 (by decide)).trans s195
  clear s198
  clear s199
  clear kp
  refine st_val (d := 201) (v := .func (.func 12) #[] #[]) hF rfl (by decide) (by decide) (want_yes rfl g162 s194) (ex_move (x := (.tmp 14)) rfl ((hF.low 14 (by decide)).trans L14)) ?_
  clear hF
  intro a hF kp s201
  replace s194 := (kp 194 (by decide)).trans s194
  replace s195 := (kp 195 (by decide)).trans s195
  replace s200 := (kp 200 (by decide)).trans s200
  clear kp
  refine st_val (d := 202) (v := .int .i64 ((A : Int))) hF rfl (by decide) (by decide) (want_yes rfl g162 s194) (ex_move (x := (.tmp 0)) rfl ((hF.low 0 (by decide)).trans L0)) ?_
  clear hF
  intro a hF kp s202
  replace s194 := (kp 194 (by decide)).trans s194
  replace s195 := (kp 195 (by decide)).trans s195
  replace s200 := (kp 200 (by decide)).trans s200
  replace s201 := (kp 201 (by decide)).trans s201
  clear kp
  refine st_val (d := 203) (v := .bool (decide ((A : Int) = 0))) hF rfl (by decide) (by decide) (want_yes rfl g162 s194) (ex_eql (x := (.tmp 202)) (y := (.const (.int .i64 (0)))) rfl s202 rfl) ?_
  clear hF
  intro a hF kp s203
  replace s194 := (kp 194 (by decide)).trans s194
  replace s195 := (kp 195 (by decide)).trans s195
  replace s200 := (kp 200 (by decide)).trans s200
  replace s201 := (kp 201 (by decide)).trans s201
  clear s202
  clear kp
  refine st_call (d := 204) (args := #[.bool (decide ((A : Int) = 0))]) (v := .int .i64 (truthI (decide ((A : Int) = 0)))) hF rfl (by decide) (by decide) (want_yes rfl g162 s194) (ex_call (x := (.tmp 201)) (xs := #[(.tmp 203)]) rfl s201 (arr1 s203) enter2) (truth_gives _ _) ?_
  clear hF
  rintro a w15 hw hF kp s204
  have hb15 := bel_step hb14 hw
  clear hw hb14
  replace s194 := (kp 194 (by decide)).trans s194
  replace s195 := (kp 195 (by decide)).trans s195
  replace s200 := (kp 200 (by decide)).trans s200
  clear s201
  clear s203
  clear kp
  refine st_val (d := 205) (v := .int .i64 ((B : Int))) hF rfl (by decide) (by decide) (want_yes rfl g162 s194) (ex_move (x := (.tmp 1)) rfl ((hF.low 1 (by decide)).trans L1)) ?_
  clear hF
  intro a hF kp s205
  replace s194 := (kp 194 (by decide)).trans s194
  replace s195 := (kp 195 (by decide)).trans s195
  replace s200 := (kp 200 (by decide)).trans s200
  replace s204 := (kp 204 (by decide)).trans s204
  clear kp
  refine st_val (d := 206) (v := .int .i64 (truthI (decide ((A : Int) = 0)) + (B : Int))) hF rfl (by decide) (by decide) (want_yes rfl g162 s194) (ex_add (x := (.tmp 204)) (y := (.tmp 205)) rfl s204 s205 (wrapS _ (by have := truth_range (decide ((A : Int) = 0)); omega))) ?_
  clear hF
  intro a hF kp s206
  replace s194 := (kp 194 (by decide)).trans s194
  replace s195 := (kp 195 (by decide)).trans s195
  replace s200 := (kp 200 (by decide)).trans s200
  clear s204
  clear s205
  clear kp
  refine st_call (d := 207) (args := #[.string ((ByteArray.mk #[33]) ++ X ++ (ByteArray.mk #[43]) ++ Y), .int .i64 (truthI (decide ((A : Int) = 0)) + (B : Int))]) (v := .bool (true)) hF rfl (by decide) (by decide) (want_yes rfl g162 s194) (ex_call (x := (.tmp 195)) (xs := #[(.tmp 200), (.tmp 206)]) rfl s195 (arr2 s200 s206) enter1) (Ib10.out _) ?_
  clear hF
  rintro a w16 hw hF kp s207
  have hb16 := bel_step hb15 hw
  clear hw hb15
  replace s194 := (kp 194 (by decide)).trans s194
  clear s195
  clear s200
  clear s206
  clear kp
  refine st_val (d := 208) (v := .bool (true)) hF rfl (by decide) (by decide) (want_none rfl) (ex_pick (t := true) (c := (.tmp 194)) (x := (.tmp 207)) (y := (.const (.bool (false)))) rfl s194 s207) ?_
  clear hF
  intro a hF kp s208
  clear s194
  clear s207
  clear kp
  refine st_val (d := 209) (v := .bool (true)) hF rfl (by decide) (by decide) (want_none rfl) (ex_move (x := (.tmp 208)) rfl s208) ?_
  clear hF
  intro a hF kp s209
  clear s208
  clear kp
  refine st_call (d := 210) (args := #[]) (v := .bool (true)) hF rfl (by decide) (by decide) (want_yes rfl g177 s209) (ex_call (x := (.func 13)) (xs := #[]) rfl rfl (arr0 _) enter0) (FA.out _) ?_
  clear hF
  rintro a w17 hw hF kp s210
  have hb17 := bel_step hb16 hw
  clear hw hb16
  replace s209 := (kp 209 (by decide)).trans s209
  clear kp
  refine st_val (d := 211) (v := .bool (true)) hF rfl (by decide) (by decide) (want_none rfl) (ex_pick (t := true) (c := (.tmp 209)) (x := (.tmp 210)) (y := (.const (.bool (false)))) rfl s209 s210) ?_
  clear hF
  intro a hF kp s211
  clear s209
  clear s210
  clear kp
  refine st_last (d := 8) (v := .bool true) hF rfl (by decide) (want_none rfl) (ex_assign (x := .tmp 211) rfl s211) ?_
  clear hF
  intro a hdf s8
  clear s211
  go_wp2
  refine bodyPost_ret (results_tmp rfl _ _ _) hdf ?_
  exact ⟨congrArg Ending.returned s8, hb17⟩
end Go.Proofs.Ytekpopopibhjbaa
