/-
  The contract of package arith's done: what a step makes of the numbers ahead of it.
-/
import Derived.Test.YtekpopopibhjbaaArNamed
import Derived.Test.YtekpopopibhjbaaArSmall
namespace Go.Proofs.Ytekpopopibhjbaa
open Go.RowKit

theorem belD {B : Nat} {a b : World} (h : Below B a b) (n : Nat) : Below B a (b.drewN n) := ⟨h.os, h.tape, h.output, h.size, h.block⟩
def opV (o : AOp) : Value := .agg #[.int .i64 (o.kind : Int), .int .i64 o.n, strV o.name]
theorem GetIs.later {w w1 : World} {f : FuncId} {caps : Array Value} {val : List UInt8 → List UInt8} (h : GetIs w f caps val) (hb : Below w.heap.size w w1) : GetIs w1 f caps val :=
  ⟨h.1, fun x hx => h.2 x (bel_step hb hx)⟩
theorem ofOne_q (k : Nat) (hk : 3 ≤ k ∧ k ≤ 5) (a : Int) (w : World) (n : Nat) : Calls Try.prog 26 #[.int .i64 (k : Int), .int .i64 a] (w.drewN n) fun e w' => e = .returned (.int .i64 (oneP k a)) ∧ ∃ m, w' = w.drewN m :=
  (ofOne_is k hk a _).mono fun _ _ ⟨h1, h2⟩ => ⟨h1, n, h2.symm⟩
theorem ofTwo_q (k : Nat) (hk : 6 ≤ k ∧ k ≤ 18) (a b : Int) (w : World) (n : Nat) : Calls Try.prog 27 #[.int .i64 (k : Int), .int .i64 a, .int .i64 b] (w.drewN n) fun e w' => e = .returned (.tuple #[.int .i64 (twoP k a b).1, .int .i64 (twoP k a b).2]) ∧ ∃ m, w' = w.drewN m :=
  (ofTwo_is k hk a b _).mono fun _ _ ⟨h1, h2⟩ => ⟨h1, n, h2.symm⟩

set_option maxHeartbeats 2000000 in
theorem done_num (n : Int) (x : ByteArray) (ao : Option Addr) (cap : Nat) (gv : Value) (w : World) :
    Calls Try.prog 22 #[.agg #[.int .i64 1, .int .i64 n, .string x], .slice ao 0 cap, gv] w (Gives w (.tuple #[.int .i64 n, .int .i64 0])) := by
  go_enter Try.func22, Try.ntmps22
  go_wp2
  go_ret2
  exact ⟨rfl, bel_alloc (Below.refl _ _) _⟩

set_option maxHeartbeats 2000000 in
theorem done_name (n : Int) (x : ByteArray) (ao : Option Addr) (cap : Nat) (f : FuncId) (caps : Array Value) (val : List UInt8 → List UInt8) (w : World) (hx : x.size ≤ 1048576) (hv : ∀ y, (val y).length ≤ 100000) (HG : GetIs w f caps val) :
    Calls Try.prog 22 #[.agg #[.int .i64 2, .int .i64 n, .string x], .slice ao 0 cap, .func (.func f) #[] caps] w
      (Gives w (match valN (val x.data.toList) with | some v => .tuple #[.int .i64 v, .int .i64 0] | none => .tuple #[.int .i64 0, .int .i64 13])) := by
  have HN := fun w1 hb => Lib.hid (named_is x f caps val w1 hx hv (HG.later hb))
  cases hV : valN (val x.data.toList) with
  | some v =>
    rw [hV] at HN
    clear hV HG hv
    go_enter Try.func22, Try.ntmps22
    go_wp2_with fail
    refine (HN _ (bel_alloc (Below.refl _ _) _)).out.mono ?_
    rintro e w1 ⟨rfl, hb⟩
    have hb2 := bel_step (bel_alloc (Below.refl _ _) _) hb
    clear HN hb
    simp only [namedV]
    go_wp2
    go_ret2
    exact ⟨rfl, hb2⟩
  | none =>
    rw [hV] at HN
    clear hV HG hv
    go_enter Try.func22, Try.ntmps22
    go_wp2_with fail
    refine (HN _ (bel_alloc (Below.refl _ _) _)).out.mono ?_
    rintro e w1 ⟨rfl, hb⟩
    have hb2 := bel_step (bel_alloc (Below.refl _ _) _) hb
    clear HN hb
    simp only [namedV]
    go_wp2
    go_ret2
    exact ⟨rfl, hb2⟩

set_option maxHeartbeats 2000000 in
theorem done_one (k : Nat) (hk : 3 ≤ k ∧ k ≤ 5) (n : Int) (x : ByteArray) (g off cap : Nat) (a : Int) (gv : Value) (w : World) (hc : w.cell? ⟨g, off, none⟩ = some (.int .i64 a)) :
    Calls Try.prog 22 #[.agg #[.int .i64 (k : Int), .int .i64 n, .string x], .slice (some ⟨g, off, none⟩) 1 cap, gv] w (Gives w (.tuple #[.int .i64 (oneP k a), .int .i64 0])) := by
  have HO := Lib.hid (ofOne_q k hk a)
  have hb := bel_alloc (Below.refl _ w) (.cells #[.int .i64 (k : Int), .int .i64 n, .string x] 46)
  have c0 := cell_after hb hc
  have c1 := (BlkAt.new w #[.int .i64 (k : Int), .int .i64 n, .string x] 46).cell 0 (v := .int .i64 (k : Int)) rfl
  clear hk
  go_enter Try.func22, Try.ntmps22
  go_wp2
  go_quiet ((go_at_call 26; exact HO.out _ _))
  go_wp2
  go_ret2
  exact ⟨rfl, belD hb _⟩

set_option maxHeartbeats 2000000 in
theorem done_two (k : Nat) (hk : 6 ≤ k ∧ k ≤ 18) (n : Int) (x : ByteArray) (g off cap : Nat) (a b : Int) (gv : Value) (w : World) (hc : w.cell? ⟨g, off, none⟩ = some (.int .i64 a)) (hd : w.cell? ⟨g, off + 1, none⟩ = some (.int .i64 b)) :
    Calls Try.prog 22 #[.agg #[.int .i64 (k : Int), .int .i64 n, .string x], .slice (some ⟨g, off, none⟩) 2 cap, gv] w (Gives w (.tuple #[.int .i64 (twoP k a b).1, .int .i64 (twoP k a b).2])) := by
  have HO := Lib.hid (ofTwo_q k hk a b)
  have hb := bel_alloc (Below.refl _ w) (.cells #[.int .i64 (k : Int), .int .i64 n, .string x] 46)
  have c0 := cell_after hb hc
  have c2 := cell_after hb hd
  have c1 := (BlkAt.new w #[.int .i64 (k : Int), .int .i64 n, .string x] 46).cell 0 (v := .int .i64 (k : Int)) rfl
  clear hk
  generalize twoP k a b = r at *
  go_enter Try.func22, Try.ntmps22
  go_wp2
  go_quiet ((go_at_call 27; exact HO.out _ _))
  go_wp2
  go_ret2
  exact ⟨rfl, belD hb _⟩
end Go.Proofs.Ytekpopopibhjbaa
