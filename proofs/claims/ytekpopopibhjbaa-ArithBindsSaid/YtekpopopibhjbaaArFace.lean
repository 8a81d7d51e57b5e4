/-
  What the statements of layer 8 ask of package arith (its contracts, as hypotheses), and the contracts of their own helpers over it: nil0, awake.
-/
import Derived.Test.YtekpopopibhjbaaArPlain
import Derived.Test.YtekpopopibhjbaaBase
import Derived.Deep.QuietTactic
import Derived.BigQuiet
namespace Go.Proofs.Ytekpopopibhjbaa
open Go.RowKit

/-- what Parse tells -/
structure PRes where
  ops : List AOp
  place : Int
  err : Int
def okR (ops : List AOp) : PRes := ⟨ops, 0, 0⟩

/-- a slice that reads as these steps -/
def OpsAt (w : World) (v : Value) (ops : List AOp) : Prop :=
  ∃ (ao : Option Addr) (cap : Nat), v = .slice ao ops.length cap ∧ ops.length ≤ 1048576 ∧ ops.length ≤ cap ∧ (0 < ops.length → ∃ g, ao = some ⟨g, 0, none⟩ ∧
    ∀ (j : Nat) (o : AOp), ops[j]? = some o → w.cell? ⟨g, 3 * j, none⟩ = some (.int .i64 o.kind) ∧ w.cell? ⟨g, 3 * j + 1, none⟩ = some (.int .i64 o.n) ∧ w.cell? ⟨g, 3 * j + 2, none⟩ = some (strV o.name))
theorem cell_after {w w' : World} (hb : Below w.heap.size w w') {a : Addr} {v : Value} (h : w.cell? a = some v) : w'.cell? a = some v :=
  (World.cell?_of_block (hb.block a.block (World.block_lt_of_cell? _ _ h))).trans h
theorem OpsAt.after {w w' : World} {v : Value} {ops : List AOp} (h : OpsAt w v ops) (hb : Below w.heap.size w w') : OpsAt w' v ops := by
  obtain ⟨ao, cap, h1, h2, h3, h4⟩ := h
  refine ⟨ao, cap, h1, h2, h3, fun hp => ?_⟩
  obtain ⟨g, h5, h6⟩ := h4 hp
  refine ⟨g, h5, fun j o hj => ?_⟩
  obtain ⟨c0, c1, c2⟩ := h6 j o hj
  exact ⟨cell_after hb c0, cell_after hb c1, cell_after hb c2⟩

def ParseLeft (w : World) (r : PRes) (e : Ending) (w' : World) : Prop :=
  ∃ v, e = .returned (.tuple #[v, .int .i64 r.place, .int .i64 r.err]) ∧ OpsAt w' v r.ops ∧ Below w.heap.size w w'
/-- a function that tells names' values, in every world that is later than w -/
def GetIs (w : World) (f : FuncId) (caps : Array Value) (val : List UInt8 → List UInt8) : Prop :=
  (∀ args x, Sem.run Try.prog (callFunc f args) x = .ok (.enter f args) x) ∧ ∀ (x : World), Below w.heap.size w x → ∀ (s : ByteArray), s.size ≤ 1048576 → Calls Try.prog f (#[.string s] ++ caps) x fun e x' => (∃ b, e = .returned (.tuple #[strV (val s.data.toList), .bool b]) ∧ (b = false → val s.data.toList = [])) ∧ Below x.heap.size x x'

/-- package arith, as the statements see it -/
structure ArithFace (P : List UInt8 → PRes) : Prop where
  parse : ∀ (s : ByteArray), s.size ≤ 100000 → ∀ w, Calls Try.prog 9 #[.string s] w (ParseLeft w (P s.data.toList))
  eval : ∀ (v : Value) (ops : List AOp) (f : FuncId) (caps : Array Value) (val : List UInt8 → List UInt8) (w : World), OpsAt w v ops → (∀ o ∈ ops, o.name.length ≤ 100000) → (∀ x, (val x).length ≤ 100000) → GetIs w f caps val →
    Calls Try.prog 10 #[v, .func (.func f) #[] caps] w (Gives w (.tuple #[.int .i64 (evalP val ops).1, .int .i64 (evalP val ops).2]))

theorem call_enter {P : Program} {f : FuncId} {fn : Func} {c : Code} (hf : P.funcs[f]? = some fn) (hname : (fn.name == "runtime.NumGoroutine") = false) (hb : fn.body = some c) (args : Array Value) (w : World) : Sem.run P (callFunc f args) w = .ok (.enter f args) w := by
  have h1 : fn.name ≠ "runtime.NumGoroutine" := by simpa using hname
  simp [callFunc, hf, h1, hb]
def noVal : List UInt8 → List UInt8 := fun _ => []
set_option maxHeartbeats 1000000 in
theorem nil0_is (w : World) : GetIs w 11 #[] noVal := by
  refine ⟨fun args x => call_enter Try.func11 (by decide) rfl args x, ?_⟩
  intro x _ s _
  show Calls Try.prog 11 #[.string s] x _
  go_enter Try.func11, Try.ntmps11
  go_wp2
  go_ret2
  exact ⟨⟨false, rfl, fun _ => rfl⟩, Below.refl _ _⟩

section
variable {P : List UInt8 → PRes}
theorem ArithFace.sum (F : ArithFace P) {v : Value} {ops : List AOp} {w : World} {x e : Int} (h : OpsAt w v ops) (hn : ∀ o ∈ ops, o.name.length ≤ 100000) (he : evalP noVal ops = (x, e)) :
    Calls Try.prog 10 #[v, .func (.func 11) #[] #[]] w (Gives w (.tuple #[.int .i64 x, .int .i64 e])) := by
  have := F.eval v ops _ #[] noVal w h hn (fun _ => Nat.zero_le _) (nil0_is w)
  rw [he] at this
  exact this
theorem ArithFace.text (F : ArithFace P) (s : ByteArray) (hs : s.size ≤ 100000) {r : PRes} (h : P s.data.toList = r) (w : World) : Calls Try.prog 9 #[.string s] w (ParseLeft w r) := by
  rw [← h]
  exact F.parse s hs w

/-- what the fixed checks ask -/
structure AwakeP (P : List UInt8 → PRes) : Prop where
  one : P [49, 32, 43, 32, 50, 32, 42, 32, 51] = okR [numO 1, numO 2, numO 3, opO 6, opO 9]
  two : P [49, 32, 43] = ⟨[], 3, 6⟩

set_option maxHeartbeats 2000000 in
set_option maxRecDepth 100000 in
theorem awake8_is (F : ArithFace P) (A : AwakeP P) (w : World) : Calls Try.prog 13 #[] w (Gives w (.bool true)) := by
  have H1 := Lib.hid (F.text ⟨#[49, 32, 43, 32, 50, 32, 42, 32, 51]⟩ (by decide) A.one)
  have H2 := Lib.hid (F.text ⟨#[49, 32, 43]⟩ (by decide) A.two)
  have H3 : Hid (evalP noVal [numO 1, numO 2, numO 3, opO 6, opO 9] = (7, 0)) := Lib.hid (by kernel_rfl)
  go_enter Try.func13, Try.ntmps13
  go_wp2_with fail
  refine (H1.out _).mono ?_
  rintro e w1 ⟨v1, rfl, h1, hb1⟩
  have E1 := Lib.hid (F.sum h1 (by decide) H3.out)
  clear h1 H1 H3
  simp only [okR]
  go_wp2_with fail
  refine E1.out.mono ?_
  rintro e w2 ⟨rfl, hb2⟩
  have hb3 := bel_step hb1 hb2
  clear hb1 hb2 E1
  go_wp2_with fail
  refine (H2.out _).mono ?_
  rintro e w3 ⟨v3, rfl, h3, hb4⟩
  have hb5 := bel_step hb3 hb4
  clear hb3 hb4 h3
  go_wp2
  go_ret
  exact ⟨rfl, hb5⟩
end
end Go.Proofs.Ytekpopopibhjbaa
