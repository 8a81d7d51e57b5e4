/-
  Long statements (hundreds of operations in one region), step by step over a frame that is a letter: what each kind of operation makes; a frame of which a few slots are known.
-/
import Derived.Test.YtekpopopibhjbaaBase
import Derived.Deep.Cut
namespace Go.Proofs.Ytekpopopibhjbaa
open Go.RowKit

/-- what slot k holds -/
def sl (a : Act) (k : Nat) : Value := a.tmps.getD k undef
/-- a frame of n slots; those below b hold what L says -/
structure Fr (n b : Nat) (L : Nat → Value) (a : Act) : Prop where
  size : a.tmps.size = n
  df : a.defers = []
  low : ∀ k, k < b → sl a k = L k

section
variable {P : Program} {ops : Array Oper} {rest : List Oper} {o : Oper} {a : Act} {w : World} {Q : Exit → Act → World → Prop} {n b : Nat} {L : Nat → Value}
theorem sl_other {d k : Nat} {v : Value} (h : k ≠ d) : sl (a.put (some d) v) k = sl a k := by
  unfold sl Act.put
  simp [Array.getElem?_setIfInBounds_ne (Ne.symm h)]
theorem sl_same {d : Nat} {v : Value} (h : d < a.tmps.size) : sl (a.put (some d) v) d = v := by
  unfold sl Act.put
  simp [h]
theorem Fr.put {d : Nat} {v : Value} (h : Fr n b L a) (hb : b ≤ d) : Fr n b L (a.put (some d) v) :=
  ⟨by simp [Act.put, h.size], h.df, fun k hk => (sl_other (by omega)).trans (h.low k hk)⟩
theorem want_none (hg : o.guard = none) : Region.wanted o (yielded ops a.tmps) = true := by simp [Region.wanted, hg]
theorem yields_of {i d : Nat} {c : Bool} (hi : (ops[i]?).bind (·.dst) = some d) (hv : sl a d = .bool c) : yielded ops a.tmps i = some c := by
  unfold yielded
  rw [hi]
  unfold sl at hv
  rw [Array.getD_eq_getD_getElem?] at hv
  cases h : a.tmps[d]? with
  | none => rw [h] at hv; cases hv
  | some u => rw [h] at hv; simp only [Option.getD_some] at hv; subst hv; simp [h]
theorem yields_undef {i d : Nat} (hi : (ops[i]?).bind (·.dst) = some d) (hv : sl a d = undef) : yielded ops a.tmps i = none := by
  unfold yielded
  rw [hi]
  unfold sl at hv
  rw [Array.getD_eq_getD_getElem?] at hv
  cases h : a.tmps[d]? with
  | none => simp [h]
  | some u => rw [h] at hv; simp only [Option.getD_some] at hv; subst hv; simp [h, undef]
theorem want_yes {i d : Nat} {c : Bool} (hg : o.guard = some (i, c)) (hi : (ops[i]?).bind (·.dst) = some d) (hv : sl a d = .bool c) : Region.wanted o (yielded ops a.tmps) = true := by
  simp [Region.wanted, hg, yields_of hi hv]
theorem want_no {i d : Nat} {c e : Bool} (hg : o.guard = some (i, c)) (hi : (ops[i]?).bind (·.dst) = some d) (hv : sl a d = .bool e) (hne : e ≠ c) : Region.wanted o (yielded ops a.tmps) = false := by
  simp [Region.wanted, hg, yields_of hi hv, hne]
theorem want_undef {i d : Nat} {c : Bool} (hg : o.guard = some (i, c)) (hi : (ops[i]?).bind (·.dst) = some d) (hv : sl a d = undef) : Region.wanted o (yielded ops a.tmps) = false := by
  simp [Region.wanted, hg, yields_undef hi hv]

/-- an operation that makes v -/
theorem st_val {d : Nat} {v : Value} (hF : Fr n b L a) (hd : o.dst = some d) (hb : b ≤ d) (hn : d < n) (hw : Region.wanted o (yielded ops a.tmps) = true) (hr : (execOp a.eval o).run P w = .ok (.value v) w)
    (h : ∀ a', Fr n b L a' → (∀ k, k ≠ d → sl a' k = sl a k) → sl a' d = v → wpList P ops Q rest a' w) : wpList P ops Q (o :: rest) a w := by
  simp only [wpList, hw, if_true]
  refine .inl ?_
  unfold Oper.wp
  rw [hr]
  show wpList P ops Q rest (a.put o.dst v) w
  rw [hd]
  exact h _ (hF.put hb) (fun k hk => sl_other hk) (sl_same (by rw [hF.size]; exact hn))
/-- the last one: into a slot of the base -/
theorem st_last {d : Nat} {v : Value} (hF : Fr n b L a) (hd : o.dst = some d) (hn : d < n) (hw : Region.wanted o (yielded ops a.tmps) = true) (hr : (execOp a.eval o).run P w = .ok (.value v) w)
    (h : ∀ a', a'.defers = [] → sl a' d = v → Q .normal a' w) : wpList P ops Q [o] a w := by
  simp only [wpList, hw, if_true]
  refine .inl ?_
  unfold Oper.wp
  rw [hr]
  show wpList P ops Q [] (a.put o.dst v) w
  rw [hd]
  exact h _ hF.df (sl_same (by rw [hF.size]; exact hn))
/-- one that is not wanted -/
theorem st_skip {d : Nat} (hF : Fr n b L a) (hd : o.dst = some d) (hb : b ≤ d) (hn : d < n) (hw : Region.wanted o (yielded ops a.tmps) = false)
    (h : ∀ a', Fr n b L a' → (∀ k, k ≠ d → sl a' k = sl a k) → sl a' d = undef → wpList P ops Q rest a' w) : wpList P ops Q (o :: rest) a w := by
  simp only [wpList, hw, Bool.false_eq_true, if_false]
  rw [hd]
  exact h _ (hF.put hb) (fun k hk => sl_other hk) (sl_same (by rw [hF.size]; exact hn))
/-- a call -/
theorem st_call {d : Nat} {f : FuncId} {args : Array Value} {v : Value} {S : World → Prop} (hF : Fr n b L a) (hd : o.dst = some d) (hb : b ≤ d) (hn : d < n) (hw : Region.wanted o (yielded ops a.tmps) = true) (hr : (execOp a.eval o).run P w = .ok (.enter f args) w)
    (hc : Calls P f args w fun e w' => e = .returned v ∧ S w')
    (h : ∀ a' w', S w' → Fr n b L a' → (∀ k, k ≠ d → sl a' k = sl a k) → sl a' d = v → wpList P ops Q rest a' w') : wpList P ops Q (o :: rest) a w := by
  simp only [wpList, hw, if_true]
  refine .inl ?_
  unfold Oper.wp
  rw [hr]
  refine hc.mono fun e w' ⟨he, hS⟩ => ?_
  subst he
  show wpList P ops Q rest (a.put o.dst v) w'
  rw [hd]
  exact h _ _ hS (hF.put hb) (fun k hk => sl_other hk) (sl_same (by rw [hF.size]; exact hn))
theorem frame_named {l : List Oper} {a0 : Act} (h : ∀ a, a = a0 → wpList P ops Q l a w) : wpList P ops Q l a0 w := h _ rfl
theorem st_join (m : Nat) {l : List Oper} (C : Act → World → Prop) (h1 : ∀ a' w', C a' w' → wpList P ops Q (l.drop m) a' w') (h2 : (∀ a' w', C a' w' → wpList P ops Q (l.drop m) a' w') → wpList P ops Q l a w) : wpList P ops Q l a w := h2 h1

theorem ex_move {x : Operand} {v : Value} (ho : o.op = .move x) (hx : a.eval x = v) : (execOp a.eval o).run P w = .ok (.value v) w := by
  unfold execOp
  rw [ho]
  simp [hx]
theorem ex_assign {x : Operand} {v : Value} (ho : o.op = .assign x) (hx : a.eval x = v) : (execOp a.eval o).run P w = .ok (.value v) w := by
  unfold execOp
  rw [ho]
  simp [hx]
theorem ex_pick {c x y : Operand} {t : Bool} {v : Value} (ho : o.op = .pick c x y) (hc : a.eval c = .bool t) (hv : (if t then a.eval x else a.eval y) = v) : (execOp a.eval o).run P w = .ok (.value v) w := by
  unfold execOp
  rw [ho]
  cases t <;> simp_all [asBool]
theorem ex_cat {t ty : TypeId} {x y : Operand} (ho : o.op = .binOp .add t x y ty) {s1 s2 : ByteArray} (hx : a.eval x = .string s1) (hy : a.eval y = .string s2) (hs : s1.size + s2.size ≤ 9223372036854775807) : (execOp a.eval o).run P w = .ok (.value (.string (s1 ++ s2))) w := by
  unfold execOp
  rw [ho]
  have := run_string_add_sum (P := P) w s1 s2 hs
  simp [hx, hy, eqGuard, binOp, this]
theorem ex_add {t ty : TypeId} {x y : Operand} (ho : o.op = .binOp .add t x y ty) {p q r : Int} (hx : a.eval x = .int .i64 p) (hy : a.eval y = .int .i64 q) (hr : IntKind.i64.wrap (p + q) = r) : (execOp a.eval o).run P w = .ok (.value (.int .i64 r)) w := by
  unfold execOp
  rw [ho]
  subst hr
  simp [hx, hy, eqGuard, binOp, Op.intArith]
theorem ex_sub {t ty : TypeId} {x y : Operand} (ho : o.op = .binOp .sub t x y ty) {p q r : Int} (hx : a.eval x = .int .i64 p) (hy : a.eval y = .int .i64 q) (hr : IntKind.i64.wrap (p - q) = r) : (execOp a.eval o).run P w = .ok (.value (.int .i64 r)) w := by
  unfold execOp
  rw [ho]
  subst hr
  simp [hx, hy, eqGuard, binOp, Op.intArith]
theorem ex_mul {t ty : TypeId} {x y : Operand} (ho : o.op = .binOp .mul t x y ty) {p q r : Int} (hx : a.eval x = .int .i64 p) (hy : a.eval y = .int .i64 q) (hr : IntKind.i64.wrap (p * q) = r) : (execOp a.eval o).run P w = .ok (.value (.int .i64 r)) w := by
  unfold execOp
  rw [ho]
  subst hr
  simp [hx, hy, eqGuard, binOp, Op.intArith]
theorem ex_lss {t ty : TypeId} {x y : Operand} (ho : o.op = .binOp .lss t x y ty) {p q : Int} (hx : a.eval x = .int .i64 p) (hy : a.eval y = .int .i64 q) : (execOp a.eval o).run P w = .ok (.value (.bool (decide (p < q)))) w := by
  unfold execOp
  rw [ho]
  simp [hx, hy, eqGuard, binOp, Op.intCmp]
theorem ex_eql {t ty : TypeId} {x y : Operand} (ho : o.op = .binOp .eql t x y ty) {p q : Int} (hx : a.eval x = .int .i64 p) (hy : a.eval y = .int .i64 q) : (execOp a.eval o).run P w = .ok (.value (.bool (decide (p = q)))) w := by
  unfold execOp
  rw [ho]
  simp [hx, hy, eqGuard, binOp, Op.intCmp]
  by_cases h : p = q <;> simp [h]
theorem ex_neq {t ty : TypeId} {x y : Operand} (ho : o.op = .binOp .neq t x y ty) {p q : Int} (hx : a.eval x = .int .i64 p) (hy : a.eval y = .int .i64 q) : (execOp a.eval o).run P w = .ok (.value (.bool (!decide (p = q)))) w := by
  unfold execOp
  rw [ho]
  simp [hx, hy, eqGuard, binOp, Op.intCmp]
  by_cases h : p = q <;> simp [h]
theorem ex_quo {t ty : TypeId} {x y : Operand} (ho : o.op = .binOp .quo t x y ty) {p q r : Int} (hx : a.eval x = .int .i64 p) (hy : a.eval y = .int .i64 q) (h0 : ¬ q = 0) (hr : IntKind.i64.wrap (p.tdiv q) = r) : (execOp a.eval o).run P w = .ok (.value (.int .i64 r)) w := by
  unfold execOp
  rw [ho]
  subst hr
  simp [hx, hy, eqGuard, binOp, Op.intDiv, h0]
theorem ex_rem {t ty : TypeId} {x y : Operand} (ho : o.op = .binOp .rem t x y ty) {p q r : Int} (hx : a.eval x = .int .i64 p) (hy : a.eval y = .int .i64 q) (h0 : ¬ q = 0) (hr : p.tmod q = r) : (execOp a.eval o).run P w = .ok (.value (.int .i64 r)) w := by
  unfold execOp
  rw [ho]
  subst hr
  simp [hx, hy, eqGuard, binOp, Op.intDiv, h0]
theorem ex_neg {t : TypeId} {x : Operand} (ho : o.op = .unOp .neg t x) {p r : Int} (hx : a.eval x = .int .i64 p) (hr : IntKind.i64.wrap (-p) = r) : (execOp a.eval o).run P w = .ok (.value (.int .i64 r)) w := by
  unfold execOp
  rw [ho]
  subst hr
  simp [hx, Op.unary, Op.intArith]
theorem ex_call {x : Operand} {xs : Array Operand} {ats : Array TypeId} (ho : o.op = .call { callee := .value x, args := xs, argTypes := ats }) {f : FuncId} (hx : a.eval x = .func (.func f) #[] #[]) {args : Array Value} (ha : xs.map a.eval = args) (hf : ∀ (args : Array Value) (w : World), (callFunc f args).run P w = .ok (.enter f args) w) : (execOp a.eval o).run P w = .ok (.enter f args) w := by
  rw [← hf args w]
  unfold execOp
  simp only [ho, resolve, hx, ha]
  simp [Deferred.ofValue, invoke]
end
end Go.Proofs.Ytekpopopibhjbaa
