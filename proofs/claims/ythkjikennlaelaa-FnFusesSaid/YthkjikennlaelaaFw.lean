/-
  The walk's own laws for floats: an operation's result is a new name, with what its value is up to which NaN it is. No theorem of a claim stands here.
-/
import Derived.Test.YthkjikennlaelaaFl
set_option linter.unusedSimpArgs false
namespace Go.Proofs.Ythkjikennlaelaa.Fl
open Go Go.RowKit

/-- What a function with a float result comes to: a value up to which NaN it is; the world but for draws. -/
def FRet (k : FloatKind) (v : Option Nat) (w : World) (e : Ending) (w' : World) : Prop :=
  ∃ r n, e = .returned (.float k r) ∧ vl k r = v ∧ r < 2 ^ k.format.width ∧ w' = w.drewN n

/-- The same of any other value. -/
def VRet (v : Value) (w : World) (e : Ending) (w' : World) : Prop := ∃ n, e = .returned v ∧ w' = w.drewN n

section
variable {P : Program} {o : Oper} {a : Act} {w : World} {Q : Exit → Act → World → Prop}

theorem wp_fop {K : Act → World → Prop} (op : BinOp) (t u : TypeId) (x y : Operand) (ho : o.op = .binOp op t x y u) (hop : arith op = true) (k : FloatKind) (bx cy : Nat)
    (hx : a.eval x = .float k bx) (hy : a.eval y = .float k cy)
    (h : ∀ r n, r < 2 ^ k.format.width → Hid (vl k r = fop op k (vl k bx) (vl k cy)) → K (a.put o.dst (.float k r)) (w.drewN n)) : o.wp P a w K Q := by
  obtain ⟨r, n, hr, h2, h3⟩ := run_fop (P := P) w op hop t k bx cy
  have hg : eqGuard op t x y (.float k bx) (.float k cy) = pure () := by cases op <;> first | rfl | cases hop
  unfold Oper.wp execOp
  simp only [ho, hx, hy, hg, Sem.run_bind, Sem.run_pure, Result.andThen_ok, hr]
  exact h r n h3 h2

theorem wpList_fop {ops : Array Oper} {rest : List Oper} (hgd : o.guard = none) (op : BinOp) (t u : TypeId) (x y : Operand) (ho : o.op = .binOp op t x y u) (hop : arith op = true) (k : FloatKind) (bx cy : Nat)
    (hx : a.eval x = .float k bx) (hy : a.eval y = .float k cy)
    (h : ∀ r n, r < 2 ^ k.format.width → Hid (vl k r = fop op k (vl k bx) (vl k cy)) → wpList P ops Q rest (a.put o.dst (.float k r)) (w.drewN n)) : wpList P ops Q (o :: rest) a w :=
  wpList_plain hgd fun _ hK => wp_fop op t u x y ho hop k bx cy hx hy fun r n h1 h2 => hK _ _ (h r n h1 h2)

theorem wp_fcv {K : Act → World → Prop} (src dst : TypeId) (x : Operand) (ho : o.op = .convert src dst x) (s d : FloatKind) (hs : (P.underlying src).isSome = true) (hd : P.underlying dst = some (.float d)) (bx : Nat)
    (hx : a.eval x = .float s bx) (hb : bx < 2 ^ s.format.width) (hov : over s d (vl s bx) = false)
    (h : ∀ r n, r < 2 ^ d.format.width → Hid (vl d r = fcv s d (vl s bx)) → K (a.put o.dst (.float d r)) (w.drewN n)) : o.wp P a w K Q := by
  obtain ⟨r, n, hr, h2, h3⟩ := run_fcv (P := P) w src dst s d hs hd bx hb hov
  unfold Oper.wp execOp
  simp only [ho, hx, Sem.run_bind, Sem.run_pure, Result.andThen_ok, hr]
  exact h r n h3 h2

theorem wpList_fcv {ops : Array Oper} {rest : List Oper} (hgd : o.guard = none) (src dst : TypeId) (x : Operand) (ho : o.op = .convert src dst x) (s d : FloatKind) (hs : (P.underlying src).isSome = true) (hd : P.underlying dst = some (.float d)) (bx : Nat)
    (hx : a.eval x = .float s bx) (hb : bx < 2 ^ s.format.width) (hov : over s d (vl s bx) = false)
    (h : ∀ r n, r < 2 ^ d.format.width → Hid (vl d r = fcv s d (vl s bx)) → wpList P ops Q rest (a.put o.dst (.float d r)) (w.drewN n)) : wpList P ops Q (o :: rest) a w :=
  wpList_plain hgd fun _ hK => wp_fcv src dst x ho s d hs hd bx hx hb hov fun r n h1 h2 => hK _ _ (h r n h1 h2)

theorem wpList_want {ops : Array Oper} {rest : List Oper} (hw : Region.wanted o (yielded ops a.tmps) = true)
    (h : ∀ K : Act → World → Prop, (∀ a w, wpList P ops Q rest a w → K a w) → o.wp P a w K Q) : wpList P ops Q (o :: rest) a w :=
  wpList_step fun K hK => by rw [if_pos hw]; exact h K hK

/-- The two laws under a guard that says yes. -/
theorem wpList_fop_g {ops : Array Oper} {rest : List Oper} (hw : Region.wanted o (yielded ops a.tmps) = true) (op : BinOp) (t u : TypeId) (x y : Operand) (ho : o.op = .binOp op t x y u) (hop : arith op = true) (k : FloatKind) (bx cy : Nat)
    (hx : a.eval x = .float k bx) (hy : a.eval y = .float k cy)
    (h : ∀ r n, r < 2 ^ k.format.width → Hid (vl k r = fop op k (vl k bx) (vl k cy)) → wpList P ops Q rest (a.put o.dst (.float k r)) (w.drewN n)) : wpList P ops Q (o :: rest) a w :=
  wpList_want hw fun _ hK => wp_fop op t u x y ho hop k bx cy hx hy fun r n h1 h2 => hK _ _ (h r n h1 h2)

theorem wpList_fcv_g {ops : Array Oper} {rest : List Oper} (hw : Region.wanted o (yielded ops a.tmps) = true) (src dst : TypeId) (x : Operand) (ho : o.op = .convert src dst x) (s d : FloatKind) (hs : (P.underlying src).isSome = true) (hd : P.underlying dst = some (.float d)) (bx : Nat)
    (hx : a.eval x = .float s bx) (hb : bx < 2 ^ s.format.width) (hov : over s d (vl s bx) = false)
    (h : ∀ r n, r < 2 ^ d.format.width → Hid (vl d r = fcv s d (vl s bx)) → wpList P ops Q rest (a.put o.dst (.float d r)) (w.drewN n)) : wpList P ops Q (o :: rest) a w :=
  wpList_want hw fun _ hK => wp_fcv src dst x ho s d hs hd bx hx hb hov fun r n h1 h2 => hK _ _ (h r n h1 h2)
end

/-- The four operations as an equation on the run: the value, and how many draws (one, where the result is a NaN). -/
def fov (op : BinOp) (k : FloatKind) (x y : Nat) (w : World) : Nat := match floatBits op k x y with
  | some r => r
  | none => (Question.nanBits k x y).cut (w.tape w.drawn (.nanBits k x y))
def fon (op : BinOp) (k : FloatKind) (x y : Nat) : Nat := match floatBits op k x y with
  | some _ => 0
  | none => 1

theorem run_fov {P : Program} (op : BinOp) (hop : arith op = true) (t : TypeId) (k : FloatKind) (x y : Nat) (w : World) :
    (binOp op t (.float k x) (.float k y)).run P w = .ok (.float k (fov op k x y w)) (w.drewN (fon op k x y)) := by
  unfold fov fon
  cases h : floatBits op k x y with
  | some r => exact run_float_arith w op t k x y r h
  | none =>
    unfold floatBits at h
    cases op <;> simp only [arith] at hop <;> first | (cases hop; done) | skip
    all_goals simp only at h
    all_goals simp [binOp, Op.floatArith, h, Question.forced, World.drew_is_drewN]

theorem vl_fov (op : BinOp) (k : FloatKind) (x y : Nat) (w : World) : vl k (fov op k x y w) = fop op k (vl k x) (vl k y) := by
  unfold fov
  cases h : floatBits op k x y with
  | some r => rw [← floatBits_vl, h]; exact (floatBits_nan h).1
  | none => rw [← floatBits_vl, h]; exact (cut_nan k x y _).1

theorem fov_lt (op : BinOp) (k : FloatKind) (x y : Nat) (w : World) : fov op k x y w < 2 ^ k.format.width := by
  unfold fov
  cases h : floatBits op k x y with
  | some r => exact lt_of_wf (floatBits_wf h)
  | none => exact (cut_nan k x y _).2

/-- How two floats stand to each other hangs on their values up to NaN alone. -/
def ford (k : FloatKind) (x y : Option Nat) : Option Ordering := x.bind fun a => y.bind fun b => k.format.order a b

theorem order_nan {x y : Ieee.Datum} (h : x.isNaN = true ∨ y.isNaN = true) : x.order y = none := by
  cases x <;> cases y <;> simp [Ieee.Datum.isNaN] at h <;> rfl

theorem order_vl (k : FloatKind) (x y : Nat) : k.format.order x y = ford k (vl k x) (vl k y) := by
  unfold ford vl
  cases hx : (k.decode x).isNaN
  · cases hy : (k.decode y).isNaN
    · rfl
    · exact order_nan (.inr hy)
  · exact order_nan (.inl hx)
end Go.Proofs.Ythkjikennlaelaa.Fl
