/-
  A tap as data: opened, shut. No theorem of a claim stands here.
-/
import Derived.Test.YtbcjgjdkapdihabOpen
import Derived.Test.YtbcjgjdkapdihabRows
set_option linter.unusedVariables false
set_option linter.unusedSimpArgs false
set_option maxRecDepth 8000
namespace Go.Proofs.Ytbcjgjdkapdihab.Fl
open Go Go.RowKit Go.ChangeShapes Go.WideShapes Go.Deep

theorem cT : Try.prog.cellsOf 34 = 5 := by kernel_rfl
theorem cI : Try.prog.cellsOf 2 = 1 := by kernel_rfl
theorem cF : Try.prog.cellsOf 30 = 1 := by kernel_rfl
section
variable {H : Type} {enc : TypeId × Value → H} {w : World} {base : Nat} {spare : Nat → Bool} {held : Bool}

theorem trod_floatA {t : TypeId} {k : FloatKind} {n : Nat} {cs : List Value} {y : DataW H × List MemPlace} (ht : Try.prog.underlying t = some (.float k)) (h : DataW.trod enc Try.prog w base spare held n t cs = some y) :
    ∃ b, cs = [.float k b] ∧ y = (.lit (.float k b), []) ∧ b < 2 ^ k.format.width := by
  cases n with
  | zero => simp [DataW.trod] at h
  | succ n =>
    simp only [DataW.trod, ht] at h
    split at h
    all_goals first | (cases h; done) | skip
    all_goals simp_all
    first | exact ⟨h.2.symm, lt_of_wf h.1.2⟩ | exact lt_of_wf h.1.2 | exact lt_of_wf h.2 | exact lt_of_wf h
/-- The cells of a tap, read as data. -/
theorem tap_trod {fuel : Nat} {cs : List Value} {r : DataW H × List MemPlace} (h : DataW.trod enc Try.prog w base spare held fuel 34 cs = some r) :
    ∃ (b x y z : Int) (e : Nat), cs = [.int .i64 b, .int .i64 x, .int .i64 y, .int .i64 z, .float .f32 e] ∧ r = (.agg [.lit (.int .i64 b), .lit (.int .i64 x), .lit (.int .i64 y), .lit (.int .i64 z), .lit (.float .f32 e)], []) ∧
      (Lit.int .i64 b).wf = true ∧ (Lit.int .i64 x).wf = true ∧ (Lit.int .i64 y).wf = true ∧ (Lit.int .i64 z).wf = true ∧ e < 2 ^ 32 := by
  obtain ⟨xs, n, _, rfl, hl, hlen, hf⟩ := DataW.trod_struct Try.underlying34 h
  rw [cT] at hl
  match cs, hl with
  | [c0, c1, c2, c3, c4], _ =>
  match xs, hlen with
  | [y0, y1, y2, y3, y4], _ =>
  have h0 := hf 0 _ rfl
  have h1 := hf 1 _ rfl
  have h2 := hf 2 _ rfl
  have h3 := hf 3 _ rfl
  have h4 := hf 4 _ rfl
  simp [cI, cF] at h0 h1 h2 h3 h4
  obtain ⟨b, e0, rfl, w0⟩ := DataW.trod_int Try.underlying2 h0
  obtain ⟨x, e1, rfl, w1⟩ := DataW.trod_int Try.underlying2 h1
  obtain ⟨y, e2, rfl, w2⟩ := DataW.trod_int Try.underlying2 h2
  obtain ⟨z, e3, rfl, w3⟩ := DataW.trod_int Try.underlying2 h3
  obtain ⟨e, e4, rfl, w4⟩ := trod_floatA Try.underlying30 h4
  simp at e0 e1 e2 e3 e4
  subst e0 e1 e2 e3 e4
  exact ⟨b, x, y, z, e, rfl, by simp, w0, w1, w2, w3, w4⟩
theorem tap_trod_mk (m : Nat) {b x y z : Int} {e : Nat} (wb : (Lit.int .i64 b).wf = true) (wx : (Lit.int .i64 x).wf = true) (wy : (Lit.int .i64 y).wf = true) (wz : (Lit.int .i64 z).wf = true) (we : e < 2 ^ 32) :
    DataW.trod enc Try.prog w base spare held (m + 1 + 1) 34 [.int .i64 b, .int .i64 x, .int .i64 y, .int .i64 z, .float .f32 e] = some (.agg [.lit (.int .i64 b), .lit (.int .i64 x), .lit (.int .i64 y), .lit (.int .i64 z), .lit (.float .f32 e)], []) := by
  have f0 : ∀ {n : Int}, (Lit.int .i64 n).wf = true → DataW.trod enc Try.prog w base spare held (m + 1) 2 [.int .i64 n] = some (.lit (.int .i64 n), []) := fun hw => by simp [DataW.trod, Try.underlying2, hw]
  have f4 : DataW.trod enc Try.prog w base spare held (m + 1) 30 [.float .f32 e] = some (.lit (.float .f32 e), []) := by simp [DataW.trod, Try.underlying30, wf_of_lt .f32 e we]
  have := trod_struct_mk (enc := enc) (w := w) (base := base) (spare := spare) (held := held) (n := m + 1) (cs := [.int .i64 b, .int .i64 x, .int .i64 y, .int .i64 z, .float .f32 e]) (xs := [(.lit (.int .i64 b), []), (.lit (.int .i64 x), []), (.lit (.int .i64 y), []), (.lit (.int .i64 z), []), (.lit (.float .f32 e), [])]) Try.underlying34 (by simp [cT])
    (by simp [cI, cF, f0 wb, f0 wx, f0 wy, f0 wz, f4])
  simpa using this
end
theorem open_tap {H : Type} {enc : TypeId × Value → H} {W : World} {b0 : Nat} {v : Value} {d : DataW H} {p : List MemPlace} (hv : Value.okWide Try.prog W .any b0 34 v) (h : DataW.Trod enc Try.prog W 0 (fun _ => true) true 34 v d p) :
    ∃ (b x y z : Int) (e : Nat), v = .agg #[.int .i64 b, .int .i64 x, .int .i64 y, .int .i64 z, .float .f32 e] ∧ d = .agg [.lit (.int .i64 b), .lit (.int .i64 x), .lit (.int .i64 y), .lit (.int .i64 z), .lit (.float .f32 e)] ∧ p = [] ∧
      (Lit.int .i64 b).wf = true ∧ (Lit.int .i64 x).wf = true ∧ (Lit.int .i64 y).wf = true ∧ (Lit.int .i64 z).wf = true ∧ e < 2 ^ 32 := by
  obtain ⟨cs, rfl, hsz⟩ := okWide_struct Try.underlying34 hv
  obtain ⟨fuel, hf⟩ := h
  obtain ⟨b, x, y, z, e, e1, e2, w0, w1, w2, w3, w4⟩ := tap_trod hf
  simp only [Prod.mk.injEq] at e2
  obtain ⟨l⟩ := cs
  have e3 : l = [.int .i64 b, .int .i64 x, .int .i64 y, .int .i64 z, .float .f32 e] := by simpa [Value.cells] using e1
  subst e3
  exact ⟨b, x, y, z, e, rfl, e2.1, e2.2, w0, w1, w2, w3, w4⟩
theorem shut_tap {H : Type} {enc : TypeId × Value → H} {W : World} {base : Nat} {sp : Nat → Bool} {held : Bool} {b x y z : Int} {e : Nat} (wb : (Lit.int .i64 b).wf = true) (wx : (Lit.int .i64 x).wf = true) (wy : (Lit.int .i64 y).wf = true) (wz : (Lit.int .i64 z).wf = true) (we : e < 2 ^ 32) :
    DataW.Trod enc Try.prog W base sp held 34 (.agg #[.int .i64 b, .int .i64 x, .int .i64 y, .int .i64 z, .float .f32 e]) (.agg [.lit (.int .i64 b), .lit (.int .i64 x), .lit (.int .i64 y), .lit (.int .i64 z), .lit (.float .f32 e)]) [] := ⟨2, by
  have := tap_trod_mk (enc := enc) (w := W) (base := base) (spare := sp) (held := held) 0 wb wx wy wz we
  simpa [Value.cells] using this⟩
end Go.Proofs.Ytbcjgjdkapdihab.Fl
