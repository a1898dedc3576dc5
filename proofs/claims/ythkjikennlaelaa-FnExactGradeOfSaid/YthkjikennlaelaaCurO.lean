/-
  Curves and fuses as data: opened, shut. No theorem of a claim stands here.
-/
import Derived.Test.YthkjikennlaelaaOpen
import Derived.Test.YthkjikennlaelaaRowF
import Derived.Test.YthkjikennlaelaaSum
import Derived.Test.YthkjikennlaelaaRows
set_option linter.unusedVariables false
set_option linter.unusedSimpArgs false
set_option maxRecDepth 8000
namespace Go.Proofs.Ythkjikennlaelaa.Fl
open Go Go.RowKit Go.ChangeShapes Go.WideShapes Go.Deep Go.Proofs.Ythkjikennlaelaa

theorem fRd_ofR {w : World} {a : Option Addr} {len cap : Nat} {zs : List Nat} (h : IsRowF .f32 w a len cap zs) : FRd w a len cap (zs.take len) := by
  refine ⟨row_len h, ?_, fun k hk => ?_, fun n hn => row_lt h n (List.mem_of_mem_take hn)⟩
  · rcases h with ⟨_, rfl, rfl, _⟩ | ⟨x, _, h2, _⟩
    · exact Nat.le_refl _
    · exact h2
  · obtain ⟨b, o, e, _, hc, hb⟩ := rowF_cell h hk
    exact ⟨b, o, e, hc, hb⟩
theorem row_small {w : World} {a : Option Addr} {len cap : Nat} {zs : List Nat} (h : IsRowF .f32 w a len cap zs) : len ≤ 9223372036854775807 := by
  rcases h with ⟨_, rfl, _, _⟩ | ⟨x, _, h2, h3, _⟩
  · omega
  · unfold maxLen at h3; omega
section
variable {H : Type} {enc : TypeId × Value → H} {w : World} {base : Nat} {held : Bool}
theorem trod_float2 {t : TypeId} {k : FloatKind} {spare : Nat → Bool} {n : Nat} {cs : List Value} {y : DataW H × List MemPlace} (ht : Try.prog.underlying t = some (.float k)) (h : DataW.trod enc Try.prog w base spare held n t cs = some y) :
    ∃ b, cs = [.float k b] ∧ y = (.lit (.float k b), []) ∧ b < 2 ^ k.format.width := by
  cases n with
  | zero => simp [DataW.trod] at h
  | succ n =>
    simp only [DataW.trod, ht] at h
    split at h
    all_goals first | (cases h; done) | skip
    all_goals simp_all
    first | exact ⟨h.2.symm, lt_of_wf h.1.2⟩ | exact lt_of_wf h.1.2 | exact lt_of_wf h.2 | exact lt_of_wf h
/-- A slice of floats that is read as data: it is one cell, and a row. -/
theorem trod_row {fuel : Nat} {cs : List Value} {x : DataW H × List MemPlace} (h : DataW.trod enc Try.prog w base (fun _ => true) held fuel 24 cs = some x) : ∃ a len cap zs, cs = [.slice a len cap] ∧ IsRowF .f32 w a len cap zs := by
  have h0 := h
  rcases open_slice Try.underlying24 h with ⟨hcs, _⟩ | ⟨b, l, c, m, n, D, Pl, hcs, _⟩
  · subst hcs
    obtain ⟨zs, hz⟩ := isRowF_of (a := none) (len := 0) (cap := 0) Try.underlying24 Try.underlying28 (by kernel_rfl) h0
    exact ⟨none, 0, 0, zs, rfl, hz⟩
  · subst hcs
    obtain ⟨zs, hz⟩ := isRowF_of (a := some b) (len := l) (cap := c) Try.underlying24 Try.underlying28 (by kernel_rfl) h0
    exact ⟨some b, l, c, zs, rfl, hz⟩
theorem cC : Try.prog.cellsOf 45 = 2 := by kernel_rfl
theorem cS : Try.prog.cellsOf 24 = 1 := by kernel_rfl
theorem open_curve {W : World} {b0 : Nat} {v : Value} {d : DataW H} {p : List MemPlace} (hv : Value.okWide Try.prog W .any b0 45 v) (h : DataW.Trod enc Try.prog W 0 (fun _ => true) true 45 v d p) :
    ∃ a n c C b m e T, v = .agg #[.slice a n c, .slice b m e] ∧ FRd W a n c C ∧ FRd W b m e T ∧ n ≤ 9223372036854775807 ∧ m ≤ 9223372036854775807 := by
  obtain ⟨cs, rfl, hsz⟩ := okWide_struct Try.underlying45 hv
  obtain ⟨fuel, hf⟩ := h
  obtain ⟨xs, n, _, e2, hl, hlen, hg⟩ := DataW.trod_struct Try.underlying45 hf
  rw [cC] at hl
  obtain ⟨l⟩ := cs
  simp only [Value.cells] at hl hg
  match l, hl with
  | [c0, c1], _ =>
  match xs, hlen with
  | [y0, y1], _ =>
  have h0 := hg 0 _ rfl
  have h1 := hg 1 _ rfl
  simp [cS] at h0 h1
  obtain ⟨a, n, c, z0, e0, r0⟩ := trod_row h0
  obtain ⟨b, m, e, z1, e1, r1⟩ := trod_row h1
  simp at e0 e1
  subst e0 e1
  exact ⟨a, n, c, _, b, m, e, _, rfl, fRd_ofR r0, fRd_ofR r1, row_small r0, row_small r1⟩
theorem cU : Try.prog.cellsOf 57 = 3 := by kernel_rfl
theorem cF1 : Try.prog.cellsOf 28 = 1 := by kernel_rfl
theorem open_fuse {W : World} {b0 : Nat} {v : Value} {d : DataW H} {p : List MemPlace} (hv : Value.okWide Try.prog W .any b0 57 v) (h : DataW.Trod enc Try.prog W 0 (fun _ => true) true 57 v d p) :
    ∃ x y z, v = .agg #[.float .f32 x, .float .f32 y, .float .f32 z] ∧ d = .agg [.lit (.float .f32 x), .lit (.float .f32 y), .lit (.float .f32 z)] ∧ p = [] ∧ x < 2 ^ 32 ∧ y < 2 ^ 32 ∧ z < 2 ^ 32 := by
  obtain ⟨cs, rfl, hsz⟩ := okWide_struct Try.underlying57 hv
  obtain ⟨fuel, hf⟩ := h
  obtain ⟨xs, n, _, e2, hl, hlen, hg⟩ := DataW.trod_struct Try.underlying57 hf
  rw [cU] at hl
  obtain ⟨l⟩ := cs
  simp only [Value.cells] at hl hg
  match l, hl with
  | [c0, c1, c2], _ =>
  match xs, hlen with
  | [y0, y1, y2], _ =>
  have h0 := hg 0 _ rfl
  have h1 := hg 1 _ rfl
  have h2 := hg 2 _ rfl
  simp [cF1] at h0 h1 h2
  obtain ⟨x, e0, rfl, l0⟩ := trod_float2 Try.underlying28 h0
  obtain ⟨y, e1, rfl, l1⟩ := trod_float2 Try.underlying28 h1
  obtain ⟨z, e2', rfl, l2⟩ := trod_float2 Try.underlying28 h2
  simp at e0 e1 e2'
  subst e0 e1 e2'
  simp only [Prod.mk.injEq] at e2
  exact ⟨x, y, z, rfl, by simpa using e2.1, by simpa using e2.2, l0, l1, l2⟩
theorem shut_fuse {W : World} {base : Nat} {sp : Nat → Bool} {held : Bool} {x y z : Nat} (wx : x < 2 ^ 32) (wy : y < 2 ^ 32) (wz : z < 2 ^ 32) :
    DataW.Trod enc Try.prog W base sp held 57 (.agg #[.float .f32 x, .float .f32 y, .float .f32 z]) (.agg [.lit (.float .f32 x), .lit (.float .f32 y), .lit (.float .f32 z)]) [] := ⟨2, by
  have f4 : ∀ {e : Nat}, e < 2 ^ 32 → DataW.trod enc Try.prog W base sp held 1 28 [.float .f32 e] = some (.lit (.float .f32 e), []) := fun we => by simp [DataW.trod, Try.underlying28, wf_of_lt .f32 _ we]
  have := trod_struct_mk (enc := enc) (w := W) (base := base) (spare := sp) (held := held) (n := 1) (cs := [.float .f32 x, .float .f32 y, .float .f32 z]) (xs := [(.lit (.float .f32 x), []), (.lit (.float .f32 y), []), (.lit (.float .f32 z), [])]) Try.underlying57 (by simp [cU])
    (by simp [cF1, f4 wx, f4 wy, f4 wz])
  simpa [Value.cells] using this⟩
end
end Go.Proofs.Ythkjikennlaelaa.Fl
