/-
  Plain facts on floats, no program: what '+', '-', '*', '/' and the conversions give, up to which NaN it is. No theorem of a claim stands here.
-/
import Derived.WalkLawsBesides
import Derived.WalkKit
import Derived.Deep.Draws
set_option linter.unusedSimpArgs false
namespace Go.Proofs.Ythkjikennlaelaa.Fl
open Go Go.RowKit

theorem w32 : FloatKind.f32.format.width = 32 := rfl
theorem w64 : FloatKind.f64.format.width = 64 := rfl

theorem lt_of_wf {k : FloatKind} {b : Nat} (h : (Lit.float k b).wf = true) : b < 2 ^ k.format.width := by
  cases k
  · rw [w32]; simpa [Lit.wf] using h
  · rw [w64]; simpa [Lit.wf] using h

/-- A float's bits, up to which NaN it is: 'none' for every NaN. -/
def vl (k : FloatKind) (b : Nat) : Option Nat := if (k.decode b).isNaN then none else some b

theorem word_mod (f : Ieee.Format) (neg : Bool) {r : Nat} (h : r < f.signWeight) : f.word neg r % f.signWeight = r := by
  unfold Ieee.Format.word
  split
  · rw [Nat.add_mod_left, Nat.mod_eq_of_lt h]
  · exact Nat.mod_eq_of_lt h

theorem word_neg (f : Ieee.Format) (neg : Bool) {r : Nat} (h : r < f.signWeight) : (f.word neg r / f.signWeight % 2 == 1) = neg := by
  have hp : 0 < f.signWeight := by omega
  unfold Ieee.Format.word
  cases neg
  · simp [Nat.div_eq_of_lt h]
  · simp [Nat.add_div_left _ hp, Nat.div_eq_of_lt h]

theorem binade_le (k : FloatKind) : k.format.binade ≤ k.format.infRung := by cases k <;> decide

theorem isNaN_read (k : FloatKind) (w : Nat) : (k.format.read w).isNaN = decide (k.format.infRung < w % k.format.signWeight) := by
  have hb := binade_le k
  unfold Ieee.Format.read
  simp only
  split
  · simp [Ieee.Datum.isNaN]; omega
  · split
    · simp [Ieee.Datum.isNaN]; omega
    · split
      · rename_i h; simp [Ieee.Datum.isNaN, h]
      · simp [Ieee.Datum.isNaN]; omega

theorem rung_le_inf (k : FloatKind) (d : Ieee.Datum) (h : d.isNaN = false) : k.format.write d % k.format.signWeight ≤ k.format.infRung := by
  have hi := k.format.infRung_lt
  cases d with
  | number neg mag place =>
    simp only [Ieee.Format.write, Ieee.Format.nearest]
    split
    · rw [word_mod _ _ (by omega)]; omega
    · rw [word_mod]
      · exact Nat.min_le_right _ _
      · exact Nat.lt_of_le_of_lt (Nat.min_le_right _ _) hi
  | infinity neg => simp only [Ieee.Format.write]; rw [word_mod _ _ hi]; exact Nat.le_refl _
  | nan neg fr => simp [Ieee.Datum.isNaN] at h

theorem vl_write (k : FloatKind) (d : Ieee.Datum) (h : d.isNaN = false) : vl k (k.format.write d) = some (k.format.write d) := by
  unfold vl
  have h2 := rung_le_inf k d h
  have h1 : (k.decode (k.format.write d)).isNaN = false := by
    show (k.format.read (k.format.write d)).isNaN = false
    rw [isNaN_read]; simp; exact h2
  rw [h1]; rfl

theorem sum_nan {x y d : Ieee.Datum} (h : x.sum y = some d) : d.isNaN = false ∧ x.isNaN = false ∧ y.isNaN = false := by
  cases x <;> cases y <;> simp only [Ieee.Datum.sum] at h <;> first | (cases h; done) | skip
  all_goals first | (split at h <;> first | (cases h; done) | (cases h; simp [Ieee.Datum.isNaN])) | (cases h; simp [Ieee.Datum.isNaN])

theorem product_nan {x y d : Ieee.Datum} (h : x.product y = some d) : d.isNaN = false ∧ x.isNaN = false ∧ y.isNaN = false := by
  cases x <;> cases y <;> simp only [Ieee.Datum.product] at h <;> first | (cases h; done) | skip
  all_goals first | (split at h <;> first | (cases h; done) | (cases h; simp [Ieee.Datum.isNaN])) | (cases h; simp [Ieee.Datum.isNaN])

theorem quotient_nan {n : Nat} {x y d : Ieee.Datum} (h : x.quotient n y = some d) : d.isNaN = false ∧ x.isNaN = false ∧ y.isNaN = false := by
  cases x <;> cases y <;> simp only [Ieee.Datum.quotient] at h <;> first | (cases h; done) | skip
  all_goals first | (split at h <;> first | (split at h <;> first | (cases h; done) | (cases h; simp [Ieee.Datum.isNaN])) | (cases h; done) | (cases h; simp [Ieee.Datum.isNaN])) | (cases h; simp [Ieee.Datum.isNaN])

theorem root_nan {n : Nat} {x d : Ieee.Datum} (h : x.root n = some d) : d.isNaN = false ∧ x.isNaN = false := by
  cases x <;> simp only [Ieee.Datum.root] at h <;> first | (cases h; done) | skip
  all_goals first | (split at h <;> first | (split at h <;> first | (cases h; done) | (cases h; simp [Ieee.Datum.isNaN])) | (cases h; done) | (cases h; simp [Ieee.Datum.isNaN])) | (cases h; simp [Ieee.Datum.isNaN])

theorem opposite_nan (x : Ieee.Datum) : x.opposite.isNaN = x.isNaN := by cases x <;> rfl

theorem map_write {k : FloatKind} {o : Option Ieee.Datum} {r : Nat} (h : o.map k.format.write = some r) (hn : ∀ d, o = some d → d.isNaN = false) : vl k r = some r := by
  cases o with
  | none => cases h
  | some d => cases h; exact vl_write k d (hn d rfl)

/-- The four operations on bits, over values up to which NaN. -/
def fop (op : BinOp) (k : FloatKind) (x y : Option Nat) : Option Nat := x.bind fun a => y.bind fun b => floatBits op k a b

theorem floatBits_nan {op : BinOp} {k : FloatKind} {x y r : Nat} (h : floatBits op k x y = some r) : vl k r = some r ∧ vl k x = some x ∧ vl k y = some y := by
  have key : ∀ {o : Option Ieee.Datum}, o.map k.format.write = some r → (∀ d, o = some d → d.isNaN = false ∧ (k.decode x).isNaN = false ∧ (k.decode y).isNaN = false) → vl k r = some r ∧ vl k x = some x ∧ vl k y = some y := by
    intro o ho hn
    cases o with
    | none => cases ho
    | some d =>
      obtain ⟨h1, h2, h3⟩ := hn d rfl
      exact ⟨map_write ho fun d' hd => by cases hd; exact h1, by simp [vl, h2], by simp [vl, h3]⟩
  unfold floatBits at h
  split at h
  · exact key h fun d hd => sum_nan hd
  · exact key h fun d hd => by have := sum_nan hd; rw [opposite_nan] at this; exact this
  · exact key h fun d hd => product_nan hd
  · exact key h fun d hd => quotient_nan hd
  · cases h

theorem floatBits_vl (op : BinOp) (k : FloatKind) (x y : Nat) : floatBits op k x y = fop op k (vl k x) (vl k y) := by
  cases h : floatBits op k x y with
  | some r => obtain ⟨_, h1, h2⟩ := floatBits_nan h; simp [fop, h1, h2, h]
  | none => 
    unfold fop vl
    split <;> split <;> simp [h]

theorem vl_fop {op : BinOp} {k : FloatKind} {x y : Option Nat} {r : Nat} (h : fop op k x y = some r) : vl k r = some r := by
  unfold fop at h
  cases x <;> cases y <;> simp at h
  exact (floatBits_nan h).1

theorem vl_some {k : FloatKind} {x r : Nat} (h : vl k x = some r) : x = r := by
  unfold vl at h; split at h <;> simp_all

theorem cut_nan32 (x y t : Nat) : vl .f32 ((Question.nanBits .f32 x y).cut t) = none ∧ (Question.nanBits .f32 x y).cut t < 2 ^ 32 := by
  have h1 : (t / 2) % 8388607 < 8388607 := Nat.mod_lt _ (by omega)
  have e : (Question.nanBits .f32 x y).cut t = (t % 2) * 2147483648 + 2139095040 + 1 + (t / 2) % 8388607 := rfl
  rw [e]
  refine ⟨?_, by omega⟩
  unfold vl
  rw [show (FloatKind.f32.decode ((t % 2) * 2147483648 + 2139095040 + 1 + (t / 2) % 8388607)).isNaN = true from ?_]; rfl
  show (FloatKind.f32.format.read _).isNaN = true
  rw [isNaN_read, show FloatKind.f32.format.infRung = 2139095040 from by decide, show FloatKind.f32.format.signWeight = 2147483648 from by decide]
  simp only [decide_eq_true_eq]
  rcases Nat.mod_two_eq_zero_or_one t with h | h <;> rw [h] <;> omega

theorem cut_nan64 (x y t : Nat) : vl .f64 ((Question.nanBits .f64 x y).cut t) = none ∧ (Question.nanBits .f64 x y).cut t < 2 ^ 64 := by
  have h1 : (t / 2) % 4503599627370495 < 4503599627370495 := Nat.mod_lt _ (by omega)
  have e : (Question.nanBits .f64 x y).cut t = (t % 2) * 9223372036854775808 + 9218868437227405312 + 1 + (t / 2) % 4503599627370495 := rfl
  rw [e]
  refine ⟨?_, by omega⟩
  unfold vl
  rw [show (FloatKind.f64.decode ((t % 2) * 9223372036854775808 + 9218868437227405312 + 1 + (t / 2) % 4503599627370495)).isNaN = true from ?_]; rfl
  show (FloatKind.f64.format.read _).isNaN = true
  rw [isNaN_read, show FloatKind.f64.format.infRung = 9218868437227405312 from by decide, show FloatKind.f64.format.signWeight = 9223372036854775808 from by decide]
  simp only [decide_eq_true_eq]
  rcases Nat.mod_two_eq_zero_or_one t with h | h <;> rw [h] <;> omega

theorem cut_nan (k : FloatKind) (x y t : Nat) : vl k ((Question.nanBits k x y).cut t) = none ∧ (Question.nanBits k x y).cut t < 2 ^ k.format.width := by
  cases k
  · exact cut_nan32 x y t
  · exact cut_nan64 x y t

theorem cut_conv (k : FloatKind) (x t : Nat) : vl k ((Question.nanConv k x).cut t) = none ∧ (Question.nanConv k x).cut t < 2 ^ k.format.width := by
  cases k
  · exact cut_nan32 x x t
  · exact cut_nan64 x x t

def arith (op : BinOp) : Bool := op matches .add | .sub | .mul | .quo

theorem run_fop {P : Program} (w : World) (op : BinOp) (hop : arith op = true) (t : TypeId) (k : FloatKind) (x y : Nat) :
    ∃ r n, (binOp op t (.float k x) (.float k y)).run P w = .ok (.float k r) (w.drewN n) ∧ vl k r = fop op k (vl k x) (vl k y) ∧ r < 2 ^ k.format.width := by
  cases h : floatBits op k x y with
  | some r =>
    refine ⟨r, 0, run_float_arith w op t k x y r h, ?_, ?_⟩
    · rw [← floatBits_vl, h]; exact (floatBits_nan h).1
    · exact lt_of_wf (floatBits_wf h)
  | none =>
    refine ⟨(Question.nanBits k x y).cut (w.tape w.drawn (.nanBits k x y)), 1, ?_, ?_, (cut_nan k x y _).2⟩
    · unfold floatBits at h
      cases op <;> simp only [arith] at hop <;> first | (cases hop; done) | skip
      all_goals simp only at h
      all_goals simp [binOp, Op.floatArith, h, run_choose_drew, Question.forced, World.drew_is_drewN]
    · rw [← floatBits_vl, h]; exact (cut_nan k x y _).1

/-- 'float64(x)' ¦ 'float32(x)': the value, unless it is too great for the narrower kind. -/
def fcv (s d : FloatKind) (x : Option Nat) : Option Nat := x.bind fun a => floatToFloatBits s a d
/-- A finite number that is too great for the narrower kind: there the language leaves the result open. -/
def over (s d : FloatKind) (x : Option Nat) : Bool := x.any fun a => decide (s ≠ d) && !(s.decode a).isInfinity && (d.decode (d.encode (s.decode a))).isInfinity

theorem run_fcv {P : Program} (w : World) (src dst : TypeId) (s d : FloatKind) (hs : (P.underlying src).isSome = true) (hd : P.underlying dst = some (.float d)) (x : Nat) (hx : x < 2 ^ s.format.width)
    (ho : over s d (vl s x) = false) :
    ∃ r n, (convert src dst (.float s x)).run P w = .ok (.float d r) (w.drewN n) ∧ vl d r = fcv s d (vl s x) ∧ r < 2 ^ d.format.width := by
  by_cases e : s = d
  · subst e
    refine ⟨x, 0, run_convert_float_float w src dst s s x x hs hd (by simp [floatToFloatBits]), ?_, hx⟩
    unfold fcv vl; split <;> simp [floatToFloatBits]
  cases hn : (s.decode x).isNaN with
  | true =>
    have hv : vl s x = none := by simp [vl, hn]
    obtain ⟨u, hs'⟩ := Option.isSome_iff_exists.1 hs
    refine ⟨(Question.nanConv d x).cut (w.tape w.drawn (.nanConv d x)), 1, ?_, ?_, (cut_conv d x _).2⟩
    · cases hdx : s.decode x with
      | nan g f => cases u <;> simp [convert, run_underlying hs', run_underlying hd, Conv.floatToFloat, e, hdx, run_choose_drew, Question.forced, World.drew_is_drewN]
      | number a b c => simp [hdx, Ieee.Datum.isNaN] at hn
      | infinity a => simp [hdx, Ieee.Datum.isNaN] at hn
    · rw [hv, (cut_conv d x _).1]; rfl
  | false =>
    have hv : vl s x = some x := by simp [vl, hn]
    rw [hv] at ho
    have hr : ∃ r, floatToFloatBits s x d = some r ∧ vl d r = some r := by
      unfold floatToFloatBits
      rw [if_neg e]
      cases hdx : s.decode x with
      | nan g f => simp [hdx, Ieee.Datum.isNaN] at hn
      | number a b c =>
        simp [over, hdx, e, Ieee.Datum.isInfinity] at ho
        refine ⟨d.encode (.number a b c), ?_, vl_write d _ rfl⟩
        simp only
        rw [if_neg (by simp [Ieee.Datum.isInfinity]; exact ho)]
      | infinity a => exact ⟨_, rfl, vl_write d _ rfl⟩
    obtain ⟨r, hr, hvr⟩ := hr
    refine ⟨r, 0, run_convert_float_float w src dst s d x r hs hd hr, ?_, ?_⟩
    · rw [hvr, hv]; simp [fcv, hr]
    · have hwf : (Lit.float s x).wf = true := wf_of_lt s x hx
      exact lt_of_wf (floatToFloatBits_wf hwf hr)
end Go.Proofs.Ythkjikennlaelaa.Fl
