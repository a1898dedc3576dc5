/-
  Square roots and narrowing: plain facts and walks. No theorem of a claim stands here.
-/
import Derived.Test.YthkjikennlaelaaSame
import Derived.Test.YthkjikennlaelaaFe
set_option linter.unusedVariables false
namespace Go.Proofs.Ythkjikennlaelaa.Fl
open Go Go.RowKit

/-- The square root of a float64, up to NaN. -/
def fsq (x : Option Nat) : Option Nat := x.bind fun a => FloatKind.f64.format.sqrt a

def sqv (x : Nat) (w : World) : Nat := match FloatKind.f64.format.sqrt x with
  | some r => r
  | none => (Question.nanBits .f64 x x).cut (w.tape w.drawn (.nanBits .f64 x x))
def sqn (x : Nat) : Nat := match FloatKind.f64.format.sqrt x with
  | some _ => 0
  | none => 1

theorem sqrt_vl (x : Nat) : FloatKind.f64.format.sqrt x = fsq (vl .f64 x) := by
  rcases vl_cases .f64 x with h | h
  · rw [h]
    have hd : (FloatKind.f64.format.read x).isNaN = true := by
      unfold vl at h
      cases hn : (FloatKind.f64.decode x).isNaN
      · rw [hn] at h; simp at h
      · exact hn
    unfold Ieee.Format.sqrt
    cases hr : FloatKind.f64.format.read x with
    | nan s t => rfl
    | infinity s => rw [hr] at hd; simp [Ieee.Datum.isNaN] at hd
    | number s m i => rw [hr] at hd; simp [Ieee.Datum.isNaN] at hd
  · rw [h]; rfl

theorem sqrt_some {x r : Nat} (h : FloatKind.f64.format.sqrt x = some r) : vl .f64 r = some r ∧ r < 2 ^ 64 := by
  unfold Ieee.Format.sqrt at h
  cases hd : (FloatKind.f64.format.read x).root (FloatKind.f64.format.fractionBits + 2) with
  | none => rw [hd] at h; cases h
  | some d =>
    rw [hd] at h; cases h
    exact ⟨vl_write .f64 d (root_nan hd).1, Ieee.Format.write_lt _ _⟩

theorem vl_sqv (x : Nat) (w : World) : vl .f64 (sqv x w) = fsq (vl .f64 x) ∧ sqv x w < 2 ^ 64 := by
  have h := sqrt_vl x
  unfold sqv
  cases hs : FloatKind.f64.format.sqrt x with
  | none => rw [hs] at h; exact ⟨(cut_nan64 x x _).1.trans h, (cut_nan64 x x _).2⟩
  | some r => rw [hs] at h; exact ⟨(sqrt_some hs).1.trans h, (sqrt_some hs).2⟩





theorem rootFrom_sq (n : Nat) : ∀ (todo root : Nat), root * root ≤ n → Ieee.Datum.rootFrom n todo root * Ieee.Datum.rootFrom n todo root ≤ n
  | 0, root, h => h
  | todo + 1, root, h => by
    unfold Ieee.Datum.rootFrom
    simp only
    split
    · rename_i h'; exact rootFrom_sq n todo _ h'
    · exact rootFrom_sq n todo _ h

/-- A root is within half the exponent. -/
theorem bd_fsq {E : Nat} {x : Option Nat} (hE : E < 1023) (hx : Bd .f64 E x) : Bd .f64 (E / 2 + 1) (fsq x) := by
  intro r hr
  cases x with
  | none => cases hr
  | some a =>
    have hr : FloatKind.f64.format.sqrt a = some r := hr
    obtain ⟨s, m, i, h1, hi1, hi2, hm, _⟩ := read_bd .f64 E a (hx _ rfl) hE
    unfold Ieee.Format.sqrt at hr
    rw [show FloatKind.f64.format.read a = _ from h1] at hr
    simp only [Ieee.Datum.root] at hr
    by_cases m0 : m = 0
    · subst m0
      simp only [if_true, Option.map_some, Option.some.injEq] at hr
      rw [← hr]
      exact nearest_bd .f64 _ _ _ _ (.inl rfl)
    rw [if_neg m0] at hr
    cases s with
    | true => simp at hr
    | false =>
      simp only [Bool.false_eq_true, if_false, Option.map_some, Option.some.injEq] at hr
      rw [← hr]
      have hm : i + m.log2 ≤ E := hm.resolve_left m0
      apply nearest_bd
      generalize 2 * (FloatKind.f64.format.fractionBits + 2) - m.log2 = M
      generalize hmore : M + ((i - (M : Int)) % 2).toNat = more
      have hpar : (i - (more : Int)) % 2 = 0 := by
        have h1 := Int.emod_nonneg (i - (M : Int)) (show (2 : Int) ≠ 0 by omega)
        omega
      generalize hw : Ieee.Datum.rootFrom (m <<< more) ((m <<< more).log2 / 2 + 1) 0 = whole
      have hsq : whole * whole ≤ m <<< more := by rw [← hw]; exact rootFrom_sq _ _ _ (by rw [Nat.zero_mul]; exact Nat.zero_le _)
      have hlt : m <<< more < 2 ^ (m.log2 + 1 + more) := by
        rw [Nat.shiftLeft_eq, Nat.pow_add]; exact Nat.mul_lt_mul_of_pos_right Nat.lt_log2_self (Nat.two_pow_pos _)
      by_cases q0 : 2 * whole + (whole * whole != m <<< more).toNat = 0
      · exact .inl q0
      right
      have hwl : whole < 2 ^ ((m.log2 + more) / 2 + 1) := by
        rcases Nat.lt_or_ge whole (2 ^ ((m.log2 + more) / 2 + 1)) with h | h
        · exact h
        · have h2 := Nat.mul_le_mul h h
          rw [← Nat.pow_add] at h2
          have h3 : 2 ^ (m.log2 + 1 + more) ≤ 2 ^ ((m.log2 + more) / 2 + 1 + ((m.log2 + more) / 2 + 1)) := Nat.pow_le_pow_right (by omega) (by omega)
          omega
      have hlt2 : 2 * whole + (whole * whole != m <<< more).toNat < 2 ^ ((m.log2 + more) / 2 + 1 + 1) := by
        rw [Nat.pow_succ]
        have := Bool.toNat_le (whole * whole != m <<< more)
        omega
      have := (Nat.log2_lt q0).2 hlt2
      omega

/-- What a widened float32 is within. -/
theorem bd_widen (b : Nat) (h : rung .f32 b < FloatKind.f32.format.infRung) : Bd .f64 128 (fcv .f32 .f64 (some b)) := by
  intro r hr
  obtain ⟨s, m, i, h1, _, _, hm, _⟩ : ∃ s m i, FloatKind.f32.decode b = .number s m i ∧ (0 : Int) = 0 ∧ (0 : Int) = 0 ∧ (m = 0 ∨ i + m.log2 < 128) ∧ (0 : Int) = 0 := by
    obtain ⟨m, i, h1, _, _, h4⟩ := read_units .f32 b h
    refine ⟨_, m, i, h1, rfl, rfl, ?_, rfl⟩
    have hi : i ≤ 104 := by
      have hd : FloatKind.f32.format.read b = .number (neg .f32 b) m i := h1
      unfold Ieee.Format.read at hd
      simp only at hd
      have e1 : FloatKind.f32.format.binade = 8388608 := by decide
      have e2 : FloatKind.f32.format.infRung = 2139095040 := by decide
      have e3 : FloatKind.f32.format.leastPlace = -149 := by decide
      rw [e1, e2, e3] at hd
      split at hd
      · cases hd; omega
      · split at hd
        · cases hd; omega
        · split at hd <;> cases hd
    have e5 : FloatKind.f32.format.binade = 8388608 := by decide
    rw [e5] at h4
    by_cases m0 : m = 0
    · exact .inl m0
    · have := (Nat.log2_lt m0).2 (show m < 2 ^ 24 by omega)
      right; omega
  simp only [fcv, Option.bind_some, floatToFloatBits, h1] at hr
  rw [if_neg (by decide)] at hr
  split at hr
  · cases hr
  · cases hr
    exact nearest_bd .f64 s m i 128 hm

theorem over_none (s d : FloatKind) : over s d none = false := rfl
theorem over_inf {x : Nat} (h : rung .f64 x = FloatKind.f64.format.infRung) : over .f64 .f32 (some x) = false := by
  simp only [over, Option.any_some, read_inf h]; simp [Ieee.Datum.isInfinity]

theorem over_root (b : Nat) : over .f64 .f32 (fsq (fcv .f32 .f64 (vl .f32 b))) = false := by
  rcases vl_cases .f32 b with h | h
  · rw [h]; rfl
  · rw [h]
    have hr := num_rung h
    by_cases hf : rung .f32 b < FloatKind.f32.format.infRung
    · exact over_bd (bd_fsq (by omega) (bd_widen b hf)) (by omega)
    · obtain ⟨r, h1, h2, h3⟩ := widen_inf b (Nat.le_antisymm hr (Nat.le_of_not_lt hf))
      rw [h1]
      show over .f64 .f32 (FloatKind.f64.format.sqrt r) = false
      unfold Ieee.Format.sqrt
      rw [show FloatKind.f64.format.read r = _ from read_inf h2]
      simp only [Ieee.Datum.root]
      split
      · rfl
      · exact over_inf (word_mod _ _ (Ieee.Format.infRung_lt _))
end Go.Proofs.Ythkjikennlaelaa.Fl
