/-
  Walks: the bits of a number, in the program and in the model; equality of numbers. No theorem of a claim stands here.
-/
import Derived.Test.YtbcjgjdkapdihabExt
set_option linter.unusedVariables false
namespace Go.Proofs.Ytbcjgjdkapdihab.Fl
open Go Go.RowKit

/-- The bits of a number as an integer, one for every NaN. -/
def bitsV (x : Option Nat) : Int := match x with | none => 2143289344 | some b => b

theorem order_self (k : FloatKind) (b : Nat) : k.format.order b b = if (vl k b).isNone then none else some .eq := by
  rw [order_vl]
  unfold ford
  cases h : vl k b with
  | none => rfl
  | some c =>
    simp only [Option.bind_some, Option.isNone_some, Bool.false_eq_true, if_false]
    obtain rfl := vl_some h
    unfold vl at h
    unfold Ieee.Format.order
    have hd : k.decode b = k.format.read b := rfl
    rw [hd] at h
    cases hr : k.format.read b with
    | nan s t => rw [hr] at h; simp [Ieee.Datum.isNaN] at h
    | infinity s => simp [Ieee.Datum.order]
    | number s m i => simp [Ieee.Datum.order]


theorem isSome_f32 : (Try.prog.underlying 30).isSome = true := by rw [Try.underlying30]; rfl
theorem isSome_f64 : (Try.prog.underlying 37).isSome = true := by rw [Try.underlying37]; rfl

/-- float32 to float64: never too great; a NaN stays one, a number stays one. -/
theorem over_widen (x : Option Nat) (hx : ∀ b, x = some b → vl .f32 b = some b) : over .f32 .f64 x = false := by
  cases x with
  | none => rfl
  | some b =>
    have hv := hx b rfl
    simp only [over, Option.any_some]
    cases hd : FloatKind.f32.decode b with
    | nan s t => simp [vl, hd, Ieee.Datum.isNaN] at hv
    | infinity s => simp [Ieee.Datum.isInfinity]
    | number s m i =>
      have hm : m = 0 ∨ i + m.log2 < 200 := by
        have hb : ∃ m' i', FloatKind.f32.decode b = .number s m' i' ∧ m' < 2 ^ 24 ∧ i' ≤ 105 := by
          have hd' : FloatKind.f32.format.read b = .number s m i := hd
          unfold Ieee.Format.read at hd'
          simp only at hd'
          have e1 : FloatKind.f32.format.binade = 8388608 := by decide
          have e2 : FloatKind.f32.format.infRung = 2139095040 := by decide
          have e3 : FloatKind.f32.format.leastPlace = -149 := by decide
          rw [e1, e2, e3] at hd'
          split at hd'
          · cases hd'; exact ⟨_, _, hd, by omega, by omega⟩
          · split at hd'
            · rename_i h1 h2
              cases hd'; exact ⟨_, _, hd, by omega, by omega⟩
            · split at hd' <;> cases hd'
        obtain ⟨m', i', h1, h2, h3⟩ := hb
        rw [hd] at h1; cases h1
        by_cases h0 : m = 0
        · exact .inl h0
        · have := (Nat.log2_lt h0).2 h2
          right; omega
      have hb := nearest_bd .f64 s m i 200 hm
      have hdec : (FloatKind.f64.decode (FloatKind.f64.encode (.number s m i))).isInfinity = false := by
        show (FloatKind.f64.format.read (FloatKind.f64.format.nearest s m i)).isInfinity = false
        have hlt : FloatKind.f64.format.nearest s m i % FloatKind.f64.format.signWeight < FloatKind.f64.format.infRung :=
          Nat.lt_of_le_of_lt hb (by decide)
        unfold Ieee.Format.read
        simp only [hlt, if_true]
        split <;> rfl
      rw [hdec]; simp

theorem over_widen' (b : Nat) : over .f32 .f64 (vl .f32 b) = false := over_widen _ fun c hc => by
  obtain rfl := vl_some hc; exact hc

theorem fcv_isNone (b : Nat) : (fcv .f32 .f64 (vl .f32 b)).isNone = (vl .f32 b).isNone := by
  cases h : vl .f32 b with
  | none => rfl
  | some c =>
    obtain rfl := vl_some h
    have ho := over_widen' b
    rw [h] at ho
    simp only [fcv, Option.bind_some, floatToFloatBits, Option.isNone_some]
    rw [if_neg (by decide)]
    simp only [over, Option.any_some] at ho
    cases hd : FloatKind.f32.decode b with
    | nan s t => simp [vl, hd, Ieee.Datum.isNaN] at h
    | infinity s => rfl
    | number s m i =>
      rw [hd] at ho
      simp [Ieee.Datum.isInfinity] at ho
      simp only
      rw [if_neg (by simp [Ieee.Datum.isInfinity]; exact ho)]; rfl


end Go.Proofs.Ytbcjgjdkapdihab.Fl
