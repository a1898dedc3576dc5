/-
  Walks: the bits of a number, in the program and in the model; equality of numbers. No theorem of a claim stands here.
-/
import Derived.Test.YthkjikennlaelaaExt
set_option linter.unusedVariables false
namespace Go.Proofs.Ythkjikennlaelaa.Fl
open Go Go.RowKit

/-- The bits of a number as an integer, one for every NaN. -/
def bitsV (x : Option Nat) : Int := match x with | none => 2143289344 | some b => b

theorem order_self (k : FloatKind) (b : Nat) : k.format.order b b = if (vl k b).isNone then none else some .eq := by
  rw [order_vl]
  unfold ford
  cases h : vl k b with
  | none => rfl
  | some c =>
    simp only [Option.bind_some, Option.isNone_some, Bool.false_eq_true, if_false]
    obtain rfl := vl_some h
    unfold vl at h
    unfold Ieee.Format.order
    have hd : k.decode b = k.format.read b := rfl
    rw [hd] at h
    cases hr : k.format.read b with
    | nan s t => rw [hr] at h; simp [Ieee.Datum.isNaN] at h
    | infinity s => simp [Ieee.Datum.order]
    | number s m i => simp [Ieee.Datum.order]

theorem l01Bits_any (b : Nat) (hb : b < 2 ^ 32) (w : World) :
    Calls Try.prog 78 #[.float .f32 b] w (VRet (.int .i64 (bitsV (vl .f32 b))) w) := by
  have ho := order_self .f32 b
  cases hv : vl .f32 b with
  | none =>
    have hn : (FloatKind.f32.format.order b b != some .eq) = true := by rw [ho, hv]; rfl
    clear ho hv
    go_enter Try.func78, Try.ntmps78
    go_wp2
    go_ret
    exact ⟨0, rfl, rfl⟩
  | some c =>
    have hn : (FloatKind.f32.format.order b b != some .eq) = false := by rw [ho, hv]; rfl
    obtain rfl := vl_some hv
    clear ho hv
    have hf := run_f32bits b
    have hb2 : (b : Int) ≤ 4294967295 := by omega
    go_enter Try.func78, Try.ntmps78
    go_wp2
    go_ret
    exact ⟨0, rfl, rfl⟩

theorem isSome_f32 : (Try.prog.underlying 28).isSome = true := by rw [Try.underlying28]; rfl
theorem isSome_f64 : (Try.prog.underlying 51).isSome = true := by rw [Try.underlying51]; rfl

/-- float32 to float64: never too great; a NaN stays one, a number stays one. -/
theorem over_widen (x : Option Nat) (hx : ∀ b, x = some b → vl .f32 b = some b) : over .f32 .f64 x = false := by
  cases x with
  | none => rfl
  | some b =>
    have hv := hx b rfl
    simp only [over, Option.any_some]
    cases hd : FloatKind.f32.decode b with
    | nan s t => simp [vl, hd, Ieee.Datum.isNaN] at hv
    | infinity s => simp [Ieee.Datum.isInfinity]
    | number s m i =>
      have hm : m = 0 ∨ i + m.log2 < 200 := by
        have hb : ∃ m' i', FloatKind.f32.decode b = .number s m' i' ∧ m' < 2 ^ 24 ∧ i' ≤ 105 := by
          have hd' : FloatKind.f32.format.read b = .number s m i := hd
          unfold Ieee.Format.read at hd'
          simp only at hd'
          have e1 : FloatKind.f32.format.binade = 8388608 := by decide
          have e2 : FloatKind.f32.format.infRung = 2139095040 := by decide
          have e3 : FloatKind.f32.format.leastPlace = -149 := by decide
          rw [e1, e2, e3] at hd'
          split at hd'
          · cases hd'; exact ⟨_, _, hd, by omega, by omega⟩
          · split at hd'
            · rename_i h1 h2
              cases hd'; exact ⟨_, _, hd, by omega, by omega⟩
            · split at hd' <;> cases hd'
        obtain ⟨m', i', h1, h2, h3⟩ := hb
        rw [hd] at h1; cases h1
        by_cases h0 : m = 0
        · exact .inl h0
        · have := (Nat.log2_lt h0).2 h2
          right; omega
      have hb := nearest_bd .f64 s m i 200 hm
      have hdec : (FloatKind.f64.decode (FloatKind.f64.encode (.number s m i))).isInfinity = false := by
        show (FloatKind.f64.format.read (FloatKind.f64.format.nearest s m i)).isInfinity = false
        have hlt : FloatKind.f64.format.nearest s m i % FloatKind.f64.format.signWeight < FloatKind.f64.format.infRung :=
          Nat.lt_of_le_of_lt hb (by decide)
        unfold Ieee.Format.read
        simp only [hlt, if_true]
        split <;> rfl
      rw [hdec]; simp

theorem over_widen' (b : Nat) : over .f32 .f64 (vl .f32 b) = false := over_widen _ fun c hc => by
  obtain rfl := vl_some hc; exact hc

theorem fcv_isNone (b : Nat) : (fcv .f32 .f64 (vl .f32 b)).isNone = (vl .f32 b).isNone := by
  cases h : vl .f32 b with
  | none => rfl
  | some c =>
    obtain rfl := vl_some h
    have ho := over_widen' b
    rw [h] at ho
    simp only [fcv, Option.bind_some, floatToFloatBits, Option.isNone_some]
    rw [if_neg (by decide)]
    simp only [over, Option.any_some] at ho
    cases hd : FloatKind.f32.decode b with
    | nan s t => simp [vl, hd, Ieee.Datum.isNaN] at h
    | infinity s => rfl
    | number s m i =>
      rw [hd] at ho
      simp [Ieee.Datum.isInfinity] at ho
      simp only
      rw [if_neg (by simp [Ieee.Datum.isInfinity]; exact ho)]; rfl

theorem isNaN_any (r : Nat) (w : World) : Calls Try.prog 76 #[.float .f64 r] w (VRet (.bool (vl .f64 r).isNone) w) := by
  have ho := order_self .f64 r
  have hn : (FloatKind.f64.format.order r r != some .eq) = (vl .f64 r).isNone := by rw [ho]; cases vl .f64 r <;> rfl
  clear ho
  go_enter Try.func76, Try.ntmps76
  go_wp2
  go_ret
  exact ⟨0, rfl, rfl⟩

theorem bitsOf_any (b : Nat) (hb : b < 2 ^ 32) (w : World) :
    Calls Try.prog 71 #[.float .f32 b] w (VRet (.int .i64 (bitsV (vl .f32 b))) w) := by
  have hf := run_f32bits b
  have hb2 : (b : Int) ≤ 4294967295 := by omega
  go_enter Try.func71, Try.ntmps71
  go_wp2_with (refine wpList_fcv rfl 28 51 _ rfl .f32 .f64 isSome_f32 Try.underlying51 b rfl hb (over_widen' b) ?_)
  intro r n hr hv
  have hnn : (vl .f64 r).isNone = (vl .f32 b).isNone := by rw [hv.out]; exact fcv_isNone b
  by_cases hvb : vl .f32 b = none
  · have Hb := Lib.hid (show bitsV (vl .f32 b) = 2143289344 by rw [hvb]; rfl)
    rw [hvb] at hnn
    have Hnn := Lib.hid hnn; clear hnn hvb
    go_wp2_with (go_at_call 76; refine (isNaN_any _ _).mono ?_; rintro e w' ⟨m, rfl, rfl⟩; rw [Hnn.out]; simp only [Option.isNone_none])
    go_ret
    first | exact ⟨_, by rw [Hb.out]; rfl, rfl⟩ | exact ⟨_, by rw [Hb.out]; rfl, World.drewN_drewN _ _ _⟩
  · have hs : vl .f32 b = some b := by
      cases h : vl .f32 b with
      | none => exact absurd h hvb
      | some c => obtain rfl := vl_some h; rfl
    have Hb := Lib.hid (show bitsV (vl .f32 b) = b by rw [hs]; rfl)
    rw [hs] at hnn
    have Hnn := Lib.hid hnn; clear hnn hvb hs
    go_wp2_with (go_at_call 76; refine (isNaN_any _ _).mono ?_; rintro e w' ⟨m, rfl, rfl⟩; rw [Hnn.out]; simp only [Option.isNone_some])
    go_ret
    first | exact ⟨_, by rw [Hb.out]; rfl, rfl⟩ | exact ⟨_, by rw [Hb.out]; rfl, World.drewN_drewN _ _ _⟩
end Go.Proofs.Ythkjikennlaelaa.Fl
