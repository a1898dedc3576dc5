/-
  Walks: subnormal numbers made zeros. No theorem of a claim stands here.
-/
import Derived.Test.YtcjkcoibeieeeaaGreatDoorSubn
import Derived.Test.YtcjkcoibeieeeaaGreatDoorMath
set_option linter.unusedVariables false
namespace Go.Proofs.YtcjkcoibeieeeaaGreatDoor.Fl
open Go Go.RowKit

theorem and_pow (n p : Nat) : n &&& 2 ^ p = n / 2 ^ p % 2 * 2 ^ p := by
  have h1 : (n &&& 2 ^ p) / 2 ^ p = n / 2 ^ p % 2 := by
    have h := Nat.shiftRight_and_distrib (a := n) (b := 2 ^ p) (i := p)
    rw [Nat.shiftRight_eq_div_pow, Nat.shiftRight_eq_div_pow, Nat.shiftRight_eq_div_pow, Nat.div_self (Nat.two_pow_pos p), show 1 = 2 ^ 1 - 1 from rfl, Nat.and_two_pow_sub_one_eq_mod] at h
    exact h
  have h2 : (n &&& 2 ^ p) % 2 ^ p = 0 := by
    have h := Nat.and_mod_two_pow (a := n) (b := 2 ^ p) (n := p)
    rw [Nat.mod_self, Nat.and_zero] at h
    exact h
  have := Nat.div_add_mod (n &&& 2 ^ p) (2 ^ p)
  rw [h1, h2, Nat.add_zero, Nat.mul_comm] at this
  exact this.symm

theorem and_sign32 (n : Nat) (h : n < 2 ^ 32) : n &&& 2147483648 = n / 2147483648 * 2147483648 := by
  have := and_pow n 31
  rw [show 2 ^ 31 = 2147483648 from rfl] at this
  rw [this]; omega

theorem and_sign64 (n : Nat) (h : n < 2 ^ 64) : n &&& 9223372036854775808 = n / 9223372036854775808 * 9223372036854775808 := by
  have := and_pow n 63
  rw [show 2 ^ 63 = 9223372036854775808 from rfl] at this
  rw [this]; omega

theorem bits_sign64 (n : Nat) (h : n < 2 ^ 64) : bits .or .u64 (bits .andNot .u64 0 9223372036854775808) (bits .and .u64 (n : Int) 9223372036854775808) = ((n / 9223372036854775808 * 9223372036854775808 : Nat) : Int) := by
  have e1 := u64_andNot_nat 0 9223372036854775808 (by omega) (by omega)
  have e2 := u64_and_nat n 9223372036854775808 (by omega) (by omega)
  rw [Nat.zero_and] at e1
  rw [and_sign64 n h] at e2
  rw [show bits .andNot .u64 0 9223372036854775808 = _ from e1, show bits .and .u64 (n : Int) 9223372036854775808 = _ from e2]
  have e3 := u64_or_nat 0 (n / 9223372036854775808 * 9223372036854775808) (by omega) (by omega)
  rw [Nat.zero_or] at e3
  exact e3

theorem copysign0_any (r : Nat) (hr : r < 2 ^ 64) (w : World) : Calls Tryz.prog 46 #[.float .f64 0, .float .f64 r] w (VRet (.float .f64 (r / 9223372036854775808 * 9223372036854775808)) w) := by
  have h1 := run_f64bits 0
  have h3 := run_f64bits r
  have h2 := run_f64frombits
  have hb2 : (r : Int) ≤ 18446744073709551615 := by omega
  have He := Lib.hid (bits_sign64 r hr)
  go_enter Tryz.func46, Tryz.ntmps46
  go_wp2
  go_ret
  refine ⟨0, ?_, rfl⟩
  have := He.out
  show Ending.returned (.float .f64 (bits .or .u64 (bits .andNot .u64 0 9223372036854775808) (bits .and .u64 (r : Int) 9223372036854775808)).toNat) = _
  rw [this, Int.toNat_natCast]

def szero (n : Bool) : Nat := if n then 2147483648 else 0

theorem zero_narrow (r : Nat) (hr : r < 2 ^ 64) : vl .f64 (r / 9223372036854775808 * 9223372036854775808) = some (r / 9223372036854775808 * 9223372036854775808) ∧
    over .f64 .f32 (some (r / 9223372036854775808 * 9223372036854775808)) = false ∧ fcv .f64 .f32 (some (r / 9223372036854775808 * 9223372036854775808)) = some (szero (neg .f64 r)) := by
  have h : r / 9223372036854775808 = 0 ∨ r / 9223372036854775808 = 1 := by omega
  have hn : neg .f64 r = (r / 9223372036854775808 % 2 == 1) := by unfold neg; rw [sw64]
  rcases h with h | h
  · rw [h] at hn
    rw [h, hn]; decide
  · rw [h] at hn
    rw [h, hn]; decide

def flushV (b : Nat) : Option Nat := if rung .f32 b < 8388608 then some (szero (neg .f32 b)) else vl .f32 b

theorem neg32 (b : Nat) (hb : b < 2 ^ 32) : b / 2147483648 * 2147483648 = szero (neg .f32 b) := by
  unfold neg szero; rw [sw32]
  have h : b / 2147483648 = 0 ∨ b / 2147483648 = 1 := by omega
  rcases h with h | h <;> rw [h] <;> rfl

theorem vl_szero (n : Bool) : vl .f32 (szero n) = some (szero n) := by cases n <;> decide

theorem flush_zero {b : Nat} (hb : b < 2 ^ 32) (h : rung .f32 b = 0) : flushV b = some b := by
  unfold flushV
  rw [if_pos (by omega)]
  have := neg32 b hb
  unfold rung at h; rw [sw32] at h
  rw [← this]; congr 1; omega


theorem flush_any (b : Nat) (hb : b < 2 ^ 32) (w : World) : Calls Tryz.prog 9 #[.float .f32 b] w (FRet .f32 (flushV b) w) := by
  by_cases h0 : subB b = true
  · have hr : 0 < rung .f32 b ∧ rung .f32 b < 8388608 := by unfold subB at h0; simpa using h0
    have Hfl := Lib.hid (show flushV b = some (szero (neg .f32 b)) from if_pos hr.2)
    have hf : rung .f32 b < FloatKind.f32.format.infRung := by rw [inf32]; omega
    have hv : vl .f32 b = some b := fin_vl hf
    obtain ⟨x, x1, x2, x3, x4⟩ := widen_fin b hf
    have X1 := Lib.hid (show fcv .f32 .f64 (vl .f32 b) = some x by rw [hv]; exact x1)
    have X3 := Lib.hid x3
    clear hr hf hv x1 x2 x3 x4
    go_enter Tryz.func9, Tryz.ntmps9
    go_wp2_with (first | (go_at_call 16; refine (implSub_any _ hb _).mono ?_; rintro e w' ⟨m, rfl, rfl⟩) | (refine wpList_fcv_g (by rfl) 24 44 _ (by rfl) .f32 .f64 isSome_f32 Tryz.underlying44 b (by rfl) hb (over_widen' b) ?_; intro r n hr hv) | (go_at_call 46; refine (copysign0_any _ (by assumption) _).mono ?_; rintro e w' ⟨m2, rfl, rfl⟩))
    have hrr : r < 2 ^ 64 := hr
    obtain ⟨z1, z2, z3⟩ := zero_narrow r hrr
    have Z1 := Lib.hid z1
    have Z2 := Lib.hid (show over .f64 .f32 (vl .f64 (r / 9223372036854775808 * 9223372036854775808)) = false by rw [z1]; exact z2)
    have Z3 := Lib.hid (show fcv .f64 .f32 (vl .f64 (r / 9223372036854775808 * 9223372036854775808)) = some (szero (neg .f64 r)) by rw [z1]; exact z3)
    have hlt : r / 9223372036854775808 * 9223372036854775808 < 2 ^ 64 := by omega
    clear z1 z2 z3
    have Hrx : Hid (neg .f64 r = neg .f32 b) := by
      have h5 := hv.out.trans X1.out
      obtain rfl := vl_some h5
      exact X3.out
    go_wp2_with (go_at_call 19; refine (narrow_any _ hlt Z2.out _).mono ?_; rintro e w' ⟨q, m3, rfl, hq, hq2, rfl⟩)
    go_ret
    refine ⟨q, _, rfl, ?_, hq2, rfl⟩
    rw [hq, Z3.out, Hfl.out, Hrx.out]
  · have h0' : subB b = false := by simpa using h0
    have Hfl : Hid (flushV b = vl .f32 b) := by
      show flushV b = vl .f32 b
      by_cases hz : rung .f32 b = 0
      · rw [flush_zero hb hz, fin_vl (by rw [hz, inf32]; omega)]
      · unfold flushV
        rw [if_neg]
        unfold subB at h0'
        simp at h0'
        omega
    clear h0
    go_enter Tryz.func9, Tryz.ntmps9
    go_wp2_with (go_at_call 16; refine (implSub_any _ hb _).mono ?_; rintro e w' ⟨m, rfl, rfl⟩)
    go_ret
    exact ⟨b, _, rfl, by rw [Hfl.out], hb, rfl⟩
end Go.Proofs.YtcjkcoibeieeeaaGreatDoor.Fl
