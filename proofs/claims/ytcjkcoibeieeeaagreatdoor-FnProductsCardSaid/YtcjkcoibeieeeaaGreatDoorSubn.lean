/-
  Plain facts and walks: subnormal numbers. No theorem of a claim stands here.
-/
import Derived.Test.YtcjkcoibeieeeaaGreatDoorFin
set_option linter.unusedVariables false
namespace Go.Proofs.YtcjkcoibeieeeaaGreatDoor.Fl
open Go Go.RowKit

theorem and_exp (n : Nat) : n &&& 2139095040 = (n / 8388608 % 256) * 8388608 := by
  have h1 : (n &&& 2139095040) / 8388608 = n / 8388608 % 256 := by
    have h := Nat.shiftRight_and_distrib (a := n) (b := 2139095040) (i := 23)
    rw [Nat.shiftRight_eq_div_pow, Nat.shiftRight_eq_div_pow, Nat.shiftRight_eq_div_pow] at h
    rw [show 2 ^ 23 = 8388608 from rfl, show 2139095040 / 8388608 = 2 ^ 8 - 1 from rfl, Nat.and_two_pow_sub_one_eq_mod] at h
    exact h
  have h2 : (n &&& 2139095040) % 8388608 = 0 := by
    have h := Nat.and_mod_two_pow (a := n) (b := 2139095040) (n := 23)
    rw [show 2 ^ 23 = 8388608 from rfl, show 2139095040 % 8388608 = 0 from rfl, Nat.and_zero] at h
    exact h
  have := Nat.div_add_mod (n &&& 2139095040) 8388608
  omega

theorem i64_and_nat (a b : Nat) (ha : a < 9223372036854775808) (hb : b < 9223372036854775808) : bits .and .i64 (a : Int) (b : Int) = ((a &&& b : Nat) : Int) := by
  have h1 : a &&& b ≤ a := Nat.and_le_left
  show IntKind.i64.wrap ((BitVec.ofInt 64 (a : Int) &&& BitVec.ofInt 64 (b : Int)).toNat : Int) = _
  have e : (BitVec.ofInt 64 (a : Int) &&& BitVec.ofInt 64 (b : Int)).toNat = a &&& b := by
    rw [BitVec.toNat_and, BitVec.toNat_ofInt, BitVec.toNat_ofInt]
    congr 1 <;> omega
  rw [e, IntKind.wrap_i64]
  omega

/-- Is it subnormal? By the rung. -/
def subB (b : Nat) : Bool := decide (0 < rung .f32 b ∧ rung .f32 b < 8388608)

theorem bin32 : FloatKind.f32.format.binade = 8388608 := by decide
theorem inf32 : FloatKind.f32.format.infRung = 2139095040 := by decide
theorem sw32 : FloatKind.f32.format.signWeight = 2147483648 := by decide
theorem bin64 : FloatKind.f64.format.binade = 4503599627370496 := by decide
theorem inf64 : FloatKind.f64.format.infRung = 9218868437227405312 := by decide
theorem sw64 : FloatKind.f64.format.signWeight = 9223372036854775808 := by decide

theorem nan_rung {k : FloatKind} {b : Nat} (h : vl k b = none) : k.format.infRung < rung k b := by
  unfold vl at h
  have hd : (k.format.read b).isNaN = true := by
    cases hn : (k.decode b).isNaN
    · rw [hn] at h; simp at h
    · exact hn
  rw [isNaN_read] at hd
  unfold rung
  simpa using hd

/-- Against zero. -/
theorem sv_zero (k : FloatKind) : sv k 0 = 0 := by cases k <;> decide
theorem rung_zero (k : FloatKind) : rung k 0 < k.format.infRung := by cases k <;> decide
theorem U_zero (k : FloatKind) : U k 0 = 0 := by
  unfold U; rw [if_pos (show 0 < k.format.binade from Nat.two_pow_pos _)]

theorem U_pos (k : FloatKind) {r : Nat} (h : 0 < r) : 0 < U k r := by
  have := U_lt k h; rw [U_zero] at this; exact this

theorem eq_zero (k : FloatKind) (b : Nat) : (k.format.order b 0 == some .eq) = decide (rung k b = 0) := by
  rcases vl_cases k b with h | h
  · have hr := nan_rung h
    rw [order_vl, h]
    have : rung k b ≠ 0 := by omega
    simp [ford, this]
  · have hr := num_rung h
    by_cases hf : rung k b < k.format.infRung
    · rw [order_units _ _ _ hf (rung_zero k), sv_zero]
      by_cases h0 : rung k b = 0
      · have : sv k b = 0 := by unfold sv; rw [h0, U_zero]; simp
        rw [this]; simp [h0]
      · have hp := U_pos k (show 0 < rung k b by omega)
        have hne : sv k b ≠ 0 := by unfold sv; split <;> omega
        have : compare (sv k b) 0 ≠ .eq := by
          show compareOfLessAndEq _ _ ≠ _
          unfold compareOfLessAndEq
          split
          · decide
          · first | decide | (rw [if_neg hne]; decide)
        simp [h0, this]
    · rw [order_inf_fin _ _ _ (Nat.le_antisymm hr (Nat.le_of_not_lt hf)) (rung_zero k)]
      have : rung k b ≠ 0 := by have := rung_zero k; omega
      cases neg k b <;> simp [this]

theorem rung_bits (b : Nat) (hb : b < 2 ^ 32) : b / 8388608 % 256 * 8388608 = 0 ↔ rung .f32 b < 8388608 := by
  unfold rung; rw [sw32]
  omega

theorem bitsV_and (b : Nat) (hb : b < 2 ^ 32) : (bits .and .i64 (bitsV (vl .f32 b)) 2139095040 == 0) = decide (rung .f32 b < 8388608) := by
  rcases vl_cases .f32 b with h | h
  · have hr := nan_rung h
    rw [inf32] at hr
    rw [h]
    have e := i64_and_nat 2143289344 2139095040 (by omega) (by omega)
    rw [and_exp] at e
    rw [show bits .and .i64 (bitsV none) 2139095040 = _ from e]
    have : ¬ rung .f32 b < 8388608 := by omega
    simp [this]
  · rw [h]
    have e := i64_and_nat b 2139095040 (by omega) (by omega)
    rw [and_exp] at e
    rw [show bits .and .i64 (bitsV (some b)) 2139095040 = _ from e]
    have := rung_bits b hb
    by_cases hr : rung .f32 b < 8388608
    · rw [this.2 hr]; simp [hr]
    · have hn : ¬ (b / 8388608 % 256 * 8388608 = 0) := fun hc => hr (this.1 hc)
      simp only [hr, decide_false, beq_eq_false_iff_ne, ne_eq]
      omega

theorem subB_zero {b : Nat} (h : rung .f32 b = 0) : subB b = false := by unfold subB; simp [h]
theorem subB_pos {b : Nat} (h : rung .f32 b ≠ 0) : subB b = decide (rung .f32 b < 8388608) := by
  unfold subB; rw [decide_eq_decide]; omega


theorem pow_scale (a b c : Nat) (h : a + b = c + gapW) : 2 ^ a * 2 ^ b = 2 ^ c * scaleW := by
  rw [← Nat.pow_add, h, Nat.pow_add]; rfl

theorem tiny_rung : rung .f64 4039728865751334912 = 897 * 4503599627370496 := by unfold rung; rw [sw64]
theorem tiny_fin : rung .f64 4039728865751334912 < FloatKind.f64.format.infRung := by rw [tiny_rung, inf64]; omega
theorem tiny_neg : neg .f64 4039728865751334912 = false := by unfold neg; rw [sw64, Nat.div_eq_of_lt (by omega)]; rfl
theorem tiny_U : U .f64 (rung .f64 4039728865751334912) = 8388608 * scaleW := by
  rw [tiny_rung]
  unfold U
  rw [bin64, if_neg (by omega), Nat.mul_mod_left, Nat.mul_div_cancel _ (by omega), Nat.add_zero]
  generalize hn : 897 - 1 = n
  rw [show (4503599627370496 : Nat) = 2 ^ 52 from rfl, show (8388608 : Nat) = 2 ^ 23 from rfl]
  exact pow_scale 52 n 23 (by rw [gapW_eq]; omega)
theorem tiny_sv (x : Nat) (hx : x = 4039728865751334912) : sv .f64 x = ((8388608 * scaleW : Nat) : Int) := by
  subst hx
  unfold sv; rw [tiny_neg, tiny_U]; simp

theorem U32_lt (r : Nat) : U .f32 r < 8388608 ↔ r < 8388608 := by
  have e : U .f32 8388608 = 8388608 := by
    unfold U; rw [bin32, if_neg (by omega)]
  rw [← e, U_lt_iff, e]

theorem lt_cmp (x y : Nat) : (some (compare (x : Int) (y : Int)) == some Ordering.lt) = decide (x < y) := by
  by_cases h : x < y
  · have : compare (x : Int) (y : Int) = .lt := by
      show compareOfLessAndEq _ _ = _
      unfold compareOfLessAndEq
      rw [if_pos (by omega)]
    rw [this]; simp [h]
  · have : compare (x : Int) (y : Int) ≠ .lt := by
      show compareOfLessAndEq _ _ ≠ _
      unfold compareOfLessAndEq
      rw [if_neg (by omega)]
      split <;> decide
    simp [h, this]

theorem vl_abs_none {r : Nat} (h : vl .f64 r = none) : vl .f64 (r % 9223372036854775808) = none := by
  have := vl_abs r; rw [h] at this; simpa using this

theorem lt_tiny (b r x : Nat) (hx : x = 4039728865751334912) (h : vl .f64 r = fcv .f32 .f64 (vl .f32 b)) :
    (FloatKind.f64.format.order (r % 9223372036854775808) x == some .lt) = decide (rung .f32 b < 8388608) := by
  have hxf : rung .f64 x < FloatKind.f64.format.infRung := by rw [hx]; exact tiny_fin
  rcases vl_cases .f32 b with hv | hv
  · have hr := nan_rung hv
    rw [inf32] at hr
    rw [hv] at h
    rw [order_vl, vl_abs_none h]
    have : ¬ rung .f32 b < 8388608 := by omega
    simp [ford, this]
  · have hr := num_rung hv
    rw [hv] at h
    by_cases hf : rung .f32 b < FloatKind.f32.format.infRung
    · obtain ⟨r', h1, h2, h3, h4⟩ := widen_fin b hf
      rw [h1] at h
      obtain rfl := vl_some h
      rw [order_units _ _ _ (by rw [rung_abs]; exact h2) hxf, sv_abs, tiny_sv x hx, lt_cmp, h4, decide_eq_decide]
      rw [← U32_lt (rung .f32 b)]
      exact Nat.mul_lt_mul_right scaleW_pos
    · obtain ⟨r', h1, h2, h3⟩ := widen_inf b (Nat.le_antisymm hr (Nat.le_of_not_lt hf))
      rw [h1] at h
      obtain rfl := vl_some h
      rw [order_inf_fin _ _ _ (by rw [rung_abs]; exact h2) hxf, neg_abs]
      rw [inf32] at hf
      have : ¬ rung .f32 b < 8388608 := by omega
      simp [this]

theorem implSub_any (b : Nat) (hb : b < 2 ^ 32) (w : World) : Calls Tryz.prog 16 #[.float .f32 b] w (VRet (.bool (subB b)) w) := by
  have hz := eq_zero .f32 b
  by_cases h0 : rung .f32 b = 0
  · have Hs := Lib.hid (subB_zero h0)
    have hn : (FloatKind.f32.format.order b 0 != some .eq) = false := by simp only [bne, hz, h0]; rfl
    clear hz h0
    go_enter Tryz.func16, Tryz.ntmps16
    go_wp2
    go_ret
    exact ⟨0, by rw [Hs.out]; rfl, rfl⟩
  · have Hs := Lib.hid (subB_pos h0)
    have hn : (FloatKind.f32.format.order b 0 != some .eq) = true := by simp only [bne, hz, h0]; rfl
    clear hz h0
    go_enter Tryz.func16, Tryz.ntmps16
    go_wp2_with (first | (refine wpList_fcv_g (by rfl) 24 44 _ (by rfl) .f32 .f64 isSome_f32 Tryz.underlying44 b (by rfl) hb (over_widen' b) ?_; intro r n hr hv) | (go_at_call 54; refine (abs_any _ (by assumption) _).mono ?_; rintro e w' ⟨m, rfl, rfl⟩))
    go_ret
    first | exact ⟨_, by rw [Hs.out, ← lt_tiny b _ _ rfl hv.out]; rfl, rfl⟩ | exact ⟨_, by rw [Hs.out, ← lt_tiny b _ _ rfl hv.out]; rfl, World.drewN_drewN _ _ _⟩
end Go.Proofs.YtcjkcoibeieeeaaGreatDoor.Fl
