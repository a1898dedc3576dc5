/-
  Plain facts on floats, no program: bounded numbers: what is there, and how great; quotients by 64 and by numbers that are not small. No theorem of a claim stands here.
-/
import Derived.Test.YtljclagfplildaaPow
import Derived.Test.YtljclagfplildaaR8N
import Derived.Test.YtljclagfplildaaTen
set_option linter.unusedVariables false
set_option linter.unusedSimpArgs false
set_option maxRecDepth 8000
namespace Go.Proofs.Ytljclagfplildaa.Fl
open Go Go.RowKit

theorem b64 : bias .f64 = 1023 := rfl
theorem b32 : bias .f32 = 127 := rfl
theorem sw32 : FloatKind.f32.format.signWeight = 2147483648 := by decide
/-- The float32 is within 2^E. -/
def B32 (E : Nat) (b : Nat) : Prop := b < 2 ^ 32 ∧ b % 2147483648 ≤ (E + 127) * 8388608
theorem B32.mono {E G b : Nat} (h : B32 E b) (hE : E ≤ G) : B32 G b := ⟨h.1, Nat.le_trans h.2 (Nat.mul_le_mul_right _ (by omega))⟩
theorem B32.fin {E b : Nat} (h : B32 E b) (hE : E ≤ 120) : rung .f32 b < FloatKind.f32.format.infRung := by
  have h1 := h.2
  have h2 : (E + 127) * 8388608 ≤ 247 * 8388608 := Nat.mul_le_mul_right _ (by omega)
  have e : FloatKind.f32.format.infRung = 2139095040 := by decide
  unfold rung
  rw [sw32, e]
  omega
theorem B32.bd {E b : Nat} (h : B32 E b) : Bd .f32 E (vl .f32 b) := by
  intro c hc
  obtain rfl := vl_some hc
  rw [sw32, b32, bin32]
  exact h.2
theorem fadd_some32 {a b : Nat} (ha : rung .f32 a < FloatKind.f32.format.infRung) (hb : rung .f32 b < FloatKind.f32.format.infRung) : ∃ r, fop .add .f32 (some a) (some b) = some r := by
  obtain ⟨m, i, h1, _⟩ := read_units .f32 a ha
  obtain ⟨n, j, h2, _⟩ := read_units .f32 b hb
  simp only [fop, Option.bind_some, floatBits, Ieee.Format.add]
  rw [show FloatKind.f32.format.read a = _ from h1, show FloatKind.f32.format.read b = _ from h2]
  exact ⟨_, rfl⟩
theorem fop_lt32 {op : BinOp} {x y : Option Nat} {r : Nat} (h : fop op .f32 x y = some r) : r < 2 ^ 32 := by
  unfold fop at h
  cases x <;> cases y <;> simp at h
  exact lt_of_wf (floatBits_wf h)
theorem B32.add {E a b : Nat} (ha : B32 E a) (hb : B32 E b) (hE : E ≤ 100) : ∃ r, fop .add .f32 (vl .f32 a) (vl .f32 b) = some r ∧ B32 (E + 1) r := by
  have fa := ha.fin (by omega)
  have fb := hb.fin (by omega)
  obtain ⟨r, hr⟩ := fadd_some32 fa fb
  have h1 : fop .add .f32 (vl .f32 a) (vl .f32 b) = some r := by rw [fin_vl fa, fin_vl fb]; exact hr
  refine ⟨r, h1, fop_lt32 h1, ?_⟩
  have := bd_fadd' (k := .f32) (by rw [b32]; omega) ha.bd hb.bd r h1
  rw [sw32, b32, bin32] at this
  exact this
theorem wd_gd {E b : Nat} (h : B32 E b) (hE : E ≤ 100) : Gd (E + 1) (Wd b) := by
  have hf := h.fin (by omega)
  obtain ⟨r, h1, h2, _⟩ := widen_fin b hf
  unfold Wd
  rw [fin_vl hf, h1]
  refine ⟨⟨r, rfl⟩, ?_⟩
  intro c hc
  cases hc
  obtain ⟨s, m, i, e1, _, _, e2, _⟩ := read_bd .f32 E b (by rw [sw32, b32, bin32]; exact h.2) (by rw [b32]; omega)
  have hb := nearest_bd .f64 s m i (E + 1) (by rcases e2 with e | e; exact .inl e; right; omega)
  have h3 : floatToFloatBits .f32 b .f64 = some r := h1
  unfold floatToFloatBits at h3
  rw [if_neg (by decide), e1] at h3
  simp only at h3
  split at h3
  · cases h3
  · cases h3; exact hb
theorem nar_gd {E : Nat} {x : Option Nat} (hx : Gd E x) (hE : E ≤ 100) : ∃ r, NarV x r ∧ B32 (E + 1) r := by
  obtain ⟨⟨a, rfl⟩, hb⟩ := hx
  have ho := over_bd hb (by omega)
  obtain ⟨s, m, i, e1, _, _, e2, _⟩ := read_bd .f64 E a (hb a rfl) (by rw [b64]; omega)
  have hn := nearest_bd .f32 s m i (E + 1) (by rcases e2 with e | e; exact .inl e; right; omega)
  have hd : (FloatKind.f32.decode (FloatKind.f32.encode (.number s m i))).isInfinity = false := by
    simp [over, e1, Ieee.Datum.isInfinity] at ho
    simp [Ieee.Datum.isInfinity]
    exact ho
  have hf : fcv .f64 .f32 (some a) = some (FloatKind.f32.format.nearest s m i) := by
    simp only [fcv, Option.bind_some, floatToFloatBits, e1]
    rw [if_neg (by decide), hd]; rfl
  refine ⟨_, ⟨ho, hf⟩, Ieee.Format.nearest_lt _ _ _ _, ?_⟩
  rw [sw32, b32, bin32] at hn
  exact hn
theorem gd_up {E G : Nat} {x : Option Nat} (h : Gd E x) (hE : E ≤ G) : Gd G x := gd_mono h hE
theorem wp_gd {a b c d E G : Nat} (ha : B32 E a) (hb : B32 E b) (hc : B32 G c) (hd : B32 G d) (hEG : E + G ≤ 80) : Gd (E + G + 3) (wpR a b c d) ∧ Gd (E + G + 3) (wpI a b c d) := by
  have ga := wd_gd ha (by omega)
  have gb := wd_gd hb (by omega)
  have gc := wd_gd hc (by omega)
  have gd := wd_gd hd (by omega)
  have p1 := gd_mul (by omega) (by omega) ga gc
  have p2 := gd_mul (by omega) (by omega) gb gd
  have p3 := gd_mul (by omega) (by omega) ga gd
  have p4 := gd_mul (by omega) (by omega) gb gc
  exact ⟨gd_mono (gd_sub (by omega) p1 p2) (by omega), gd_mono (gd_add (by omega) p3 p4) (by omega)⟩
theorem mul_gd {a b c d E G : Nat} (ha : B32 E a) (hb : B32 E b) (hc : B32 G c) (hd : B32 G d) (hEG : E + G ≤ 80) : ∃ r s, MulV a b c d r s ∧ B32 (E + G + 4) r ∧ B32 (E + G + 4) s := by
  obtain ⟨g1, g2⟩ := wp_gd ha hb hc hd hEG
  obtain ⟨r, n1, b1⟩ := nar_gd g1 (by omega)
  obtain ⟨s, n2, b2⟩ := nar_gd g2 (by omega)
  exact ⟨r, s, ⟨n1, n2⟩, b1, b2⟩
theorem negf_mod' (b : Nat) : Op.negFloat .f32 b % 2147483648 = b % 2147483648 := by
  unfold Op.negFloat
  rw [show FloatKind.f32.format.exponentBits + FloatKind.f32.format.fractionBits = 31 from rfl, show (2147483648 : Nat) = 2 ^ 31 by decide, Nat.xor_mod_two_pow, Nat.mod_self, Nat.xor_zero]
theorem negf_negf' (b : Nat) : Op.negFloat .f32 (Op.negFloat .f32 b) = b := by
  unfold Op.negFloat
  rw [Nat.xor_assoc, Nat.xor_self, Nat.xor_zero]
theorem B32.negf {E b : Nat} (h : B32 E b) : B32 E (Op.negFloat .f32 b) := ⟨Nat.xor_lt_two_pow h.1 (by decide), by rw [negf_mod']; exact h.2⟩

/-- A quotient by 64 is exact. -/
theorem quo_64 {d : Nat} {x : Option Nat} {n : Int} (hx : DyV .f64 d x n) (hd : d + 6 ≤ 60) (hN : n.natAbs < 4503599627370496) : DyV .f64 (d + 6) (fop .quo .f64 x (some 4634204016564240384)) n := by
  obtain ⟨a, rfl, ha⟩ := hx
  obtain ⟨c, i, r1, i1, v1, b1⟩ := dy_read ha
  have e7 : FloatKind.f64.format.fractionBits = 52 := by decide
  have r2 : FloatKind.f64.format.read 4634204016564240384 = .number false 4503599627370496 (-46) := by decide
  have l2 : (4503599627370496 : Nat).log2 = 52 := by decide
  have hc53 : c.log2 ≤ 53 := by
    by_cases c0 : c = 0
    · subst c0; decide
    · have := (Nat.log2_lt c0).2 (show c < 2 ^ 53 by rw [bin64] at b1; omega)
      omega
  generalize hmore : FloatKind.f64.format.fractionBits + 2 + (4503599627370496 : Nat).log2 - c.log2 = more
  rw [e7, l2] at hmore
  have hp : (4503599627370496 : Nat) = 2 ^ 52 := by decide
  have hsh : c <<< more = (c * 2 ^ (more - 52)) * 4503599627370496 := by
    rw [Nat.shiftLeft_eq, hp, Nat.mul_assoc, ← Nat.pow_add]
    congr 2; omega
  refine ⟨FloatKind.f64.format.nearest (neg .f64 a ^^ false) (2 * (c * 2 ^ (more - 52))) (i - -46 - more - 1), ?_, ?_⟩
  · simp only [fop, Option.bind_some, floatBits, Ieee.Format.div]
    rw [show FloatKind.f64.format.read a = _ from r1, r2]
    simp only [Ieee.Datum.quotient, show (4503599627370496 : Nat) ≠ 0 by decide, if_false, Option.map_some, Ieee.Format.write, e7, l2, hmore, hsh, Nat.mul_div_cancel _ (show 0 < 4503599627370496 by decide), Nat.mul_mod_left]
    rfl
  · refine dy_nearest .f64 _ _ _ (d + 6) n hd (by rw [bin64]; omega) (onu .f64 + more + 60) (by omega) ?_ (fun h => by rw [ha.2.2 h]; simp)
    have e1 : 2 * (c * 2 ^ (more - 52)) * 2 ^ (i - -46 - more - 1 + ((onu .f64 + more + 60 : Nat) : Int)).toNat * 2 ^ (d + 6) = (c * 2 ^ (i + (onu .f64 : Int)).toNat * 2 ^ d) * 2 ^ (more + 60) := by
      have : (2 : Nat) * (c * 2 ^ (more - 52)) = c * 2 ^ (more - 51) := by rw [Nat.mul_left_comm, ← Nat.pow_succ']; congr 2; omega
      rw [this]
      simp only [Nat.mul_assoc, ← Nat.pow_add]
      congr 2; omega
    rw [e1, v1, Nat.mul_assoc, ← Nat.pow_add]
    congr 2
/-- A quotient by at least 2^-8 is there, and bounded. -/
theorem quo_low {E b : Nat} {x : Option Nat} {M : Int} (hE : E ≤ 100) (hx : Gd E x) (hy : Dy .f64 8 b M) (hM : M ≠ 0) : Gd (E + 9) (fop .quo .f64 x (some b)) := by
  obtain ⟨⟨a, rfl⟩, hb⟩ := hx
  obtain ⟨s, m, i, h1, _, _, hm, _⟩ := read_bd .f64 E a (hb a rfl) (by rw [b64]; omega)
  obtain ⟨n, j, h2, j1, v2, _⟩ := dy_read hy
  have n0 : n ≠ 0 := by
    intro h
    rw [h, Nat.zero_mul, Nat.zero_mul] at v2
    rcases Nat.mul_eq_zero.1 v2.symm with h | h
    · omega
    · exact absurd h (Nat.ne_of_gt (Nat.two_pow_pos _))
  have hn : -8 ≤ j + n.log2 := by
    have hge : 2 ^ onu .f64 ≤ n * 2 ^ ((j + (onu .f64 : Int)).toNat + 8) := by
      rw [Nat.pow_add, ← Nat.mul_assoc, v2]
      exact Nat.le_mul_of_pos_left _ (by omega)
    have hlt : n * 2 ^ ((j + (onu .f64 : Int)).toNat + 8) < 2 ^ (n.log2 + 1 + ((j + (onu .f64 : Int)).toNat + 8)) := by
      have := Nat.mul_lt_mul_of_pos_right (Nat.lt_log2_self (n := n)) (Nat.two_pow_pos ((j + (onu .f64 : Int)).toNat + 8))
      rwa [← Nat.pow_add] at this
    have := (Nat.pow_lt_pow_iff_right (show 1 < 2 by omega)).1 (Nat.lt_of_le_of_lt hge hlt)
    omega
  have hq : fop .quo .f64 (some a) (some b) = some (FloatKind.f64.format.write (((Ieee.Datum.number s m i).quotient (FloatKind.f64.format.fractionBits + 2) (.number (neg .f64 b) n j)).getD (.number false 0 0))) := by
    simp only [fop, Option.bind_some, floatBits, Ieee.Format.div]
    rw [show FloatKind.f64.format.read a = _ from h1, show FloatKind.f64.format.read b = _ from h2]
    simp only [Ieee.Datum.quotient, n0, if_false]
    rfl
  rw [hq]
  refine ⟨⟨_, rfl⟩, ?_⟩
  intro r hr
  cases hr
  simp only [Ieee.Datum.quotient, n0, if_false, Option.getD_some, Ieee.Format.write]
  apply nearest_bd
  by_cases m0 : m = 0
  · left; subst m0; simp
  have hm : i + m.log2 ≤ E := by rcases hm with h | h; exact absurd h m0; exact h
  generalize hmore : FloatKind.f64.format.fractionBits + 2 + n.log2 - m.log2 = more
  have hD : m <<< more / n < 2 ^ (m.log2 + 1 + more - n.log2) := by
    rw [Nat.shiftLeft_eq, Nat.div_lt_iff_lt_mul (by omega)]
    have e1 : m * 2 ^ more < 2 ^ (m.log2 + 1 + more) := by
      rw [Nat.pow_add]; exact Nat.mul_lt_mul_of_pos_right Nat.lt_log2_self (Nat.two_pow_pos _)
    have e2 : 2 ^ n.log2 ≤ n := Nat.log2_self_le n0
    have e3 : 2 ^ (m.log2 + 1 + more) = 2 ^ (m.log2 + 1 + more - n.log2) * 2 ^ n.log2 := by rw [← Nat.pow_add]; congr 1; omega
    rw [e3] at e1
    exact Nat.lt_of_lt_of_le e1 (Nat.mul_le_mul_left _ e2)
  by_cases q0 : 2 * (m <<< more / n) + (m <<< more % n != 0).toNat = 0
  · exact .inl q0
  right
  have hlt : 2 * (m <<< more / n) + (m <<< more % n != 0).toNat < 2 ^ (m.log2 + 1 + more - n.log2 + 1) := by
    rw [Nat.pow_succ]
    have := Bool.toNat_le (m <<< more % n != 0)
    omega
  have := (Nat.log2_lt q0).2 hlt
  omega

/-- The parts of a product that are not narrowed, of numbers of units. -/
theorem wp_dy {a b c d i j : Nat} {A B C D : Int} (ha : Dy .f32 i a A) (hb : Dy .f32 i b B) (hc : Dy .f32 j c C) (hd : Dy .f32 j d D) (hij : i + j ≤ 60) (hA : A.natAbs ≤ 2048) (hB : B.natAbs ≤ 2048) (hC : C.natAbs ≤ 2048) (hD : D.natAbs ≤ 2048) :
    DyV .f64 (i + j) (wpR a b c d) (A * C - B * D) ∧ DyV .f64 (i + j) (wpI a b c d) (A * D + B * C) := by
  have p1 := natAbs_mul_le hA hC
  have p2 := natAbs_mul_le hB hD
  have p3 := natAbs_mul_le hA hD
  have p4 := natAbs_mul_le hB hC
  have va := (DyV.of ha).widen
  have vb := (DyV.of hb).widen
  have vc := (DyV.of hc).widen
  have vd := (DyV.of hd).widen
  exact ⟨(va.mul vc hij (by rw [bin64]; omega)).sub (vb.mul vd hij (by rw [bin64]; omega)) hij (by rw [bin64]; omega), (va.mul vd hij (by rw [bin64]; omega)).add (vb.mul vc hij (by rw [bin64]; omega)) hij (by rw [bin64]; omega)⟩
theorem pw_dy {a b i : Nat} {A B : Int} (ha : Dy .f32 i a A) (hb : Dy .f32 i b B) (hi : i + i ≤ 60) (hA : A.natAbs ≤ 2048) (hB : B.natAbs ≤ 2048) : DyV .f64 (i + i) (pwW a b) (A * A + B * B) := by
  have p1 := natAbs_mul_le hA hA
  have p2 := natAbs_mul_le hB hB
  have va := (DyV.of ha).widen
  have vb := (DyV.of hb).widen
  exact (va.mul va hi (by rw [bin64]; omega)).add (vb.mul vb hi (by rw [bin64]; omega)) hi (by rw [bin64]; omega)
theorem dy_negf {d b : Nat} {n : Int} (h : b < 2 ^ 32) (hw : Dy .f32 d b n) : Dy .f32 d (Op.negFloat .f32 b) (-n) := by
  have hr : rung .f32 (Op.negFloat .f32 b) = rung .f32 b := by unfold rung; rw [sw32]; exact negf_mod' b
  have hne : Op.negFloat .f32 b ≠ b := by
    intro e
    have h4 := congrArg (b ^^^ ·) e
    simp only [Op.negFloat] at h4
    rw [← Nat.xor_assoc, Nat.xor_self, Nat.zero_xor] at h4
    revert h4
    decide
  have hlt : Op.negFloat .f32 b < 2 ^ 32 := Nat.xor_lt_two_pow h (by decide)
  have hs : neg .f32 (Op.negFloat .f32 b) = !neg .f32 b := by
    have h1 := negf_mod' b
    unfold neg
    rw [sw32]
    generalize Op.negFloat .f32 b = x at *
    have h5 : b / 2147483648 = 0 ∨ b / 2147483648 = 1 := by omega
    have h6 : x / 2147483648 = 0 ∨ x / 2147483648 = 1 := by omega
    rcases h5 with h5 | h5 <;> rcases h6 with h6 | h6
    · exact absurd (show x = b by omega) hne
    · rw [h5, h6]; rfl
    · rw [h5, h6]; rfl
    · exact absurd (show x = b by omega) hne
  refine ⟨by rw [hr]; exact hw.1, by rw [hr, hw.2.1, Int.natAbs_neg], fun h0 => ?_⟩
  have hn : n ≠ 0 := fun e => h0 (by rw [e]; rfl)
  rw [hs, hw.2.2 hn]
  by_cases hs : n < 0
  · rw [decide_eq_true hs, decide_eq_false (show ¬ -n < 0 by omega)]; rfl
  · rw [decide_eq_false hs, decide_eq_true (show -n < 0 by omega)]; rfl
theorem dy_eq {k : FloatKind} {d a b : Nat} {n m : Int} (ha : Dy k d a n) (hb : Dy k d b m) : (k.format.order a b == some .eq) = decide (n = m) := by
  rw [dy_order ha hb]
  show (some (compareOfLessAndEq n m) == some Ordering.eq) = decide (n = m)
  unfold compareOfLessAndEq
  by_cases h : n < m
  · rw [if_pos h, decide_eq_false (show ¬ n = m by omega)]; rfl
  · by_cases e : n = m
    · rw [if_neg h, if_pos e, decide_eq_true e]; rfl
    · rw [if_neg h, if_neg e, decide_eq_false e]; rfl
theorem dy_zero (d : Nat) : Dy .f32 d 0 0 := ⟨by decide, by show U .f32 0 * 2 ^ d = _; rw [show U .f32 0 = 0 by decide]; simp, fun h => absurd rfl h⟩
end Go.Proofs.Ytljclagfplildaa.Fl
namespace Go.Proofs.Ytljclagfplildaa
open Go Go.RowKit Go.Deep Go.Proofs.Ytljclagfplildaa.Fl

/-- The voltages. -/
def v8R (j : Nat) : Nat := if j = 0 then 1090519040 else if j = 1 then 0 else 3238002688
def v8I (j : Nat) : Nat := if j = 1 then 1090519040 else 0
def v8A (j : Nat) : Int := if j = 0 then 8 else if j = 1 then 0 else -8
def v8B (j : Nat) : Int := if j = 1 then 8 else 0
theorem v8_ok : ∀ j, j < 3 → Dy .f32 0 (v8R j) (v8A j) ∧ Dy .f32 0 (v8I j) (v8B j) ∧ pwW (v8R j) (v8I j) = some 4634204016564240384 ∧ (v8A j * v8A j + v8B j * v8B j = 64 ∧ (v8A j).natAbs ≤ 8 ∧ (v8B j).natAbs ≤ 8) ∧ (v8R j < 2 ^ 32 ∧ v8I j < 2 ^ 32) ∧ v8R j % 2147483648 ≤ (4 + 127) * 8388608 ∧ v8I j % 2147483648 ≤ (4 + 127) * 8388608 := by
  decide +kernel
theorem r8_small : ∀ c, c < 256 → (r8re c % 2147483648 ≤ (1 + 127) * 8388608 ∧ r8im c % 2147483648 ≤ (1 + 127) * 8388608) ∧ (r8A c).natAbs ≤ 16 ∧ (r8B c).natAbs ≤ 16 := by
  decide +kernel
theorem isZ_dy {d b : Nat} {n : Int} (h : Dy .f32 d b n) : isZ b = decide (n = 0) := dy_eq h (dy_zero d)

theorem dy_nzero : Dy .f32 4 (Op.negFloat .f32 0) 0 := by decide +kernel
theorem load0 (c j : Nat) (hc : c < 256) (hj : j < 3) : ∃ t u p q, CurAt 0 (r8re c) (r8im c) (v8R j) (v8I j) t u ∧ MulV t (Op.negFloat .f32 u) (v8R j) (v8I j) p q ∧ Dy .f32 4 p (r8A c) ∧ Dy .f32 4 q (r8B c) := by
  obtain ⟨_, ⟨la, lb⟩, da, db⟩ := r8_ok c hc
  obtain ⟨_, nA, nB⟩ := r8_small c hc
  obtain ⟨vr, vi, hpw, ⟨hsq, hvA, hvB⟩, ⟨lr, li⟩, _⟩ := v8_ok j hj
  by_cases hz : (isZ (r8re c) && isZ (r8im c)) = true
  · have hz2 := hz
    rw [Bool.and_eq_true, isZ_dy da, isZ_dy db, decide_eq_true_eq, decide_eq_true_eq] at hz2
    obtain ⟨p, q, hm, dp, dq⟩ := dy_mulV (dy_zero 4) dy_nzero vr vi (by omega) (by decide) (by decide) (by omega) (by omega)
    refine ⟨0, 0, p, q, .inl ⟨hz, rfl, rfl⟩, hm, ?_, ?_⟩
    · rw [hz2.1]; simpa using dp
    · rw [hz2.2]; simpa using dq
  · have hz' : (isZ (r8re c) && isZ (r8im c)) = false := Bool.eq_false_iff.2 hz
    have vn := dy_negf li vi
    obtain ⟨w1, w2⟩ := wp_dy da db vr vn (by omega) (by omega) (by omega) (by omega) (by omega)
    have n1 := natAbs_mul_le nA hvA
    have n2 := natAbs_mul_le nB hvB
    have n3 := natAbs_mul_le nA hvB
    have n4 := natAbs_mul_le nB hvA
    have q1 := quo_64 w1 (by omega) (by rw [Int.mul_neg, Int.sub_neg]; omega)
    have q2 := quo_64 w2 (by omega) (by rw [Int.mul_neg]; omega)
    obtain ⟨⟨t, e1, y1⟩, o1⟩ := q1.narrow (by omega) (by rw [Int.mul_neg, Int.sub_neg]; omega)
    obtain ⟨⟨u, e2, y2⟩, o2⟩ := q2.narrow (by omega) (by rw [Int.mul_neg]; omega)
    obtain ⟨p, q, hm, dp, dq⟩ := dy_mulV y1 y2 vr vi (by omega) (by rw [Int.mul_neg, Int.sub_neg]; omega) (by rw [Int.mul_neg]; omega) (by omega) (by omega)
    refine ⟨t, Op.negFloat .f32 u, p, q, .inr ⟨hz', .inr (.inr ⟨rfl, u, ⟨⟨by rw [hpw]; exact o1, by rw [hpw]; exact e1⟩, ⟨by rw [hpw]; exact o2, by rw [hpw]; exact e2⟩⟩, rfl⟩)⟩, by rw [negf_negf']; exact hm, ?_, ?_⟩
    · refine Dy.coarser (d := 4) (e := 6) dp ?_
      have : r8A c * 64 = r8A c * (v8A j * v8A j + v8B j * v8B j) := by rw [hsq]
      show _ = r8A c * 64
      rw [this]; grind
    · refine Dy.coarser (d := 4) (e := 6) dq ?_
      have : r8B c * 64 = r8B c * (v8A j * v8A j + v8B j * v8B j) := by rw [hsq]
      show _ = r8B c * 64
      rw [this]; grind
theorem sq_nn (a : Int) : 0 ≤ a * a := by
  rcases Int.le_total 0 a with h | h
  · exact Int.mul_nonneg h h
  · have := Int.mul_nonneg (show 0 ≤ -a by omega) (show 0 ≤ -a by omega)
    rwa [Int.neg_mul_neg] at this
theorem b32_zero (E : Nat) : B32 E 0 := ⟨by decide, by simp⟩
theorem load1 (c j : Nat) (hc : c < 256) (hj : j < 3) : ∃ t u p q, CurAt 1 (r8re c) (r8im c) (v8R j) (v8I j) t u ∧ MulV t (Op.negFloat .f32 u) (v8R j) (v8I j) p q ∧ (B32 26 p ∧ B32 26 q) ∧ (FloatKind.f32.format.order t (r8re c) == some .eq) = true ∧ (FloatKind.f32.format.order u (r8im c) == some .eq) = true := by
  obtain ⟨_, ⟨la, lb⟩, da, db⟩ := r8_ok c hc
  obtain ⟨⟨sA, sB⟩, nA, nB⟩ := r8_small c hc
  obtain ⟨vr, vi, hpw, ⟨hsq, hvA, hvB⟩, ⟨lr, li⟩, sR, sI⟩ := v8_ok j hj
  have bV : B32 4 (v8R j) := ⟨lr, sR⟩
  have bW : B32 4 (v8I j) := ⟨li, sI⟩
  by_cases hz : (isZ (r8re c) && isZ (r8im c)) = true
  · have hz2 := hz
    rw [Bool.and_eq_true, isZ_dy da, isZ_dy db, decide_eq_true_eq, decide_eq_true_eq] at hz2
    obtain ⟨p, q, hm, b1, b2⟩ := mul_gd (b32_zero 1) (b32_zero 1).negf bV bW (by omega)
    refine ⟨0, 0, p, q, .inl ⟨hz, rfl, rfl⟩, hm, ⟨b1.mono (by omega), b2.mono (by omega)⟩, ?_, ?_⟩
    · rw [dy_eq (dy_zero 4) da, hz2.1]; rfl
    · rw [dy_eq (dy_zero 4) db, hz2.2]; rfl
  · have hz' : (isZ (r8re c) && isZ (r8im c)) = false := Bool.eq_false_iff.2 hz
    have b1 : B32 1 (r8re c) := ⟨la, sA⟩
    have b2 : B32 1 (r8im c) := ⟨lb, sB⟩
    obtain ⟨p, q, hm, b3, b4⟩ := mul_gd b1 b2.negf bV bW (by omega)
    exact ⟨_, _, p, q, .inr ⟨hz', .inl ⟨rfl, rfl, rfl⟩⟩, hm, ⟨b3.mono (by omega), b4.mono (by omega)⟩, by rw [dy_eq da da]; simp, by rw [dy_eq db db]; simp⟩
theorem load2 (c j : Nat) (hc : c < 256) (hj : j < 3) : ∃ t u p q, CurAt 2 (r8re c) (r8im c) (v8R j) (v8I j) t u ∧ MulV t (Op.negFloat .f32 u) (v8R j) (v8I j) p q ∧ (B32 26 p ∧ B32 26 q) := by
  obtain ⟨_, ⟨la, lb⟩, da, db⟩ := r8_ok c hc
  obtain ⟨⟨sA, sB⟩, nA, nB⟩ := r8_small c hc
  obtain ⟨vr, vi, hpw, ⟨hsq, hvA, hvB⟩, ⟨lr, li⟩, sR, sI⟩ := v8_ok j hj
  have bV : B32 4 (v8R j) := ⟨lr, sR⟩
  have bW : B32 4 (v8I j) := ⟨li, sI⟩
  by_cases hz : (isZ (r8re c) && isZ (r8im c)) = true
  · obtain ⟨p, q, hm, b1, b2⟩ := mul_gd (b32_zero 1) (b32_zero 1).negf bV bW (by omega)
    exact ⟨0, 0, p, q, .inl ⟨hz, rfl, rfl⟩, hm, b1.mono (by omega), b2.mono (by omega)⟩
  · have hz' : (isZ (r8re c) && isZ (r8im c)) = false := Bool.eq_false_iff.2 hz
    have b1 : B32 1 (r8re c) := ⟨la, sA⟩
    have b2 : B32 1 (r8im c) := ⟨lb, sB⟩
    have hM : r8A c * r8A c + r8B c * r8B c ≠ 0 := by
      intro h
      have h1 : 0 ≤ r8A c * r8A c := sq_nn _
      have h2 : 0 ≤ r8B c * r8B c := sq_nn _
      have h3 : r8A c = 0 := by rcases Int.mul_eq_zero.1 (show r8A c * r8A c = 0 by omega) with h | h <;> exact h
      have h4 : r8B c = 0 := by rcases Int.mul_eq_zero.1 (show r8B c * r8B c = 0 by omega) with h | h <;> exact h
      rw [isZ_dy da, isZ_dy db, h3, h4] at hz'
      simp at hz'
    obtain ⟨w, hw, hd⟩ := pw_dy da db (by omega) (by omega) (by omega)
    obtain ⟨g1, g2⟩ := wp_gd bV bW b1 b2.negf (by omega)
    have q1 := quo_low (by omega) g1 hd hM
    have q2 := quo_low (by omega) g2 hd hM
    obtain ⟨t, n1, t1⟩ := nar_gd q1 (by omega)
    obtain ⟨u, n2, u1⟩ := nar_gd q2 (by omega)
    obtain ⟨p, q, hm, b3, b4⟩ := mul_gd t1 u1.negf bV bW (by omega)
    exact ⟨t, u, p, q, .inr ⟨hz', .inr (.inl ⟨rfl, ⟨by rw [hw]; exact n1, by rw [hw]; exact n2⟩⟩)⟩, hm, b3.mono (by omega), b4.mono (by omega)⟩
/-- The sums of three. -/
theorem dotS_dy (p : Nat → Nat) (A : Nat → Int) (h : ∀ j, j < 3 → Dy .f32 4 (p j) (A j)) (hA : ∀ j, j < 3 → (A j).natAbs ≤ 16) : ∃ P, dotS p 3 = some P ∧ Dy .f32 4 P (A 0 + A 1 + A 2) := by
  have h0 := hA 0 (by omega)
  have h1 := hA 1 (by omega)
  have h2 := hA 2 (by omega)
  have s1 : DyV .f32 4 (dotS p 1) (0 + A 0) := DyV.add (x := some 0) ⟨0, rfl, dy_zero 4⟩ (DyV.of (h 0 (by omega))) (by omega) (by rw [bin32]; omega)
  have s2 : DyV .f32 4 (dotS p 2) (0 + A 0 + A 1) := DyV.add s1 (DyV.of (h 1 (by omega))) (by omega) (by rw [bin32]; omega)
  obtain ⟨P, hP, dP⟩ : DyV .f32 4 (dotS p 3) (0 + A 0 + A 1 + A 2) := DyV.add s2 (DyV.of (h 2 (by omega))) (by omega) (by rw [bin32]; omega)
  exact ⟨P, hP, by rwa [Int.zero_add] at dP⟩
theorem dotS_b32 (p : Nat → Nat) (h : ∀ j, j < 3 → B32 26 (p j)) : ∃ P, dotS p 3 = some P := by
  obtain ⟨a, e1, b1⟩ := B32.add (b32_zero 26) (h 0 (by omega)) (by omega)
  obtain ⟨b, e2, b2⟩ := B32.add b1 ((h 1 (by omega)).mono (show 26 ≤ 27 by omega)) (by omega)
  obtain ⟨d, e3, b3⟩ := B32.add b2 ((h 2 (by omega)).mono (show 26 ≤ 28 by omega)) (by omega)
  have v0 : vl .f32 0 = some 0 := by decide
  rw [v0] at e1
  have va : vl .f32 a = some a := fin_vl (b1.fin (by omega))
  have vb : vl .f32 b = some b := fin_vl (b2.fin (by omega))
  refine ⟨d, ?_⟩
  show fop .add .f32 (fop .add .f32 (fop .add .f32 (some 0) (vl .f32 (p 0))) (vl .f32 (p 1))) (vl .f32 (p 2)) = some d
  rw [e1, ← va, e2, ← vb, e3]
end Go.Proofs.Ytljclagfplildaa
