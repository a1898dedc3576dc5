/-
  Plain facts on floats, no program: bounds of magnitudes through the operations (crude ones: they show that nothing overflows), and when a rounding is exact. No theorem of a claim stands here.
-/
import Derived.Test.YthkjikennlaelaaFl
set_option linter.unusedSimpArgs false
namespace Go.Proofs.Ythkjikennlaelaa.Fl
open Go Go.RowKit

theorem cut_le (way : Ieee.Toward) (neg : Bool) (n drop : Nat) : way.cut neg n drop ≤ n / (1 <<< min drop (n.log2 + 2)) + 1 := by
  unfold Ieee.Toward.cut
  simp only
  exact Nat.add_le_add_left (Bool.toNat_le _) _

theorem cut_ge (way : Ieee.Toward) (neg : Bool) (n drop : Nat) : n / (1 <<< min drop (n.log2 + 2)) ≤ way.cut neg n drop := by
  unfold Ieee.Toward.cut
  exact Nat.le_add_right _ _

theorem cut_zero (way : Ieee.Toward) (neg : Bool) (n : Nat) : way.cut neg n 0 = n := by
  unfold Ieee.Toward.cut
  cases way <;> simp [Nat.mod_one]

/-- The place of a number's leading digit is at most e: its rounding is at most 2^(e+1), as a rung. -/
theorem nearest_kept (f : Ieee.Format) (neg : Bool) (m : Nat) (i : Int) :
    Ieee.Toward.even.cut neg (m <<< (i - max (i + m.log2 - f.fractionBits) f.leastPlace).toNat) (max (i + m.log2 - f.fractionBits) f.leastPlace - i).toNat
      ≤ if i + m.log2 - f.fractionBits < f.leastPlace then f.binade else 2 * f.binade := by
  have hlt : m < 2 ^ (m.log2 + 1) := Nat.lt_log2_self
  have hB : f.binade = 2 ^ f.fractionBits := rfl
  generalize hlast : max (i + m.log2 - f.fractionBits) f.leastPlace = last
  by_cases hi : last ≤ i
  · -- nothing is dropped
    rw [show (last - i).toNat = 0 by omega, cut_zero, Nat.shiftLeft_eq]
    have h1 : m * 2 ^ (i - last).toNat < 2 ^ (m.log2 + 1) * 2 ^ (i - last).toNat := Nat.mul_lt_mul_of_pos_right hlt (Nat.two_pow_pos _)
    rw [← Nat.pow_add] at h1
    split
    · have h2 : m.log2 + 1 + (i - last).toNat ≤ f.fractionBits := by omega
      have := Nat.pow_le_pow_right (n := 2) (by omega) h2
      rw [hB]; omega
    · have h2 : m.log2 + 1 + (i - last).toNat ≤ f.fractionBits + 1 := by omega
      have := Nat.pow_le_pow_right (n := 2) (by omega) h2
      rw [hB]; rw [Nat.pow_succ] at this; omega
  · rw [show (i - last).toNat = 0 by omega, Nat.shiftLeft_zero]
    refine Nat.le_trans (cut_le _ _ _ _) ?_
    rw [Nat.one_shiftLeft]
    have hgap : m / 2 ^ min (last - i).toNat (m.log2 + 2) < 2 ^ (m.log2 + 1 - min (last - i).toNat (m.log2 + 2)) := by
      rw [Nat.div_lt_iff_lt_mul (Nat.two_pow_pos _), ← Nat.pow_add]
      exact Nat.lt_of_lt_of_le hlt (Nat.pow_le_pow_right (by omega) (by omega))
    refine Nat.le_trans (Nat.succ_le_of_lt hgap) ?_
    split
    · rw [hB]; exact Nat.pow_le_pow_right (by omega) (by omega)
    · rw [hB, Nat.mul_comm, ← Nat.pow_succ]; exact Nat.pow_le_pow_right (by omega) (by omega)

theorem nearest_rung (f : Ieee.Format) (neg : Bool) (m : Nat) (i : Int) :
    f.nearest neg m i % f.signWeight = if m = 0 then 0 else
      min (((max (i + m.log2 - f.fractionBits) f.leastPlace) - f.leastPlace).toNat * f.binade +
        Ieee.Toward.even.cut neg (m <<< (i - max (i + m.log2 - f.fractionBits) f.leastPlace).toNat) (max (i + m.log2 - f.fractionBits) f.leastPlace - i).toNat) f.infRung := by
  have hi := f.infRung_lt
  unfold Ieee.Format.nearest
  split
  · rw [word_mod]; omega
  · simp only
    rw [word_mod]
    exact Nat.lt_of_le_of_lt (Nat.min_le_right _ _) hi

/-- The rung of 2^E: (E + bias) binades. -/
def bias (k : FloatKind) : Nat := match k with | .f32 => 127 | .f64 => 1023

theorem least_bias (k : FloatKind) : k.format.leastPlace + k.format.fractionBits = 1 - (bias k : Int) := by cases k <;> decide

/-- |x| is at most 2^E. -/
def Bd (k : FloatKind) (E : Nat) (x : Option Nat) : Prop := ∀ b, x = some b → b % k.format.signWeight ≤ (E + bias k) * k.format.binade

theorem nearest_bd (k : FloatKind) (neg : Bool) (m : Nat) (i : Int) (E : Nat) (h : m = 0 ∨ i + m.log2 < E) :
    k.format.nearest neg m i % k.format.signWeight ≤ (E + bias k) * k.format.binade := by
  rw [nearest_rung]
  split
  · omega
  · rename_i hm
    have hE : i + m.log2 < E := by rcases h with h | h; exact absurd h hm; exact h
    refine Nat.le_trans (Nat.min_le_left _ _) ?_
    have hk := nearest_kept k.format neg m i
    have hl := least_bias k
    refine Nat.le_trans (Nat.add_le_add_left hk _) ?_
    split
    · rw [show ((max (i + m.log2 - k.format.fractionBits) k.format.leastPlace) - k.format.leastPlace).toNat = 0 by omega, Nat.zero_mul, Nat.zero_add]
      have hb : 1 ≤ bias k := by cases k <;> decide
      exact Nat.le_mul_of_pos_left _ (by omega)
    · rw [← Nat.add_mul]
      exact Nat.mul_le_mul_right _ (by omega)

theorem bd_mono {k : FloatKind} {E E' : Nat} {x : Option Nat} (h : Bd k E x) (he : E ≤ E') : Bd k E' x := fun b hb =>
  Nat.le_trans (h b hb) (Nat.mul_le_mul_right _ (by omega))

/-- What a word within 2^E reads as: a number whose leading digit's place is at most E. -/
theorem read_bd (k : FloatKind) (E b : Nat) (h : b % k.format.signWeight ≤ (E + bias k) * k.format.binade) (hE : E < bias k) :
    ∃ s m i, k.decode b = .number s m i ∧ k.format.leastPlace ≤ i ∧ i ≤ E ∧ (m = 0 ∨ i + m.log2 ≤ E) ∧ m < 2 * k.format.binade := by
  have hl := least_bias k
  have hbp : 0 < k.format.binade := Nat.two_pow_pos _
  have hinf : (E + bias k) * k.format.binade < k.format.infRung := by
    have e : k.format.infRung = (2 * bias k + 1) * k.format.binade := by cases k <;> decide
    rw [e]; exact Nat.mul_lt_mul_of_pos_right (by omega) hbp
  show ∃ s m i, k.format.read b = .number s m i ∧ _
  unfold Ieee.Format.read
  simp only
  split
  · rename_i hr
    refine ⟨_, _, _, rfl, Int.le_refl _, by omega, ?_, by omega⟩
    by_cases h0 : b % k.format.signWeight = 0
    · exact .inl h0
    · right
      have := (Nat.log2_lt h0).2 (show _ < 2 ^ k.format.fractionBits from hr)
      omega
  · rename_i hr
    rw [if_pos (Nat.lt_of_le_of_lt h hinf)]
    have hj : b % k.format.signWeight / k.format.binade ≤ E + bias k := by
      have := Nat.div_le_div_right (c := k.format.binade) h
      rwa [Nat.mul_div_cancel _ hbp] at this
    have hj1 : 1 ≤ b % k.format.signWeight / k.format.binade := (Nat.le_div_iff_mul_le hbp).2 (by omega)
    have hmod : b % k.format.signWeight % k.format.binade < k.format.binade := Nat.mod_lt _ hbp
    have hlog : (k.format.binade + b % k.format.signWeight % k.format.binade).log2 = k.format.fractionBits :=
      (Nat.log2_eq_iff (by omega)).2 ⟨Nat.le_add_right _ _, by rw [Nat.pow_succ]; show _ < k.format.binade * 2; omega⟩
    refine ⟨_, _, _, rfl, by omega, by omega, .inr ?_, by omega⟩
    rw [hlog]
    omega

theorem vl_decode {k : FloatKind} {x b : Nat} (h : vl k x = some b) : x = b := vl_some h

/-- A sum of two within 2^E is within 2^(E+2). -/
theorem bd_sum {k : FloatKind} {E : Nat} {a b r : Nat} (hE : E < bias k) (ha : a % k.format.signWeight ≤ (E + bias k) * k.format.binade) (hb : b % k.format.signWeight ≤ (E + bias k) * k.format.binade)
    (d : Ieee.Datum) (g : Ieee.Datum → Ieee.Datum) (hg : ∀ s m i, ∃ s', g (.number s m i) = .number s' m i) (hd : (k.decode a).sum (g (k.decode b)) = some d) (hr : r = k.format.write d) : r % k.format.signWeight ≤ (E + 2 + bias k) * k.format.binade := by
  obtain ⟨s, m, i, h1, hi1, hi2, hm, _⟩ := read_bd k E a ha hE
  obtain ⟨t0, n, j, h2, hj1, hj2, hn, _⟩ := read_bd k E b hb hE
  obtain ⟨t, h3⟩ := hg t0 n j
  rw [h1, h2, h3] at hd
  simp only [Ieee.Datum.sum, Option.some.injEq] at hd
  subst hd; subst hr
  simp only [Ieee.Format.write]
  apply nearest_bd
  have key : ∀ (x : Nat) (y : Int) (q : Bool), (x = 0 ∨ y + x.log2 ≤ E) → min i j ≤ y → (Ieee.signed q x (y - min i j).toNat).natAbs < 2 ^ (E + 1 - min i j).toNat := by
    intro x y q h hy
    have e : (Ieee.signed q x (y - min i j).toNat).natAbs = x <<< (y - min i j).toNat := by
      unfold Ieee.signed; split
      · rw [Int.natAbs_neg, Int.natAbs_natCast]
      · rw [Int.natAbs_natCast]
    rw [e, Nat.shiftLeft_eq]
    rcases h with rfl | h
    · simp; exact Nat.two_pow_pos _
    · have := Nat.mul_lt_mul_of_pos_right (Nat.lt_log2_self (n := x)) (Nat.two_pow_pos (y - min i j).toNat)
      rw [← Nat.pow_add] at this
      exact Nat.lt_of_lt_of_le this (Nat.pow_le_pow_right (by omega) (by omega))
  have k1 := key m i s hm (Int.min_le_left _ _)
  have k2 := key n j t hn (Int.min_le_right _ _)
  by_cases h0 : (Ieee.signed s m (i - min i j).toNat + Ieee.signed t n (j - min i j).toNat).natAbs = 0
  · exact .inl h0
  · right
    have h4 : (Ieee.signed s m (i - min i j).toNat + Ieee.signed t n (j - min i j).toNat).natAbs < 2 ^ ((E + 1 - min i j).toNat + 1) := by
      rw [Nat.pow_succ]
      have := Int.natAbs_add_le (Ieee.signed s m (i - min i j).toNat) (Ieee.signed t n (j - min i j).toNat)
      omega
    have := (Nat.log2_lt h0).2 h4
    omega

theorem bd_fadd {k : FloatKind} {E : Nat} {x y : Option Nat} (hE : E < bias k) (hx : Bd k E x) (hy : Bd k E y) : Bd k (E + 2) (fop .add k x y) := by
  intro r hr
  cases x <;> cases y <;> simp [fop] at hr
  rename_i a b
  simp only [floatBits, Ieee.Format.add, Option.map_eq_some_iff] at hr
  obtain ⟨d, hd, hr⟩ := hr
  exact bd_sum hE (hx _ rfl) (hy _ rfl) d id (fun s m i => ⟨s, rfl⟩) hd hr.symm

theorem bd_fsub {k : FloatKind} {E : Nat} {x y : Option Nat} (hE : E < bias k) (hx : Bd k E x) (hy : Bd k E y) : Bd k (E + 2) (fop .sub k x y) := by
  intro r hr
  cases x <;> cases y <;> simp [fop] at hr
  rename_i a b
  simp only [floatBits, Ieee.Format.sub, Option.map_eq_some_iff] at hr
  obtain ⟨d, hd, hr⟩ := hr
  exact bd_sum hE (hx _ rfl) (hy _ rfl) d Ieee.Datum.opposite (fun s m i => ⟨!s, rfl⟩) hd hr.symm

theorem log2_mul_le (m n : Nat) (hm : m ≠ 0) (hn : n ≠ 0) : (m * n).log2 ≤ m.log2 + n.log2 + 1 := by
  have h : m * n < 2 ^ (m.log2 + n.log2 + 2) := by
    rw [show m.log2 + n.log2 + 2 = (m.log2 + 1) + (n.log2 + 1) by omega, Nat.pow_add]
    exact Nat.mul_lt_mul'' Nat.lt_log2_self Nat.lt_log2_self
  have := (Nat.log2_lt (Nat.mul_ne_zero hm hn)).2 h
  omega

theorem bd_fmul {k : FloatKind} {E G : Nat} {x y : Option Nat} (hE : E < bias k) (hG : G < bias k) (hx : Bd k E x) (hy : Bd k G y) : Bd k (E + G + 2) (fop .mul k x y) := by
  intro r hr
  cases x <;> cases y <;> simp [fop] at hr
  rename_i a b
  simp only [floatBits, Ieee.Format.mul, Option.map_eq_some_iff] at hr
  obtain ⟨d, hd, hr⟩ := hr
  obtain ⟨s, m, i, h1, hi1, hi2, hm, _⟩ := read_bd k E a (hx _ rfl) hE
  obtain ⟨t, n, j, h2, hj1, hj2, hn, _⟩ := read_bd k G b (hy _ rfl) hG
  rw [show k.format.read a = _ from h1, show k.format.read b = _ from h2] at hd
  simp only [Ieee.Datum.product, Option.some.injEq] at hd
  subst hd; subst hr
  simp only [Ieee.Format.write]
  apply nearest_bd
  rcases hm with rfl | hm
  · left; simp
  rcases hn with rfl | hn
  · left; simp
  by_cases m0 : m = 0
  · left; simp [m0]
  by_cases n0 : n = 0
  · left; simp [n0]
  right
  have := log2_mul_le m n m0 n0
  omega

/-- |y| is at least 2^G, and y is finite (or infinite). -/
def Ge (k : FloatKind) (G : Nat) (y : Option Nat) : Prop := ∀ b, y = some b → (G + bias k) * k.format.binade ≤ b % k.format.signWeight

theorem read_ge (k : FloatKind) (G b : Nat) (h : (G + bias k) * k.format.binade ≤ b % k.format.signWeight) (hn : (k.decode b).isNaN = false) :
    (∃ s, k.decode b = .infinity s) ∨ ∃ s m i, k.decode b = .number s m i ∧ m ≠ 0 ∧ G ≤ i + m.log2 := by
  have hl := least_bias k
  have hb1 : 1 ≤ bias k := by cases k <;> decide
  have hbp : 0 < k.format.binade := Nat.two_pow_pos _
  have hge : k.format.binade ≤ b % k.format.signWeight := Nat.le_trans (Nat.le_mul_of_pos_left _ (by omega)) h
  show (∃ s, k.format.read b = .infinity s) ∨ ∃ s m i, k.format.read b = .number s m i ∧ _
  have hn' : (k.format.read b).isNaN = false := hn
  unfold Ieee.Format.read at hn' ⊢
  simp only at hn' ⊢
  rw [if_neg (by omega)] at hn' ⊢
  split
  · right
    have hj : G + bias k ≤ b % k.format.signWeight / k.format.binade := (Nat.le_div_iff_mul_le hbp).2 h
    have hmod : b % k.format.signWeight % k.format.binade < k.format.binade := Nat.mod_lt _ hbp
    have hlog : (k.format.binade + b % k.format.signWeight % k.format.binade).log2 = k.format.fractionBits :=
      (Nat.log2_eq_iff (by omega)).2 ⟨Nat.le_add_right _ _, by rw [Nat.pow_succ]; show _ < k.format.binade * 2; omega⟩
    refine ⟨_, _, _, rfl, by omega, ?_⟩
    rw [hlog]; omega
  · rename_i h2
    rw [if_neg h2] at hn'
    split
    · exact .inl ⟨_, rfl⟩
    · rename_i h3
      rw [if_neg h3] at hn'
      simp [Ieee.Datum.isNaN] at hn'

/-- A quotient by what is at least 1 in magnitude: within 2^(E+1). -/
theorem bd_fquo {k : FloatKind} {E : Nat} {x y : Option Nat} (hE : E < bias k) (hx : Bd k E x) (hy : Ge k 0 y) : Bd k (E + 1) (fop .quo k x y) := by
  intro r hr
  cases x <;> cases y <;> simp [fop] at hr
  rename_i a b
  have hnan := (floatBits_nan (show floatBits .quo k a b = some r from hr)).2.2
  simp only [floatBits, Ieee.Format.div, Option.map_eq_some_iff] at hr
  obtain ⟨d, hd, hr⟩ := hr
  obtain ⟨s, m, i, h1, hi1, hi2, hm, _⟩ := read_bd k E a (hx _ rfl) hE
  rw [show k.format.read a = _ from h1] at hd
  have hn : (k.decode b).isNaN = false := by
    unfold vl at hnan; split at hnan
    · cases hnan
    · rename_i h0; exact Bool.eq_false_iff.2 h0
  rcases read_ge k 0 b (hy _ rfl) hn with ⟨t, h2⟩ | ⟨t, n, j, h2, n0, hn⟩
  · rw [show k.format.read b = _ from h2] at hd
    simp only [Ieee.Datum.quotient, Option.some.injEq] at hd
    subst hd; subst hr
    simp only [Ieee.Format.write]
    exact nearest_bd _ _ _ _ _ (.inl rfl)
  · rw [show k.format.read b = _ from h2] at hd
    simp only [Ieee.Datum.quotient, n0, if_false, Option.some.injEq] at hd
    subst hd; subst hr
    simp only [Ieee.Format.write]
    apply nearest_bd
    by_cases m0 : m = 0
    · left; subst m0; simp
    have hm : i + m.log2 ≤ E := by rcases hm with h | h; exact absurd h m0; exact h
    generalize hmore : k.format.fractionBits + 2 + n.log2 - m.log2 = more
    have hD : m <<< more / n < 2 ^ (m.log2 + 1 + more - n.log2) := by
      rw [Nat.shiftLeft_eq, Nat.div_lt_iff_lt_mul (by omega)]
      have e1 : m * 2 ^ more < 2 ^ (m.log2 + 1 + more) := by
        rw [Nat.pow_add]; exact Nat.mul_lt_mul_of_pos_right Nat.lt_log2_self (Nat.two_pow_pos _)
      have e2 : 2 ^ n.log2 ≤ n := Nat.log2_self_le n0
      have e3 : 2 ^ (m.log2 + 1 + more) = 2 ^ (m.log2 + 1 + more - n.log2) * 2 ^ n.log2 := by rw [← Nat.pow_add]; congr 1; omega
      rw [e3] at e1
      exact Nat.lt_of_lt_of_le e1 (Nat.mul_le_mul_left _ e2)
    by_cases q0 : 2 * (m <<< more / n) + (m <<< more % n != 0).toNat = 0
    · exact .inl q0
    right
    have hlt : 2 * (m <<< more / n) + (m <<< more % n != 0).toNat < 2 ^ (m.log2 + 1 + more - n.log2 + 1) := by
      rw [Nat.pow_succ]
      have := Bool.toNat_le (m <<< more % n != 0)
      omega
    have := (Nat.log2_lt q0).2 hlt
    omega

/-- Within 2^126 a float64 is not too great for float32. -/
theorem over_bd {E : Nat} {x : Option Nat} (hx : Bd .f64 E x) (hE : E ≤ 126) : over .f64 .f32 x = false := by
  cases x with
  | none => rfl
  | some a =>
    obtain ⟨s, m, i, h1, _, _, hm, _⟩ := read_bd .f64 E a (hx _ rfl) (by show E < 1023; omega)
    simp only [over, Option.any_some, h1]
    have hb := nearest_bd .f32 s m i 127 (by rcases hm with h | h; exact .inl h; right; omega)
    have hdec : (FloatKind.f32.decode (FloatKind.f32.encode (.number s m i))).isInfinity = false := by
      show (FloatKind.f32.format.read (FloatKind.f32.format.nearest s m i)).isInfinity = false
      have hlt : FloatKind.f32.format.nearest s m i % FloatKind.f32.format.signWeight < FloatKind.f32.format.infRung :=
        Nat.lt_of_le_of_lt hb (by decide)
      unfold Ieee.Format.read
      simp only [hlt, if_true]
      split <;> rfl
    rw [hdec]; simp
end Go.Proofs.Ythkjikennlaelaa.Fl
