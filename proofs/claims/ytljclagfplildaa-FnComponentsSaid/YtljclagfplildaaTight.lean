/-
  Plain facts on floats, no program: bounds of magnitudes that are kept to the power of two. No theorem of a claim stands here.
-/
import Derived.Test.YtljclagfplildaaFe
set_option linter.unusedSimpArgs false
set_option linter.unusedVariables false
namespace Go.Proofs.Ytljclagfplildaa.Fl
open Go Go.RowKit

/-- m * 2^i is at most 2^E. -/
def Le (m : Nat) (i : Int) (E : Int) : Prop := m = 0 ∨ i + m.log2 < E ∨ (i + m.log2 = E ∧ m = 2 ^ m.log2)

theorem le_iff {m : Nat} {i E b : Int} (hb : b ≤ i) (hb2 : b ≤ E) : Le m i E ↔ m * 2 ^ (i - b).toNat ≤ 2 ^ (E - b).toNat := by
  constructor
  · rintro (rfl | h | ⟨h, h2⟩)
    · simp
    · have := Nat.mul_lt_mul_of_pos_right (Nat.lt_log2_self (n := m)) (Nat.two_pow_pos (i - b).toNat)
      rw [← Nat.pow_add] at this
      exact Nat.le_of_lt (Nat.lt_of_lt_of_le this (Nat.pow_le_pow_right (by omega) (by omega)))
    · rw [h2, ← Nat.pow_add]
      exact Nat.pow_le_pow_right (by omega) (by omega)
  · intro h
    by_cases m0 : m = 0
    · exact .inl m0
    · right
      have hlo : 2 ^ m.log2 ≤ m := Nat.log2_self_le m0
      have h1 : 2 ^ (m.log2 + (i - b).toNat) ≤ 2 ^ (E - b).toNat := by
        rw [Nat.pow_add]; exact Nat.le_trans (Nat.mul_le_mul_right _ hlo) h
      have h2 := (Nat.pow_le_pow_iff_right (show 1 < 2 by omega)).1 h1
      by_cases he : i + m.log2 < E
      · exact .inl he
      · right
        refine ⟨by omega, ?_⟩
        have e : (E - b).toNat = m.log2 + (i - b).toNat := by omega
        rw [e, Nat.pow_add] at h
        exact Nat.le_antisymm (Nat.le_of_mul_le_mul_right h (Nat.two_pow_pos _)) hlo

theorem cut_exact (neg : Bool) (n drop : Nat) (h : n % (1 <<< min drop (n.log2 + 2)) = 0) : Ieee.Toward.even.cut neg n drop = n / (1 <<< min drop (n.log2 + 2)) := by
  have hp : 0 < 1 <<< min drop (n.log2 + 2) := by rw [Nat.one_shiftLeft]; exact Nat.two_pow_pos _
  unfold Ieee.Toward.cut
  simp only
  rw [h]
  have h1 : decide (1 <<< min drop (n.log2 + 2) < 2 * 0) = false := by simp
  have h2 : (1 <<< min drop (n.log2 + 2) == 2 * 0) = false := by rw [beq_eq_false_iff_ne]; omega
  rw [h1, h2]; simp

theorem nearest_le (k : FloatKind) (neg : Bool) (m : Nat) (i : Int) (E : Nat) (h : Le m i E) :
    k.format.nearest neg m i % k.format.signWeight ≤ (E + bias k) * k.format.binade := by
  rcases h with h | h | ⟨h, h2⟩
  · exact nearest_bd k neg m i E (.inl h)
  · exact nearest_bd k neg m i E (.inr h)
  · rw [nearest_rung]
    split
    · omega
    · refine Nat.le_trans (Nat.min_le_left _ _) ?_
      have hl := least_bias k
      have hb : 1 ≤ bias k := by cases k <;> decide
      have hB : k.format.binade = 2 ^ k.format.fractionBits := rfl
      have hmax : max (i + m.log2 - k.format.fractionBits) k.format.leastPlace = (E : Int) - k.format.fractionBits := by omega
      rw [hmax]
      have hkept : Ieee.Toward.even.cut neg (m <<< (i - ((E : Int) - k.format.fractionBits)).toNat) ((E : Int) - k.format.fractionBits - i).toNat = k.format.binade := by
        by_cases hi : (E : Int) - k.format.fractionBits ≤ i
        · rw [show ((E : Int) - k.format.fractionBits - i).toNat = 0 by omega, cut_zero, Nat.shiftLeft_eq, h2, ← Nat.pow_add, hB]
          congr 1
          omega
        · rw [show (i - ((E : Int) - k.format.fractionBits)).toNat = 0 by omega, Nat.shiftLeft_zero]
          have hd : min ((E : Int) - k.format.fractionBits - i).toNat (m.log2 + 2) = m.log2 - k.format.fractionBits := by omega
          have hdvd : m = 2 ^ k.format.fractionBits * 2 ^ (m.log2 - k.format.fractionBits) := by
            rw [← Nat.pow_add, show k.format.fractionBits + (m.log2 - k.format.fractionBits) = m.log2 by omega]; exact h2
          have hm0 : m % (1 <<< min ((E : Int) - k.format.fractionBits - i).toNat (m.log2 + 2)) = 0 := by
            rw [hd, Nat.one_shiftLeft]
            generalize hg : m.log2 - k.format.fractionBits = g at hdvd
            rw [hdvd]; exact Nat.mul_mod_left _ _
          rw [cut_exact _ _ _ hm0, hd, Nat.one_shiftLeft, hB]
          generalize hg : m.log2 - k.format.fractionBits = g at hdvd
          have : 2 ^ k.format.fractionBits * 2 ^ g / 2 ^ g = 2 ^ k.format.fractionBits := Nat.mul_div_cancel _ (Nat.two_pow_pos _)
          rw [hdvd]; exact this
      rw [hkept]
      have e : ((E : Int) - k.format.fractionBits - k.format.leastPlace).toNat + 1 = E + bias k := by omega
      have : ((E : Int) - k.format.fractionBits - k.format.leastPlace).toNat * k.format.binade + k.format.binade = (((E : Int) - k.format.fractionBits - k.format.leastPlace).toNat + 1) * k.format.binade := by
        rw [Nat.add_mul, Nat.one_mul]
      rw [this, e]
      exact Nat.le_refl _

theorem read_le (k : FloatKind) (E b : Nat) (h : b % k.format.signWeight ≤ (E + bias k) * k.format.binade) (hE : E < bias k) :
    ∃ s m i, k.decode b = .number s m i ∧ k.format.leastPlace ≤ i ∧ i ≤ E ∧ Le m i E := by
  have hl := least_bias k
  have hbp : 0 < k.format.binade := Nat.two_pow_pos _
  have hinf : (E + bias k) * k.format.binade < k.format.infRung := by
    have e : k.format.infRung = (2 * bias k + 1) * k.format.binade := by cases k <;> decide
    rw [e]; exact Nat.mul_lt_mul_of_pos_right (by omega) hbp
  show ∃ s m i, k.format.read b = .number s m i ∧ _
  unfold Ieee.Format.read
  simp only
  split
  · rename_i hr
    refine ⟨_, _, _, rfl, Int.le_refl _, by omega, ?_⟩
    by_cases h0 : b % k.format.signWeight = 0
    · exact .inl h0
    · right; left
      have := (Nat.log2_lt h0).2 (show _ < 2 ^ k.format.fractionBits from hr)
      omega
  · rename_i hr
    rw [if_pos (Nat.lt_of_le_of_lt h hinf)]
    have hj : b % k.format.signWeight / k.format.binade ≤ E + bias k := by
      have := Nat.div_le_div_right (c := k.format.binade) h
      rwa [Nat.mul_div_cancel _ hbp] at this
    have hj1 : 1 ≤ b % k.format.signWeight / k.format.binade := (Nat.le_div_iff_mul_le hbp).2 (by omega)
    have hmod : b % k.format.signWeight % k.format.binade < k.format.binade := Nat.mod_lt _ hbp
    have hlog : (k.format.binade + b % k.format.signWeight % k.format.binade).log2 = k.format.fractionBits :=
      (Nat.log2_eq_iff (by omega)).2 ⟨Nat.le_add_right _ _, by rw [Nat.pow_succ]; show _ < k.format.binade * 2; omega⟩
    refine ⟨_, _, _, rfl, by omega, by omega, .inr ?_⟩
    rw [hlog]
    by_cases hjE : b % k.format.signWeight / k.format.binade = E + bias k
    · right
      have e := Nat.div_add_mod (b % k.format.signWeight) k.format.binade
      rw [hjE, Nat.mul_comm] at e
      have h0 : b % k.format.signWeight % k.format.binade = 0 := by omega
      refine ⟨by omega, ?_⟩
      rw [h0]; rfl
    · left; omega

theorem bd_sum' {k : FloatKind} {E : Nat} {a b r : Nat} (hE : E < bias k) (ha : a % k.format.signWeight ≤ (E + bias k) * k.format.binade) (hb : b % k.format.signWeight ≤ (E + bias k) * k.format.binade)
    (d : Ieee.Datum) (g : Ieee.Datum → Ieee.Datum) (hg : ∀ s m i, ∃ s', g (.number s m i) = .number s' m i) (hd : (k.decode a).sum (g (k.decode b)) = some d) (hr : r = k.format.write d) : r % k.format.signWeight ≤ (E + 1 + bias k) * k.format.binade := by
  obtain ⟨s, m, i, h1, hi1, hi2, hm⟩ := read_le k E a ha hE
  obtain ⟨t0, n, j, h2, hj1, hj2, hn⟩ := read_le k E b hb hE
  obtain ⟨t, h3⟩ := hg t0 n j
  rw [h1, h2, h3] at hd
  simp only [Ieee.Datum.sum, Option.some.injEq] at hd
  subst hd; subst hr
  simp only [Ieee.Format.write]
  have hm' := (le_iff (b := min i j) (Int.min_le_left _ _) (by omega)).1 hm
  have hn' := (le_iff (b := min i j) (Int.min_le_right _ _) (by omega)).1 hn
  have key : ∀ q x y, (Ieee.signed q x y).natAbs = x * 2 ^ y := by
    intro q x y
    unfold Ieee.signed; split
    · rw [Int.natAbs_neg, Int.natAbs_natCast, Nat.shiftLeft_eq]
    · rw [Int.natAbs_natCast, Nat.shiftLeft_eq]
  refine nearest_le k _ _ _ (E + 1) ?_
  refine (le_iff (b := min i j) (Int.le_refl _) (by omega)).2 ?_
  have e : (((E + 1 : Nat) : Int) - min i j).toNat = ((E : Int) - min i j).toNat + 1 := by omega
  rw [Int.sub_self, show Int.toNat 0 = 0 from rfl, Nat.pow_zero, Nat.mul_one, e, Nat.pow_succ]
  have h4 := Int.natAbs_add_le (Ieee.signed s m (i - min i j).toNat) (Ieee.signed t n (j - min i j).toNat)
  rw [key, key] at h4
  omega

theorem bd_fadd' {k : FloatKind} {E : Nat} {x y : Option Nat} (hE : E < bias k) (hx : Bd k E x) (hy : Bd k E y) : Bd k (E + 1) (fop .add k x y) := by
  intro r hr
  cases x <;> cases y <;> simp [fop] at hr
  simp only [floatBits, Ieee.Format.add, Option.map_eq_some_iff] at hr
  obtain ⟨d, hd, hr⟩ := hr
  exact bd_sum' hE (hx _ rfl) (hy _ rfl) d id (fun s m i => ⟨s, rfl⟩) hd hr.symm

theorem bd_fsub' {k : FloatKind} {E : Nat} {x y : Option Nat} (hE : E < bias k) (hx : Bd k E x) (hy : Bd k E y) : Bd k (E + 1) (fop .sub k x y) := by
  intro r hr
  cases x <;> cases y <;> simp [fop] at hr
  simp only [floatBits, Ieee.Format.sub, Option.map_eq_some_iff] at hr
  obtain ⟨d, hd, hr⟩ := hr
  exact bd_sum' hE (hx _ rfl) (hy _ rfl) d Ieee.Datum.opposite (fun s m i => ⟨!s, rfl⟩) hd hr.symm

theorem bd_fmul' {k : FloatKind} {E G : Nat} {x y : Option Nat} (hE : E < bias k) (hG : G < bias k) (hx : Bd k E x) (hy : Bd k G y) : Bd k (E + G) (fop .mul k x y) := by
  intro r hr
  cases x <;> cases y <;> simp [fop] at hr
  rename_i a b
  simp only [floatBits, Ieee.Format.mul, Option.map_eq_some_iff] at hr
  obtain ⟨d, hd, hr⟩ := hr
  obtain ⟨s, m, i, h1, hi1, hi2, hm⟩ := read_le k E a (hx _ rfl) hE
  obtain ⟨t, n, j, h2, hj1, hj2, hn⟩ := read_le k G b (hy _ rfl) hG
  rw [show k.format.read a = _ from h1, show k.format.read b = _ from h2] at hd
  simp only [Ieee.Datum.product, Option.some.injEq] at hd
  subst hd; subst hr
  simp only [Ieee.Format.write]
  apply nearest_le
  have hm' := (le_iff (b := i) (Int.le_refl _) hi2).1 hm
  have hn' := (le_iff (b := j) (Int.le_refl _) hj2).1 hn
  refine (le_iff (b := i + j) (Int.le_refl _) (by omega)).2 ?_
  rw [Int.sub_self] at hm' hn' ⊢
  rw [show Int.toNat 0 = 0 from rfl, Nat.pow_zero, Nat.mul_one] at hm' hn' ⊢
  have e : (((E + G : Nat) : Int) - (i + j)).toNat = ((E : Int) - i).toNat + ((G : Int) - j).toNat := by omega
  rw [e, Nat.pow_add]
  exact Nat.mul_le_mul hm' hn'
end Go.Proofs.Ytljclagfplildaa.Fl
