/-
  Plain facts on floats, no program: every operation on floats that are whole numbers of a unit rounds to such a float, off by a small share. No theorem of a claim stands here.
-/
import Derived.Test.YtljclagfplildaaDy
set_option linter.unusedSimpArgs false
set_option linter.unusedVariables false
namespace Go.Proofs.Ytljclagfplildaa.Fl
open Go Go.RowKit

theorem cut_near (neg : Bool) (m g : Nat) (hg : g ≤ m.log2 + 2) : 2 * (Ieee.Toward.even.cut neg m g * 2 ^ g) ≤ 2 * m + 2 ^ g ∧ 2 * m ≤ 2 * (Ieee.Toward.even.cut neg m g * 2 ^ g) + 2 ^ g := by
  have hp := Nat.two_pow_pos g
  unfold Ieee.Toward.cut
  simp only
  rw [Nat.min_eq_left hg, Nat.one_shiftLeft]
  have hd := Nat.div_add_mod m (2 ^ g)
  have hr := Nat.mod_lt m hp
  rw [Nat.add_mul, Nat.mul_comm (m / 2 ^ g)]
  generalize hq : 2 ^ g * (m / 2 ^ g) = q at *
  generalize ht : m % 2 ^ g = t at *
  generalize hG : 2 ^ g = G at *
  by_cases h1 : G < 2 * t
  · rw [show (decide (G < 2 * t) || (G == 2 * t && m / G % 2 == 1)) = true by simp [h1]]
    simp only [Bool.toNat_true, Nat.one_mul]
    omega
  · by_cases h2 : G = 2 * t
    · rcases hb : (decide (G < 2 * t) || (G == 2 * t && m / G % 2 == 1)) with _ | _
      · simp only [Bool.toNat_false, Nat.zero_mul]; omega
      · simp only [Bool.toNat_true, Nat.one_mul]; omega
    · rw [show (decide (G < 2 * t) || (G == 2 * t && m / G % 2 == 1)) = false by simp [h1, h2]]
      simp only [Bool.toNat_false, Nat.zero_mul]
      omega

theorem U_word (k : FloatKind) (last K : Nat) (h1 : k.format.binade ≤ K) (h2 : K ≤ 2 * k.format.binade) : U k (last * k.format.binade + K) = K * 2 ^ last := by
  have hB : 0 < k.format.binade := Nat.two_pow_pos _
  unfold U
  rw [if_neg (by omega)]
  by_cases h : K = 2 * k.format.binade
  · subst h
    have e : last * k.format.binade + 2 * k.format.binade = (last + 2) * k.format.binade := by rw [Nat.add_mul]
    rw [e, Nat.mul_mod_left, Nat.mul_div_cancel _ hB, Nat.add_zero, show last + 2 - 1 = last + 1 by omega, Nat.pow_succ]
    rw [Nat.mul_comm 2, Nat.mul_assoc, Nat.mul_comm 2]
  · have hdiv : (last * k.format.binade + K) / k.format.binade = last + 1 := by
      rw [Nat.div_eq_iff hB]
      constructor
      · rw [Nat.add_mul]; omega
      · rw [Nat.add_mul, Nat.one_mul]; omega
    have hmod : (last * k.format.binade + K) % k.format.binade = K - k.format.binade := by
      have e := Nat.div_add_mod (last * k.format.binade + K) k.format.binade
      rw [hdiv, Nat.mul_add, Nat.mul_one, Nat.mul_comm k.format.binade last] at e
      omega
    rw [hdiv, hmod, show k.format.binade + (K - k.format.binade) = K by omega, show last + 1 - 1 = last by omega]

/-- n is off N by half a unit of the last place at most. -/
def Off (k : FloatKind) (n N : Nat) : Prop := (2 * n) * k.format.binade ≤ (2 * k.format.binade + 1) * N ∧ 2 * k.format.binade * N ≤ (2 * n) * k.format.binade + N
theorem Off.refl (k : FloatKind) (n : Nat) : Off k n n := by
  unfold Off
  rw [Nat.add_mul, Nat.one_mul, Nat.mul_right_comm 2 n]
  omega

theorem nearest_rel (k : FloatKind) (s : Bool) (m : Nat) (i : Int) (N d : Nat) (hd : d + 1 ≤ bias k) (hN : N < 2 ^ (d + 100)) (e : Nat) (hi : 0 ≤ i + e) (hv : m * 2 ^ (i + e).toNat * 2 ^ d = N * 2 ^ e) :
    ∃ n : Nat, (rung k (k.format.nearest s m i) < k.format.infRung ∧ U k (rung k (k.format.nearest s m i)) * 2 ^ d = n * un1 k) ∧ Off k n N := by
  have hlp := least_onu k
  have hfr := frac_onu k
  have hlb := least_bias k
  have hb1 : 127 ≤ bias k := by cases k <;> decide
  have hinf : k.format.infRung = (2 * bias k + 1) * k.format.binade := by cases k <;> decide
  have hB : 0 < k.format.binade := Nat.two_pow_pos _
  have hBe : k.format.binade = 2 ^ k.format.fractionBits := rfl
  have hpos := Nat.two_pow_pos
  by_cases n0 : N = 0
  · subst n0
    have m0 : m = 0 := by
      rw [Nat.zero_mul] at hv
      rcases Nat.mul_eq_zero.1 hv with h | h
      · rcases Nat.mul_eq_zero.1 h with h | h
        · exact h
        · exact absurd h (Nat.ne_of_gt (hpos _))
      · exact absurd h (Nat.ne_of_gt (hpos _))
    subst m0
    have hr : rung k (k.format.nearest s 0 i) = 0 := by unfold rung; rw [nearest_rung, if_pos rfl]
    rw [hr]
    refine ⟨0, ⟨by cases k <;> decide, ?_⟩, Off.refl k 0⟩
    unfold U; rw [if_pos hB]; simp
  have m0 : m ≠ 0 := fun h => by
    subst h
    rw [Nat.zero_mul, Nat.zero_mul] at hv
    rcases Nat.mul_eq_zero.1 hv.symm with h | h
    · exact n0 h
    · exact absurd h (Nat.ne_of_gt (hpos _))
  have hlog : m.log2 + ((i + e).toNat + d) = N.log2 + e := by
    rw [← log2_shift m0, ← log2_shift n0, Nat.pow_add, ← Nat.mul_assoc, hv]
  have hLlo := Nat.log2_self_le n0
  have hLhi : N.log2 < d + 100 := (Nat.log2_lt n0).2 hN
  have hmax : max (i + m.log2 - k.format.fractionBits) k.format.leastPlace = i + m.log2 - k.format.fractionBits := by omega
  generalize hp : i + m.log2 - k.format.fractionBits = p at hmax
  have hrung : rung k (k.format.nearest s m i) = min ((p - k.format.leastPlace).toNat * k.format.binade + Ieee.Toward.even.cut s (m <<< (i - p).toNat) (p - i).toNat) k.format.infRung := by
    unfold rung; rw [nearest_rung, if_neg m0, hp, hmax]
  have hkept := nearest_kept k.format s m i
  rw [hp, hmax, if_neg (by omega)] at hkept
  generalize hK : Ieee.Toward.even.cut s (m <<< (i - p).toNat) (p - i).toNat = K at hrung hkept
  have hmlo : 2 ^ m.log2 ≤ m := Nat.log2_self_le m0
  have hKlo : k.format.binade ≤ K := by
    rw [← hK]
    by_cases hpi : p ≤ i
    · rw [show (p - i).toNat = 0 by omega, cut_zero, Nat.shiftLeft_eq, hBe]
      have : 2 ^ k.format.fractionBits = 2 ^ m.log2 * 2 ^ (i - p).toNat := by rw [← Nat.pow_add]; congr 1; omega
      rw [this]; exact Nat.mul_le_mul_right _ hmlo
    · rw [show (i - p).toNat = 0 by omega, Nat.shiftLeft_zero]
      refine Nat.le_trans ?_ (cut_ge _ _ _ _)
      rw [Nat.one_shiftLeft, Nat.min_eq_left (by omega), Nat.le_div_iff_mul_le (hpos _), hBe, ← Nat.pow_add]
      refine Nat.le_trans (Nat.pow_le_pow_right (by omega) ?_) hmlo
      omega
  generalize hlast : (p - k.format.leastPlace).toNat = last at hrung
  have hlt : last * k.format.binade + K < k.format.infRung := by
    rw [hinf]
    have h1 : (last + 3) * k.format.binade ≤ (2 * bias k + 1) * k.format.binade := Nat.mul_le_mul_right _ (by omega)
    rw [Nat.add_mul] at h1
    omega
  rw [Nat.min_eq_left (Nat.le_of_lt hlt)] at hrung
  rw [hrung, U_word k last K hKlo hkept]
  by_cases hpd : 0 ≤ p + d
  · refine ⟨K * 2 ^ (p + d).toNat, ⟨hlt, ?_⟩, ?_⟩
    · rw [Nat.mul_assoc, ← Nat.pow_add, Nat.mul_assoc]
      unfold un1
      rw [← Nat.pow_add]
      congr 2
      omega
    · by_cases hpi : p ≤ i
      · have : K * 2 ^ (p + d).toNat = N := by
          rw [← hK, show (p - i).toNat = 0 by omega, cut_zero, Nat.shiftLeft_eq, Nat.mul_assoc, ← Nat.pow_add]
          apply Nat.eq_of_mul_eq_mul_right (hpos e)
          rw [← hv, Nat.mul_assoc, Nat.mul_assoc, ← Nat.pow_add, ← Nat.pow_add]
          congr 2
          omega
        rw [this]; exact Off.refl k N
      · have hc := cut_near s m (p - i).toNat (by omega)
        rw [show m <<< (i - p).toNat = m by rw [show (i - p).toNat = 0 by omega, Nat.shiftLeft_zero]] at hK
        rw [hK] at hc
        obtain ⟨c1, c2⟩ := hc
        -- all times 2 ^ (i + e + d)
        have f1 : K * 2 ^ (p - i).toNat * 2 ^ ((i + e).toNat + d) = K * 2 ^ (p + d).toNat * 2 ^ e := by
          rw [Nat.mul_assoc, Nat.mul_assoc, ← Nat.pow_add, ← Nat.pow_add]; congr 2; omega
        have f2 : m * 2 ^ ((i + e).toNat + d) = N * 2 ^ e := by rw [Nat.pow_add, ← Nat.mul_assoc, hv]
        have f3 : 2 ^ (p - i).toNat * 2 ^ ((i + e).toNat + d) = 2 ^ (p + d).toNat * 2 ^ e := by
          rw [← Nat.pow_add, ← Nat.pow_add]; congr 1; omega
        have g1 := Nat.mul_le_mul_right (2 ^ ((i + e).toNat + d)) c1
        have g2 := Nat.mul_le_mul_right (2 ^ ((i + e).toNat + d)) c2
        rw [Nat.add_mul, Nat.mul_assoc 2 (K * _), f1, Nat.mul_assoc 2 m, f2, f3] at g1
        rw [Nat.add_mul, Nat.mul_assoc 2 (K * _), f1, Nat.mul_assoc 2 m, f2, f3] at g2
        generalize K * 2 ^ (p + d).toNat = n at *
        have g1 : (2 * n) * 2 ^ e ≤ (2 * N + 2 ^ (p + d).toNat) * 2 ^ e := by rw [Nat.add_mul, Nat.mul_assoc 2 n, Nat.mul_assoc 2 N]; exact g1
        have g2 : (2 * N) * 2 ^ e ≤ (2 * n + 2 ^ (p + d).toNat) * 2 ^ e := by rw [Nat.add_mul, Nat.mul_assoc 2 n, Nat.mul_assoc 2 N]; exact g2
        have g1 := Nat.le_of_mul_le_mul_right g1 (hpos e)
        have g2 := Nat.le_of_mul_le_mul_right g2 (hpos e)
        have hq : 2 ^ (p + d).toNat * k.format.binade ≤ N := by
          refine Nat.le_trans ?_ hLlo
          rw [hBe, ← Nat.pow_add]
          exact Nat.pow_le_pow_right (by omega) (by omega)
        generalize 2 ^ (p + d).toNat = Q at *
        have h1 := Nat.mul_le_mul_right k.format.binade g1
        have h2 := Nat.mul_le_mul_right k.format.binade g2
        rw [Nat.add_mul] at h1 h2
        unfold Off
        rw [Nat.add_mul, Nat.one_mul, Nat.mul_right_comm 2 k.format.binade N]
        omega
  · -- exact
    have hpi : p ≤ i ∨ True := .inr trivial
    have hex : K * 2 ^ last * 2 ^ d = N * un1 k := by
      have hmN : m = N * 2 ^ (-(d : Int) - i).toNat ∨ (-(d : Int) < i ∧ N = m * 2 ^ (i + d).toNat) := by
        by_cases h0 : i ≤ -(d : Int)
        · left
          apply Nat.eq_of_mul_eq_mul_right (hpos ((i + e).toNat + d))
          rw [Nat.pow_add, ← Nat.mul_assoc, hv, ← Nat.pow_add, Nat.mul_assoc, ← Nat.pow_add]
          congr 2
          omega
        · right
          refine ⟨by omega, ?_⟩
          apply Nat.eq_of_mul_eq_mul_right (hpos e)
          rw [← hv, Nat.mul_assoc, Nat.mul_assoc, ← Nat.pow_add, ← Nat.pow_add]
          congr 2
          omega
      have hKp : ∀ c : Nat, 0 ≤ p + c → 0 ≤ i + c → K * 2 ^ (p + c).toNat = m * 2 ^ (i + c).toNat := by
        intro c c1 c2
        by_cases hpi : p ≤ i
        · rw [← hK, show (p - i).toNat = 0 by omega, cut_zero, Nat.shiftLeft_eq, Nat.mul_assoc, ← Nat.pow_add]
          congr 2
          omega
        · rw [show m <<< (i - p).toNat = m by rw [show (i - p).toNat = 0 by omega, Nat.shiftLeft_zero]] at hK
          rcases hmN with h | h
          · have e1 : m = N * 2 ^ (-(d : Int) - p).toNat * 2 ^ (p - i).toNat := by
              rw [h, Nat.mul_assoc, ← Nat.pow_add]; congr 2; omega
            have e2 : K = N * 2 ^ (-(d : Int) - p).toNat := by
              rw [← hK, e1]; exact cut_mul s (Nat.mul_ne_zero n0 (by have := hpos (-(d : Int) - p).toNat; omega)) _
            rw [e2]
            conv => rhs; rw [e1]
            rw [Nat.mul_assoc, Nat.mul_assoc, Nat.mul_assoc, ← Nat.pow_add, ← Nat.pow_add, ← Nat.pow_add]
            congr 2
            omega
          · omega
      have h3 := hKp (onu k + e) (by omega) (by omega)
      apply Nat.eq_of_mul_eq_mul_right (hpos e)
      have e1 : K * 2 ^ last * 2 ^ d * 2 ^ e = K * 2 ^ (p + ((onu k + e : Nat) : Int)).toNat * 2 ^ d := by
        rw [Nat.mul_assoc, Nat.mul_assoc, ← Nat.pow_add, ← Nat.pow_add, Nat.mul_assoc, ← Nat.pow_add]; congr 2; omega
      rw [e1, h3]
      unfold un1
      rw [show (i + ((onu k + e : Nat) : Int)).toNat = (i + e).toNat + onu k by omega, Nat.pow_add, Nat.mul_assoc, Nat.mul_assoc, Nat.mul_comm (2 ^ onu k), ← Nat.mul_assoc m, ← Nat.mul_assoc, hv]
      rw [Nat.mul_right_comm]
    exact ⟨N, ⟨hlt, hex⟩, Off.refl k N⟩
end Go.Proofs.Ytljclagfplildaa.Fl
