/-
  Plain facts on floats, no program: bounds of rungs below 1, roots of floats that are whole numbers of a unit. No theorem of a claim stands here.
-/
import Derived.Test.YtljclagfplildaaRelO
set_option linter.unusedSimpArgs false
set_option linter.unusedVariables false
set_option maxRecDepth 20000
namespace Go.Proofs.Ytljclagfplildaa.Fl
open Go Go.RowKit

theorem rootFrom_ub (n : Nat) : ∀ (todo root : Nat), n < (root + 1 <<< todo) * (root + 1 <<< todo) → n < (Ieee.Datum.rootFrom n todo root + 1) * (Ieee.Datum.rootFrom n todo root + 1)
  | 0, root, h => by simpa [Ieee.Datum.rootFrom] using h
  | todo + 1, root, h => by
    unfold Ieee.Datum.rootFrom
    simp only
    have e : (1 <<< (todo + 1) : Nat) = 1 <<< todo + 1 <<< todo := by rw [Nat.one_shiftLeft, Nat.one_shiftLeft, Nat.pow_succ, Nat.mul_two]
    split
    · apply rootFrom_ub
      rw [e, ← Nat.add_assoc] at h
      exact h
    · rename_i h'
      apply rootFrom_ub
      exact Nat.lt_of_not_le h'

theorem rel_q1 (w T qq ww : Nat) (k1 : w * 9007199254740992 ≤ ww) (f1 : ww ≤ T) (q1 : qq ≤ 4 * T + 4 * w + 1) (h : 1 ≤ w) : qq * 4503599627370496 ≤ 4503599627370497 * (T * 4) := by
  rw [Nat.mul_comm] at k1
  rw [Nat.mul_comm qq, Nat.mul_comm T]
  omega
theorem rel_q2 (w T qq ww : Nat) (k1 : w * 9007199254740992 ≤ ww) (f1 : ww ≤ T) (q2 : 4 * T ≤ qq + 4 * w) (h : 1 ≤ w) : T * 4 * 4503599627370496 ≤ 4503599627370497 * qq := by
  rw [Nat.mul_comm] at k1
  rw [Nat.mul_comm _ 4503599627370496, Nat.mul_comm T]
  omega

theorem root_floor (n : Nat) : Ieee.Datum.rootFrom n (n.log2 / 2 + 1) 0 * Ieee.Datum.rootFrom n (n.log2 / 2 + 1) 0 ≤ n ∧ n < (Ieee.Datum.rootFrom n (n.log2 / 2 + 1) 0 + 1) * (Ieee.Datum.rootFrom n (n.log2 / 2 + 1) 0 + 1) := by
  refine ⟨rootFrom_sq _ _ _ (by simp), rootFrom_ub _ _ _ ?_⟩
  rw [Nat.zero_add, Nat.one_shiftLeft, ← Nat.pow_add]
  refine Nat.lt_of_lt_of_le Nat.lt_log2_self (Nat.pow_le_pow_right (by omega) (by omega))

set_option maxHeartbeats 1000000 in
/-- The root of what is n units of 2^-2d: s units of 2^-(d + 60), whose square is n units nearly. -/
theorem DyV.root' {d : Nat} {x : Option Nat} {n : Int} (hx : DyV .f64 (2 * d) x n) (hd : d ≤ 400) (h0 : 0 ≤ n) (hN : n.natAbs < 2 ^ (2 * d + 60)) :
    ∃ (M s : Nat), DyV .f64 (d + 60) (fsq x) (s : Int) ∧ OffI .f64 s M ∧ (M * M) * 4503599627370496 ≤ 4503599627370497 * (n.natAbs * 2 ^ 120) ∧ n.natAbs * 2 ^ 120 * 4503599627370496 ≤ 4503599627370497 * (M * M) := by
  obtain ⟨a, rfl, ha⟩ := hx
  obtain ⟨m, i, h1, i1, v1, hm⟩ := dy_read ha
  have hon : onu .f64 = 1074 := by decide
  generalize hK : onu .f64 = K at *
  have hbin : FloatKind.f64.format.binade = 4503599627370496 := by decide
  have hfb : FloatKind.f64.format.fractionBits = 52 := by decide
  have hbias : bias .f64 = 1023 := rfl
  have hpos := Nat.two_pow_pos
  by_cases n0 : n = 0
  · subst n0
    have m0 : m = 0 := by
      rw [Int.natAbs_zero, Nat.zero_mul] at v1
      rcases Nat.mul_eq_zero.1 v1 with h | h
      · rcases Nat.mul_eq_zero.1 h with h | h
        · exact h
        · exact absurd h (Nat.ne_of_gt (hpos _))
      · exact absurd h (Nat.ne_of_gt (hpos _))
    subst m0
    obtain ⟨r, hr1, hr2⟩ := rel_nearest .f64 (neg .f64 a) 0 i (d + 60) 0 (by omega) (by simpa using hpos _) K (by omega) (by simp) (fun h => absurd rfl h)
    have := hr2.zero
    subst this
    refine ⟨0, 0, ⟨_, ?_, hr1⟩, ?_, by simp, by simp⟩
    · simp only [fsq, Option.bind_some, Ieee.Format.sqrt]
      rw [show FloatKind.f64.format.read a = _ from h1]
      simp only [Ieee.Datum.root, if_true, Option.map_some]
      rfl
    · unfold OffI; simp
  · have hneg : neg .f64 a = false := by rw [ha.2.2 n0]; simp; omega
    have m0 : m ≠ 0 := fun h => by
      subst h
      rw [Nat.zero_mul, Nat.zero_mul] at v1
      rcases Nat.mul_eq_zero.1 v1.symm with h | h
      · omega
      · exact absurd h (Nat.ne_of_gt (hpos _))
    generalize hNN : n.natAbs = N at *
    have N0 : N ≠ 0 := by omega
    have hlog : m.log2 + ((i + (K : Int)).toNat + 2 * d) = N.log2 + K := by
      rw [← log2_shift m0, ← log2_shift N0, Nat.pow_add, ← Nat.mul_assoc, v1]
    have hml : m.log2 ≤ 52 := by
      have := (Nat.log2_lt m0).2 (show m < 2 ^ 53 by rw [hbin] at hm; exact hm)
      omega
    have hmlo : 2 ^ m.log2 ≤ m := Nat.log2_self_le m0
    have hNl : N.log2 < 2 * d + 60 := (Nat.log2_lt N0).2 hN
    have hsq : fsq (some a) = (let more := 2 * (52 + 2) - m.log2; let more := more + ((i - (more : Int)) % 2).toNat; let n := m <<< more; let whole := Ieee.Datum.rootFrom n (n.log2 / 2 + 1) 0; some (FloatKind.f64.format.nearest false (2 * whole + (whole * whole != n).toNat) ((i - (more : Int)) / 2 - 1))) := by
      simp only [fsq, Option.bind_some, Ieee.Format.sqrt]
      rw [show FloatKind.f64.format.read a = _ from h1, hneg]
      simp only [Ieee.Datum.root, if_neg m0, Bool.false_eq_true, if_false, Option.map_some, hfb]
      rfl
    rw [hsq]
    simp only
    generalize hM0 : 2 * (52 + 2) - m.log2 = M0
    generalize hmore : M0 + ((i - (M0 : Int)) % 2).toNat = more
    have hpar : (i - (more : Int)) % 2 = 0 := by
      have h1 := Int.emod_nonneg (i - (M0 : Int)) (show (2 : Int) ≠ 0 by omega)
      omega
    have hmo : more ≤ M0 + 1 ∧ M0 ≤ more := by
      have h1 := Int.emod_nonneg (i - (M0 : Int)) (show (2 : Int) ≠ 0 by omega)
      have h2 := Int.emod_lt_of_pos (i - (M0 : Int)) (show (0 : Int) < 2 by omega)
      omega
    have hfl := root_floor (m <<< more)
    generalize Ieee.Datum.rootFrom (m <<< more) ((m <<< more).log2 / 2 + 1) 0 = w at *
    obtain ⟨f1, f2⟩ := hfl
    generalize hT : m <<< more = T at *
    have hTe : T = m * 2 ^ more := by rw [← hT, Nat.shiftLeft_eq]
    have hTlo : 2 ^ 108 ≤ T := by
      rw [hTe]
      have : 2 ^ 108 ≤ 2 ^ m.log2 * 2 ^ more := by rw [← Nat.pow_add]; exact Nat.pow_le_pow_right (by omega) (by omega)
      exact Nat.le_trans this (Nat.mul_le_mul_right _ hmlo)
    have hThi : T < 2 ^ 110 := by
      rw [hTe]
      have h3 : m * 2 ^ more < 2 ^ (m.log2 + 1) * 2 ^ more := Nat.mul_lt_mul_of_pos_right Nat.lt_log2_self (hpos _)
      rw [← Nat.pow_add] at h3
      exact Nat.lt_of_lt_of_le h3 (Nat.pow_le_pow_right (by omega) (by omega))
    have hwlo : 2 ^ 53 ≤ w := by
      rcases Nat.lt_or_ge w (2 ^ 53) with h | h
      · have h5 : (w + 1) * (w + 1) ≤ 2 ^ 53 * 2 ^ 53 := Nat.mul_le_mul h h
        have h6 : (2 : Nat) ^ 53 * 2 ^ 53 < 2 ^ 108 := by decide
        omega
      · exact h
    have hwhi : w < 2 ^ 55 := by
      rcases Nat.lt_or_ge w (2 ^ 55) with h | h
      · exact h
      · have h5 : 2 ^ 55 * 2 ^ 55 ≤ w * w := Nat.mul_le_mul h h
        have h6 : (2 : Nat) ^ 55 * 2 ^ 55 = 2 ^ 110 := by decide
        omega
    generalize hq : 2 * w + (w * w != T).toNat = q
    have hq1 : 2 * w ≤ q ∧ q ≤ 2 * w + 1 := by
      have := Bool.toNat_le (w * w != T)
      omega
    -- q * q is nearly 4 * T
    have hqq : q * q ≤ 4 * T + 4 * w + 1 ∧ 4 * T ≤ q * q + 4 * w := by
      rcases hb : (w * w != T) with _ | _
      · rw [hb] at hq
        have e : w * w = T := by simpa using hb
        have : q = 2 * w := by rw [← hq]; rfl
        subst this
        have e2 : 2 * w * (2 * w) = 4 * (w * w) := by rw [Nat.mul_mul_mul_comm]
        rw [e2, e]
        omega
      · rw [hb] at hq
        have : q = 2 * w + 1 := by rw [← hq]; rfl
        subst this
        have e2 : (2 * w + 1) * (2 * w + 1) = 4 * (w * w) + 4 * w + 1 := by
          rw [Nat.add_mul, Nat.mul_add, Nat.mul_mul_mul_comm]; omega
        have e3 : (w + 1) * (w + 1) = w * w + 2 * w + 1 := by rw [Nat.add_mul, Nat.mul_add]; omega
        rw [e2]
        rw [e3] at f2
        omega
    have hI : 0 ≤ (i - (more : Int)) / 2 - 1 + ((d + 60 : Nat) : Int) := by omega
    generalize hIe : (i - (more : Int)) / 2 - 1 = I at *
    have hexp : q * 2 ^ (I + (K : Int)).toNat * 2 ^ (d + 60) = (q * 2 ^ (I + (d + 60 : Nat)).toNat) * 2 ^ K := by
      rw [Nat.mul_assoc, Nat.mul_assoc, ← Nat.pow_add, ← Nat.pow_add]; congr 2; omega
    have hNT : T * 4 * (2 ^ (I + (d + 60 : Nat)).toNat * 2 ^ (I + (d + 60 : Nat)).toNat) = N * 2 ^ 120 := by
      have e4 : (4 : Nat) = 2 ^ 2 := by decide
      apply Nat.eq_of_mul_eq_mul_right (hpos K)
      rw [hTe, e4]
      have l1 : m * 2 ^ more * 2 ^ 2 * (2 ^ (I + (d + 60 : Nat)).toNat * 2 ^ (I + (d + 60 : Nat)).toNat) * 2 ^ K = m * 2 ^ (more + 2 + ((I + (d + 60 : Nat)).toNat + (I + (d + 60 : Nat)).toNat) + K) := by
        simp only [Nat.pow_add, Nat.mul_assoc]
      have l2 : N * 2 ^ 120 * 2 ^ K = m * 2 ^ ((i + (K : Int)).toNat + 2 * d + 120) := by
        rw [Nat.mul_right_comm, ← v1]
        simp only [Nat.pow_add, Nat.mul_assoc]
      rw [l1, l2]
      exact congrArg (fun z => m * 2 ^ z) (by omega)
    generalize hP : 2 ^ (I + (d + 60 : Nat)).toNat = P at *
    have hPpos : 0 < P := by rw [← hP]; exact hpos _
    have hqP : q * P < 2 ^ (d + 60 + 100) := by
      rw [← hP]
      have h3 : q * 2 ^ (I + (d + 60 : Nat)).toNat < 2 ^ 57 * 2 ^ (I + (d + 60 : Nat)).toNat := Nat.mul_lt_mul_of_pos_right (by omega) (hpos _)
      rw [← Nat.pow_add] at h3
      exact Nat.lt_of_lt_of_le h3 (Nat.pow_le_pow_right (by omega) (by omega))
    obtain ⟨r, hr1, hr2⟩ := rel_nearest .f64 false q I (d + 60) ((q * P : Nat) : Int) (by omega) (by rw [Int.natAbs_natCast]; exact hqP) K (by omega) (by rw [Int.natAbs_natCast]; exact hexp) (fun _ => (decide_eq_false (Int.not_lt.2 (Int.natCast_nonneg _))).symm)
    have hr0 : 0 ≤ r := by
      have := hr2.e64
      rw [Int.natAbs_natCast] at this
      omega
    obtain ⟨s, rfl⟩ : ∃ s : Nat, r = s := ⟨r.toNat, by omega⟩
    refine ⟨q * P, s, ⟨_, rfl, hr1⟩, hr2, ?_, ?_⟩
    · rw [← hNT, Nat.mul_mul_mul_comm]
      generalize P * P = R
      have g1 : (q * q) * 4503599627370496 ≤ 4503599627370497 * (T * 4) := by
        exact rel_q1 w T _ _ (Nat.mul_le_mul_left w hwlo) f1 hqq.1 (Nat.le_trans (hpos 53) hwlo)
      calc q * q * R * 4503599627370496 = q * q * 4503599627370496 * R := by rw [Nat.mul_right_comm]
        _ ≤ 4503599627370497 * (T * 4) * R := Nat.mul_le_mul_right _ g1
        _ = _ := by rw [Nat.mul_assoc]
    · rw [← hNT, Nat.mul_mul_mul_comm q]
      generalize P * P = R
      have g1 : T * 4 * 4503599627370496 ≤ 4503599627370497 * (q * q) := by
        exact rel_q2 w T _ _ (Nat.mul_le_mul_left w hwlo) f1 hqq.2 (Nat.le_trans (hpos 53) hwlo)
      calc T * 4 * R * 4503599627370496 = T * 4 * 4503599627370496 * R := by rw [Nat.mul_right_comm]
        _ ≤ 4503599627370497 * (q * q) * R := Nat.mul_le_mul_right _ g1
        _ = _ := by rw [Nat.mul_assoc]
end Go.Proofs.Ytljclagfplildaa.Fl
