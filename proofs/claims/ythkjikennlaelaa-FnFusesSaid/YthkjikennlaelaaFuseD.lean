/-
  Fuses whose numbers are small fractions: each heat is exact; a run over a list is that over its beginning, and then over the rest. Plain facts, no program. No theorem of a claim stands here.
-/
import Derived.Test.YthkjikennlaelaaFuse
import Derived.Test.YthkjikennlaelaaDy
set_option linter.unusedSimpArgs false
set_option linter.unusedVariables false
namespace Go.Proofs.Ythkjikennlaelaa.Fl
open Go Go.RowKit

theorem dy_zero (d : Nat) : Dy .f32 d 0 0 := ⟨by decide, by rw [show U .f32 (rung .f32 0) = 0 by decide]; simp, fun h => absurd rfl h⟩
theorem dy_nonneg {d b : Nat} {n : Int} (h : Dy .f32 d b n) (hn : 0 ≤ n) : 0 ≤ sv .f32 b := by
  have e := dy_sv h
  have hp : (0 : Int) < ((2 ^ d : Nat) : Int) := by exact_mod_cast Nat.two_pow_pos d
  have hq : (0 : Int) ≤ n * (un1 .f32 : Nat) := Int.mul_nonneg hn (by omega)
  rw [← e] at hq
  exact Int.nonneg_of_mul_nonneg_left hq hp
/-- The heat in 32nds behind half a tick. -/
def h32 (n m q : Int) : Int := if n + m * m - 4 * q < 0 then 0 else n + m * m - 4 * q
theorem heat_dy {h c x t : Nat} {n m q : Int} (hh : Dy .f32 5 h n) (hx : Dy .f32 2 x m) (hc : Dy .f32 2 c q) (ht : Dy .f32 1 t 1) (n0 : 0 ≤ n) (hn : n ≤ 100000) (hm : -100 ≤ m ∧ m ≤ 100) (hq : 0 ≤ q ∧ q ≤ 100) :
    ∃ r, heat h c x t = some r ∧ Dy .f32 5 r (h32 n m q) := by
  have hm2 : 0 ≤ m * m ∧ m * m ≤ 10000 := by
    refine ⟨by rw [← Int.natAbs_mul_self' m]; exact Int.mul_nonneg (Int.natCast_nonneg _) (Int.natCast_nonneg _), ?_⟩
    have h1 : m.natAbs ≤ 100 := by omega
    have h2 := Nat.mul_le_mul h1 h1
    rw [← Int.natAbs_mul_self' m]
    omega
  have hb : (2 * FloatKind.f32.format.binade : Nat) = 16777216 := by decide
  have s1 := DyV.mul (DyV.of hx) (DyV.of hx) (by omega) (by rw [hb]; omega)
  have s2 := DyV.mul s1 (DyV.of ht) (by omega) (by rw [hb]; omega)
  have s3 := DyV.add (DyV.of hh) s2 (by omega) (by rw [hb]; omega)
  have s4 := (DyV.mul (DyV.of hc) (DyV.of ht) (by omega) (by rw [hb]; omega)).finer 2
  have s5 := DyV.sub s3 s4 (by omega) (by rw [hb]; omega)
  obtain ⟨r, e, hr⟩ := s5
  have e2 : warm h c x t = some r := e
  have eN : n + m * m * 1 - q * 1 * ((2 ^ 2 : Nat) : Int) = n + m * m - 4 * q := by omega
  rw [eN] at hr
  have ho : ltF .f32 r 0 = decide (n + m * m - 4 * q < 0) := by
    rw [ltF_sv (dy_vl hr) (vl_zero _), sv_zero]
    by_cases h0 : n + m * m - 4 * q < 0
    · rw [decide_eq_true h0]
      have e := dy_order hr (dy_zero 5)
      have h3 := ltF_sv (dy_vl hr) (vl_zero .f32)
      rw [sv_zero] at h3
      rw [← h3]
      unfold ltF
      rw [e, show compare (n + m * m - 4 * q) 0 = .lt from cmp_lt h0]; rfl
    · rw [decide_eq_false h0]
      have := dy_nonneg hr (by omega)
      exact decide_eq_false (by omega)
  unfold heat h32
  rw [e2]
  simp only [Option.bind_some]
  unfold flat0
  rw [ho]
  by_cases h0 : n + m * m - 4 * q < 0
  · simp only [decide_eq_true h0, if_true, if_pos h0]
    exact ⟨0, by rw [if_pos (by decide)], dy_zero 5⟩
  · simp only [decide_eq_false h0, if_neg h0]
    exact ⟨r, by simp only [Bool.false_eq_true, if_false]; rw [if_pos (amtB_of hr.1 (dy_nonneg hr (by omega)))], hr⟩
theorem runU_shift (l c t : Nat) : ∀ (xs : List Nat) (h i d : Nat), runU l c t h xs (i + d) = (runU l c t h xs i).map fun (p : Int × Nat) => ((if p.1 < 0 then p.1 else p.1 + (d : Int)), p.2)
  | [], h, i, d => rfl
  | x :: xs, h, i, d => by
    unfold runU
    cases heat h c x t with
    | none => rfl
    | some r =>
      simp only
      by_cases hg : geF .f32 r l = true
      · rw [if_pos hg, if_pos hg, Option.map_some]
        simp only
        rw [if_neg (by omega)]
        congr 2
      · rw [if_neg hg, if_neg hg, show i + d + 1 = (i + 1) + d by omega]
        exact runU_shift l c t xs r (i + 1) d
theorem runU_cons (l c t h x : Nat) (xs : List Nat) (i : Nat) : runU l c t h (x :: xs) i = match heat h c x t with
    | none => none
    | some r => if geF .f32 r l then some ((i : Int), r) else runU l c t r xs (i + 1) := rfl
/-- The run over two lists. -/
theorem runU_append (l c t : Nat) : ∀ (xs ys : List Nat) (h i : Nat), runU l c t h (xs ++ ys) i = (runU l c t h xs i).bind fun p => if 0 ≤ p.1 then some p else runU l c t p.2 ys (i + xs.length)
  | [], ys, h, i => by
    rw [show runU l c t h [] i = some (-1, h) from rfl, Option.bind_some]
    simp only [List.nil_append, List.length_nil, Nat.add_zero]
    rw [if_neg (by decide)]
  | x :: xs, ys, h, i => by
    rw [List.cons_append, runU_cons, runU_cons]
    cases heat h c x t with
    | none => rfl
    | some r =>
      simp only
      by_cases hg : geF .f32 r l = true
      · rw [if_pos hg, if_pos hg, Option.bind_some]
        simp only
        rw [if_pos (by omega)]
      · rw [if_neg hg, if_neg hg, runU_append l c t xs ys r (i + 1), List.length_cons, show i + 1 + xs.length = i + (xs.length + 1) by omega]
/-- What a run over small fractions leaves. -/
theorem runU_dy {l c t : Nat} {q : Int} (hc : Dy .f32 2 c q) (ht : Dy .f32 1 t 1) (hq : 0 ≤ q ∧ q ≤ 100) : ∀ (xs : List Nat) (h i : Nat) (n : Int), Dy .f32 5 h n → 0 ≤ n → n + 400 * xs.length ≤ 100000 → (∀ x ∈ xs, ∃ m : Int, Dy .f32 2 x m ∧ 0 ≤ m ∧ m ≤ 20) →
    ∃ j r n', runU l c t h xs i = some (j, r) ∧ Dy .f32 5 r n' ∧ 0 ≤ n' ∧ n' ≤ n + 400 * xs.length ∧ (j = -1 ∨ (i : Int) ≤ j ∧ j < i + xs.length)
  | [], h, i, n, hh, h0, hn, _ => ⟨-1, h, n, rfl, hh, h0, by simp, .inl rfl⟩
  | x :: xs, h, i, n, hh, h0, hn, hx => by
    obtain ⟨m, hm, m0, m1⟩ := hx x (List.mem_cons_self ..)
    simp only [List.length_cons] at hn
    obtain ⟨r, e, hr⟩ := heat_dy hh hm hc ht h0 (by omega) ⟨by omega, by omega⟩ hq
    have hmm : m * m ≤ 400 := by
      have := Int.mul_le_mul m1 m1 m0 (by omega)
      omega
    have hmm0 : 0 ≤ m * m := Int.mul_nonneg m0 m0
    have hb : 0 ≤ h32 n m q ∧ h32 n m q ≤ n + 400 := by unfold h32; split <;> omega
    unfold runU
    rw [e]
    simp only [List.length_cons]
    by_cases hg : geF .f32 r l = true
    · rw [if_pos hg]
      exact ⟨i, r, _, rfl, hr, hb.1, by omega, .inr ⟨by omega, by omega⟩⟩
    · rw [if_neg hg]
      obtain ⟨j, r', n', e', hr', g0, g1, hj⟩ := runU_dy (l := l) hc ht hq xs r (i + 1) _ hr hb.1 (by omega) (fun y hy => hx y (List.mem_cons_of_mem _ hy))
      exact ⟨j, r', n', e', hr', g0, by omega, by omega⟩
/-- Quarters. -/
def quarter (m : Nat) : Nat := (floatBits .quo .f32 (floatOfInt .f32 (m : Int)) 1082130432).getD 0
theorem quarter_ok : ∀ m : Nat, m < 128 → floatBits .quo .f32 (floatOfInt .f32 (m : Int)) 1082130432 = some (quarter m) ∧ (rung .f32 (quarter m) < FloatKind.f32.format.infRung ∧ U .f32 (rung .f32 (quarter m)) * 2 ^ 2 = m * un1 .f32 ∧ neg .f32 (quarter m) = false) ∧ quarter m < 2 ^ 32 := by decide +kernel
theorem quarter_dy {m : Nat} (h : m < 128) : Dy .f32 2 (quarter m) (m : Int) := by
  obtain ⟨_, ⟨h1, h2, h3⟩, _⟩ := quarter_ok m h
  exact ⟨h1, by simpa using h2, fun _ => by rw [h3]; exact (decide_eq_false (by omega)).symm⟩
end Go.Proofs.Ythkjikennlaelaa.Fl
