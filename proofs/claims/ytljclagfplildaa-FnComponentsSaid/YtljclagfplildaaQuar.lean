/-
  Plain facts on floats, no program: a quarter taken away as often as it goes. No theorem of a claim stands here.
-/
import Derived.Test.YtljclagfplildaaSine
set_option linter.unusedSimpArgs false
set_option linter.unusedVariables false
namespace Go.Proofs.Ytljclagfplildaa.Fl
open Go Go.RowKit

theorem nearest_scaled (k : FloatKind) (s : Bool) (m t : Nat) (i : Int) (m0 : m ≠ 0) (hm : m < 2 * k.format.binade) (hi : k.format.leastPlace ≤ i + t) :
    k.format.nearest s (m * 2 ^ t) i % k.format.signWeight = k.format.nearest s m (i + t) % k.format.signWeight := by
  have h0 : m * 2 ^ t ≠ 0 := Nat.mul_ne_zero m0 (Nat.ne_of_gt (Nat.two_pow_pos _))
  have hl : (m * 2 ^ t).log2 = m.log2 + t := by
    rw [Nat.log2_eq_iff h0]
    constructor
    · rw [Nat.pow_add]; exact Nat.mul_le_mul_right _ (Nat.log2_self_le m0)
    · rw [show m.log2 + t + 1 = (m.log2 + 1) + t by omega, Nat.pow_add]; exact Nat.mul_lt_mul_of_pos_right Nat.lt_log2_self (Nat.two_pow_pos _)
  have hfb : m.log2 ≤ k.format.fractionBits := by
    have := (Nat.log2_lt m0).2 (show m < 2 ^ (k.format.fractionBits + 1) by rw [Nat.pow_succ, Nat.mul_comm]; exact hm)
    omega
  rw [nearest_rung, nearest_rung, if_neg h0, if_neg m0, hl]
  have e : i + (↑(m.log2 + t) : Int) - k.format.fractionBits = i + t + m.log2 - k.format.fractionBits := by omega
  rw [e]
  generalize hL : max (i + t + m.log2 - k.format.fractionBits) k.format.leastPlace = L
  have hL2 : L ≤ i + t := by omega
  congr 2
  rw [show (L - (i + t)).toNat = 0 by omega, cut_zero, Nat.shiftLeft_eq]
  by_cases hLi : L ≤ i
  · rw [show (L - i).toNat = 0 by omega, cut_zero, Nat.shiftLeft_eq, Nat.mul_assoc, ← Nat.pow_add]
    congr 2; omega
  · rw [show (i - L).toNat = 0 by omega, Nat.pow_zero, Nat.mul_one, Nat.shiftLeft_eq]
    have hd : min (L - i).toNat ((m * 2 ^ t).log2 + 2) = (L - i).toNat := by rw [hl]; omega
    have ht : t = (i + t - L).toNat + (L - i).toNat := by omega
    have hme : m * 2 ^ t = m * 2 ^ (i + t - L).toNat * 2 ^ (L - i).toNat := by rw [Nat.mul_assoc, ← Nat.pow_add, ← ht]
    rw [cut_exact _ _ _ (by rw [hd, Nat.one_shiftLeft, hme]; exact Nat.mul_mod_left _ _), hd, Nat.one_shiftLeft]
    generalize hg : (L - i).toNat = g at hme
    rw [hme]
    exact Nat.mul_div_cancel _ (Nat.two_pow_pos _)

theorem dec_quarter : FloatKind.f64.decode quarter64 = .number false 4503599627370496 (-54) := by decide

/-- How many units of the least place 2^-54 is. -/
def u54 : Nat := 2 ^ ((-54 : Int) - FloatKind.f64.format.leastPlace).toNat
theorem u54_pos : 0 < u54 := Nat.two_pow_pos _
theorem rung_quarter : rung .f64 quarter64 < FloatKind.f64.format.infRung := by decide
theorem neg_quarter : neg .f64 quarter64 = false := by decide
theorem U_at (E : Nat) (r : Nat) (h : r = (E + 1) * 4503599627370496) : U .f64 r = 4503599627370496 * 2 ^ E := by
  have e6 : FloatKind.f64.format.binade = 4503599627370496 := by decide
  unfold U
  have hr : r / 4503599627370496 - 1 = E := by omega
  have hr2 : r % 4503599627370496 = 0 := by omega
  rw [e6, if_neg (by omega), hr, hr2, Nat.add_zero]
theorem U_quarter : U .f64 (rung .f64 quarter64) = 4503599627370496 * u54 := by
  unfold u54
  rw [least64]
  generalize hn : ((-54 : Int) - -1074).toNat = n
  exact U_at n _ (by have : rung .f64 quarter64 = 4598175219545276416 := by decide
                     rw [this]; omega)
theorem U_two : U .f64 ((1 + 1023) * 4503599627370496) = 8 * (4503599627370496 * u54) := by
  unfold u54
  rw [least64]
  generalize hn : ((-54 : Int) - -1074).toNat = n
  rw [U_at (3 + n) _ (by omega), Nat.pow_add]
  generalize 2 ^ n = P
  omega

/-- A quarter taken from a number from 0.25 to 2 is exact. -/
theorem quarter_sub {a : Nat} (ha : rung .f64 a ≤ (1 + 1023) * 4503599627370496) (hn : neg .f64 a = false) (hq : U .f64 (rung .f64 quarter64) ≤ U .f64 (rung .f64 a)) :
    ∃ r, fop .sub .f64 (some a) (some quarter64) = some r ∧ rung .f64 r < FloatKind.f64.format.infRung ∧ U .f64 (rung .f64 r) + 4503599627370496 * u54 = U .f64 (rung .f64 a) := by
  have hinf : FloatKind.f64.format.infRung = 9218868437227405312 := by decide
  have e6 : FloatKind.f64.format.binade = 4503599627370496 := by decide
  have hf : rung .f64 a < FloatKind.f64.format.infRung := by rw [hinf]; omega
  obtain ⟨m, i, h1, hi, hu, hm⟩ := read_units .f64 a hf
  have hU := U_le .f64 ha
  rw [U_two] at hU
  rw [U_quarter] at hq
  rw [least64] at hi hu
  rw [e6] at hm
  -- the place of a is at least that of 0.25
  have hi54 : -54 ≤ i := by
    by_cases h : -54 ≤ i
    · exact h
    · exfalso
      have e : u54 = 2 * 2 ^ (-56 - i + 1).toNat * 2 ^ (i - -1074).toNat := by
        unfold u54; rw [least64, show ((-54 : Int) - -1074).toNat = 1 + (-56 - i + 1).toNat + (i - -1074).toNat by omega, Nat.pow_add, Nat.pow_add]
      have hp : 0 < 2 ^ (-56 - i + 1).toNat := Nat.two_pow_pos _
      have hP : 0 < 2 ^ (i - -1074).toNat := Nat.two_pow_pos _
      rw [e, ← hu, Nat.mul_comm 2, Nat.mul_assoc, ← Nat.mul_assoc] at hq
      generalize 2 ^ (i - -1074).toNat = P at *
      generalize 2 ^ (-56 - i + 1).toNat = p at *
      have h3 : 4503599627370496 * p * (2 * P) = (4503599627370496 * p * 2) * P := by rw [Nat.mul_assoc (4503599627370496 * p)]
      rw [h3] at hq
      have h4 := Nat.le_of_mul_le_mul_right hq hP
      omega
  have eu : (i - -1074).toNat = (i + 54).toNat + ((-54 : Int) - -1074).toNat := by omega
  have hA : m * 2 ^ (i + 54).toNat * u54 = U .f64 (rung .f64 a) := by
    rw [← hu, eu, Nat.pow_add, ← Nat.mul_assoc]; unfold u54; rw [least64]
  rw [← hA, ← Nat.mul_assoc] at hU
  rw [← hA] at hq ⊢
  have hA1 : 4503599627370496 ≤ m * 2 ^ (i + 54).toNat := Nat.le_of_mul_le_mul_right hq u54_pos
  have hA2 : m * 2 ^ (i + 54).toNat ≤ 8 * 4503599627370496 := Nat.le_of_mul_le_mul_right hU u54_pos
  simp only [fop, Option.bind_some, floatBits, Ieee.Format.sub]
  rw [show FloatKind.f64.format.read a = _ from h1, show FloatKind.f64.format.read quarter64 = _ from dec_quarter, hn]
  simp only [Ieee.Datum.opposite, Ieee.Datum.sum, Option.map_some, Ieee.Format.write]
  have hmin : min i (-54) = -54 := by omega
  have hT : Ieee.signed false m (i - min i (-54)).toNat + Ieee.signed (!false) 4503599627370496 ((-54 : Int) - min i (-54)).toNat = ((m * 2 ^ (i + 54).toNat - 4503599627370496 : Nat) : Int) := by
    rw [hmin, show (i - -54).toNat = (i + 54).toNat by omega]
    unfold Ieee.signed
    simp only [Bool.not_false, if_true, Bool.false_eq_true, if_false, Nat.shiftLeft_eq]
    rw [show ((-54 : Int) - -54).toNat = 0 from rfl, Nat.pow_zero, Nat.mul_one]
    omega
  refine ⟨_, rfl, ?_⟩
  rw [hT, hmin, Int.natAbs_natCast]
  clear hT hU hq hA h1 hu
  have key : ∀ s, rung .f64 (FloatKind.f64.format.nearest s (m * 2 ^ (i + 54).toNat - 4503599627370496) (-54)) < FloatKind.f64.format.infRung ∧
      U .f64 (rung .f64 (FloatKind.f64.format.nearest s (m * 2 ^ (i + 54).toNat - 4503599627370496) (-54))) + 4503599627370496 * u54 = m * 2 ^ (i + 54).toNat * u54 := ?_
  exact key _
  intro s
  -- the difference has at most 53 digits
  have hD : ∃ M t : Nat, m * 2 ^ (i + 54).toNat - 4503599627370496 = M * 2 ^ t ∧ M < 2 * 4503599627370496 ∧ t ≤ 2 := by
    have c0 := Nat.pow_zero 2
    rcases (by omega : i = -54 ∨ i = -53 ∨ -52 ≤ i) with rfl | rfl | h52
    · exact ⟨m - 4503599627370496, 0, by rw [show ((-54 : Int) + 54).toNat = 0 from rfl, Nat.pow_zero]; omega, by omega, by omega⟩
    · exact ⟨m - 2251799813685248, 1, by rw [show ((-53 : Int) + 54).toNat = 1 from rfl]; omega, by omega, by omega⟩
    · refine ⟨m * 2 ^ (i + 52).toNat - 1125899906842624, 2, ?_, ?_, by omega⟩
      · rw [show (i + 54).toNat = (i + 52).toNat + 2 by omega, Nat.pow_add, ← Nat.mul_assoc]; omega
      · rw [show (i + 54).toNat = (i + 52).toNat + 2 by omega, Nat.pow_add, ← Nat.mul_assoc] at hA2; omega
  obtain ⟨M, t, hM, hM2, ht⟩ := hD
  rw [hM]
  have hsum : M * 2 ^ t * u54 + 4503599627370496 * u54 = m * 2 ^ (i + 54).toNat * u54 := by
    have hMA : M * 2 ^ t + 4503599627370496 = m * 2 ^ (i + 54).toNat := by omega
    rw [← hMA, Nat.add_mul]
  rw [← hsum]
  by_cases hM0 : M = 0
  · subst hM0
    rw [Nat.zero_mul]
    have := nearest_exact .f64 s 0 (-54) (by rw [e6]; omega) (by rw [least64]; omega) (.inl rfl)
    refine ⟨this.1, ?_⟩
    rw [this.2]; simp
  · have hx := nearest_exact .f64 s M (-54 + t) (by rw [e6]; exact hM2) (by rw [least64]; omega) (by
      right
      have := (Nat.log2_lt hM0).2 (show M < 2 ^ 53 from hM2)
      show (-54 + t : Int) + M.log2 ≤ (1023 : Int)
      omega)
    have hr : rung .f64 (FloatKind.f64.format.nearest s (M * 2 ^ t) (-54)) = rung .f64 (FloatKind.f64.format.nearest s M (-54 + t)) :=
      nearest_scaled .f64 s M t (-54) hM0 (by rw [e6]; exact hM2) (by rw [least64]; omega)
    rw [hr]
    refine ⟨hx.1, ?_⟩
    have e2 : ((-54 : Int) + t - FloatKind.f64.format.leastPlace).toNat = t + ((-54 : Int) - FloatKind.f64.format.leastPlace).toNat := by rw [least64]; omega
    rw [hx.2, e2, Nat.pow_add, Nat.mul_assoc]
    unfold u54
    rfl

/-- A quarter taken away n times. -/
def itQ : Nat → Option Nat → Option Nat
  | 0, x => x
  | n + 1, x => fop .sub .f64 (itQ n x) (vl .f64 quarter64)

/-- n is how often a quarter goes. -/
def EndQ (x : Option Nat) (n : Nat) : Prop := (∀ i, i < n → geB (itQ i x) (vl .f64 quarter64) = true) ∧ geB (itQ n x) (vl .f64 quarter64) = false

theorem endQ_unique {x : Option Nat} {n m : Nat} (h : EndQ x n) (g : EndQ x m) : n = m := by
  rcases Nat.lt_trichotomy n m with l | l | l
  · have := g.1 n l; rw [h.2] at this; cases this
  · exact l
  · have := h.1 m l; rw [g.2] at this; cases this

theorem vl_quarter : vl .f64 quarter64 = some quarter64 := fin_vl rung_quarter

theorem ge_quarter {x : Option Nat} (h : geB x (vl .f64 quarter64) = true) (hx : ∀ a, x = some a → rung .f64 a < FloatKind.f64.format.infRung) :
    ∃ a, x = some a ∧ neg .f64 a = false ∧ U .f64 (rung .f64 quarter64) ≤ U .f64 (rung .f64 a) := by
  cases x with
  | none => unfold geB ford at h; simp at h
  | some a =>
    refine ⟨a, rfl, ?_⟩
    have hf := hx a rfl
    unfold geB ford at h
    rw [vl_quarter] at h
    simp only [Option.bind_some] at h
    rw [order_units .f64 a quarter64 hf rung_quarter] at h
    have hsq : sv .f64 quarter64 = (U .f64 (rung .f64 quarter64) : Int) := by unfold sv; rw [neg_quarter]; rfl
    have hpos : 0 < U .f64 (rung .f64 quarter64) := by rw [U_quarter]; exact Nat.mul_pos (by omega) u54_pos
    rw [hsq] at h
    have hle : (U .f64 (rung .f64 quarter64) : Int) ≤ sv .f64 a := by
      rcases hc : compare (sv .f64 a) (U .f64 (rung .f64 quarter64) : Int) with _ | _ | _
      · rw [hc] at h; simp at h
      · have := Int.compare_eq_eq.1 hc; omega
      · have := Int.compare_eq_gt.1 hc; omega
    unfold sv at hle
    cases hneg : neg .f64 a
    · rw [hneg] at hle; simp only [Bool.false_eq_true, if_false] at hle; exact ⟨rfl, by omega⟩
    · rw [hneg] at hle; simp only [if_true] at hle; omega

/-- Beneath 2, a quarter goes at most eight times, and what is left stays within 2. -/
theorem itQ_units {x : Option Nat} (hx : Bd .f64 1 x) : ∀ n, (∀ i, i < n → geB (itQ i x) (vl .f64 quarter64) = true) →
    ∀ a, itQ n x = some a → rung .f64 a ≤ (1 + 1023) * 4503599627370496 ∧ U .f64 (rung .f64 a) + n * (4503599627370496 * u54) ≤ 8 * (4503599627370496 * u54)
  | 0, _, a, ha => by
    have h1 : rung .f64 a ≤ (1 + 1023) * 4503599627370496 := hx a ha
    refine ⟨h1, ?_⟩
    rw [Nat.zero_mul, Nat.add_zero, ← U_two]
    exact U_le .f64 h1
  | n + 1, h, a, ha => by
    have ih := itQ_units hx n (fun i hi => h i (by omega))
    have hinf : FloatKind.f64.format.infRung = 9218868437227405312 := by decide
    obtain ⟨c, hc, hn, hU⟩ := ge_quarter (h n (by omega)) (fun c hc => by have := (ih c hc).1; rw [hinf]; omega)
    obtain ⟨i1, i2⟩ := ih c hc
    obtain ⟨r, hr, hr2, hr3⟩ := quarter_sub i1 hn hU
    have e : a = r := by
      unfold itQ at ha; rw [hc, vl_quarter, hr] at ha; exact (Option.some.inj ha).symm
    subst e
    generalize hQ : 4503599627370496 * u54 = Q at *
    have e2 : U .f64 (rung .f64 a) + (n + 1) * Q ≤ 8 * Q := by rw [Nat.add_mul]; omega
    refine ⟨?_, e2⟩
    have : U .f64 (rung .f64 a) ≤ U .f64 ((1 + 1023) * 4503599627370496) := by
      rw [U_two, hQ]; exact Nat.le_trans (Nat.le_add_right _ _) e2
    apply Nat.le_of_not_lt
    intro hlt
    have := U_lt .f64 hlt
    omega

theorem itQ_lt {x : Option Nat} (hx : Bd .f64 1 x) {n : Nat} (h : ∀ i, i < n → geB (itQ i x) (vl .f64 quarter64) = true) (hg : geB (itQ n x) (vl .f64 quarter64) = true) : n < 8 := by
  have hinf : FloatKind.f64.format.infRung = 9218868437227405312 := by decide
  have ih := itQ_units hx n h
  obtain ⟨c, hc, hn, hU⟩ := ge_quarter hg (fun c hc => by have := (ih c hc).1; rw [hinf]; omega)
  obtain ⟨_, i2⟩ := ih c hc
  rw [U_quarter] at hU
  have hp : 0 < 4503599627370496 * u54 := Nat.mul_pos (by omega) u54_pos
  generalize 4503599627370496 * u54 = Q at *
  have : (n + 1) * Q ≤ 8 * Q := by rw [Nat.add_mul]; omega
  have := Nat.le_of_mul_le_mul_right this hp
  omega

theorem itQ_bd {x : Option Nat} (hx : Bd .f64 1 x) {n : Nat} (h : ∀ i, i < n → geB (itQ i x) (vl .f64 quarter64) = true) : Bd .f64 1 (itQ n x) :=
  fun a ha => (itQ_units hx n h a ha).1
end Go.Proofs.Ytljclagfplildaa.Fl
