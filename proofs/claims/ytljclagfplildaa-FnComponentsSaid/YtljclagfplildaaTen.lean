/-
  Plain facts on floats, no program: halving, doubling, tenths of decibels. No theorem of a claim stands here.
-/
import Derived.Test.YtljclagfplildaaAng
import Derived.Test.YtljclagfplildaaFloor
set_option linter.unusedSimpArgs false
set_option linter.unusedVariables false
namespace Go.Proofs.Ytljclagfplildaa.Fl
open Go Go.RowKit

def two64 : Nat := 4611686018427387904
def c15 : Nat := 4609434218613702656
def c075 : Nat := 4604930618986332160
def ln2c : Nat := 4604418534313441775
def c43 : Nat := 4631308968768463603
theorem dec_two : FloatKind.f64.decode two64 = .number false 4503599627370496 (-51) := by decide

/-- A quarter, in units of the least place. -/
def Qu : Nat := 4503599627370496 * u54
theorem Qu_big : 18014398509481984 ≤ Qu := by
  unfold Qu
  have : 4 ≤ u54 := by
    unfold u54; rw [least64]
    calc 4 = 2 ^ 2 := by decide
      _ ≤ _ := Nat.pow_le_pow_right (by omega) (by decide)
  omega
theorem Qu_pos : 0 < Qu := by have := Qu_big; omega

theorem U_gen (E f r : Nat) (hf : f < 4503599627370496) (h : r = (E + 1) * 4503599627370496 + f) : U .f64 r = (4503599627370496 + f) * 2 ^ E := by
  have e6 : FloatKind.f64.format.binade = 4503599627370496 := by decide
  unfold U
  have hr : r / 4503599627370496 - 1 = E := by omega
  have hr2 : r % 4503599627370496 = f := by omega
  rw [e6, if_neg (by omega), hr, hr2]

theorem U_c15 : U .f64 (rung .f64 c15) = 6 * Qu := by
  unfold Qu u54
  rw [least64]
  generalize hn : ((-54 : Int) - -1074).toNat = n
  have e : rung .f64 c15 = 4609434218613702656 := by decide
  rw [e, U_gen (n + 2) 2251799813685248 _ (by omega) (by omega), Nat.pow_add]
  generalize 2 ^ n = P
  omega
theorem U_c075 : U .f64 (rung .f64 c075) = 3 * Qu := by
  unfold Qu u54
  rw [least64]
  generalize hn : ((-54 : Int) - -1074).toNat = n
  have e : rung .f64 c075 = 4604930618986332160 := by decide
  rw [e, U_gen (n + 1) 2251799813685248 _ (by omega) (by omega), Nat.pow_add]
  generalize 2 ^ n = P
  omega
theorem U_one : U .f64 (rung .f64 one64) = 4 * Qu := by
  unfold Qu u54
  rw [least64]
  generalize hn : ((-54 : Int) - -1074).toNat = n
  have e : rung .f64 one64 = 4607182418800017408 := by decide
  rw [e, U_gen (n + 2) 0 _ (by omega) (by omega), Nat.pow_add]
  generalize 2 ^ n = P
  omega
theorem un_zero : un 0 = 4 * Qu := by
  unfold un Qu u54
  rw [least64]
  have e : ((0 : Nat) : Int) - -1074 = 1074 := by decide
  rw [e]
  generalize hn : ((-54 : Int) - -1074).toNat = n
  have e2 : (1074 : Int).toNat = n + 54 := by omega
  rw [e2, Nat.pow_add]
  generalize 2 ^ n = P
  omega

/-- A finite number greater than or equal to 0. -/
def Pos (a : Nat) : Prop := rung .f64 a < FloatKind.f64.format.infRung ∧ neg .f64 a = false

theorem pos_order {a c : Nat} (ha : Pos a) (hc : Pos c) : FloatKind.f64.format.order a c = some (compare (U .f64 (rung .f64 a) : Int) (U .f64 (rung .f64 c) : Int)) := by
  rw [order_units .f64 a c ha.1 hc.1]
  unfold sv
  rw [ha.2, hc.2]
  rfl

theorem pos_c15 : Pos c15 := ⟨by decide, by decide⟩
theorem pos_c075 : Pos c075 := ⟨by decide, by decide⟩

theorem ge_pos {a c : Nat} (ha : Pos a) (hc : Pos c) : geB (some a) (vl .f64 c) = decide (U .f64 (rung .f64 c) ≤ U .f64 (rung .f64 a)) := by
  unfold geB ford
  rw [fin_vl hc.1]
  simp only [Option.bind_some]
  rw [pos_order ha hc]
  generalize U .f64 (rung .f64 a) = x
  generalize U .f64 (rung .f64 c) = y
  rcases h : compare (x : Int) (y : Int) with _ | _ | _
  · have := Int.compare_eq_lt.1 h
    have e : decide (y ≤ x) = false := by simp; omega
    rw [e]; rfl
  · have := Int.compare_eq_eq.1 h
    have e : decide (y ≤ x) = true := by simp; omega
    rw [e]; rfl
  · have := Int.compare_eq_gt.1 h
    have e : decide (y ≤ x) = true := by simp; omega
    rw [e]; rfl

theorem lt_pos {a c : Nat} (ha : Pos a) (hc : Pos c) : ltB (some a) (vl .f64 c) = decide (U .f64 (rung .f64 a) < U .f64 (rung .f64 c)) := by
  unfold ltB ford
  rw [fin_vl hc.1]
  simp only [Option.bind_some]
  rw [pos_order ha hc]
  generalize U .f64 (rung .f64 a) = x
  generalize U .f64 (rung .f64 c) = y
  rcases h : compare (x : Int) (y : Int) with _ | _ | _
  · have := Int.compare_eq_lt.1 h
    have e : decide (x < y) = true := by simp; omega
    rw [e]; rfl
  · have := Int.compare_eq_eq.1 h
    have e : decide (x < y) = false := by simp; omega
    rw [e]; rfl
  · have := Int.compare_eq_gt.1 h
    have e : decide (x < y) = false := by simp; omega
    rw [e]; rfl

theorem half_exact {a : Nat} (ha : Pos a) (hU : 18014398509481984 ≤ U .f64 (rung .f64 a)) :
    ∃ r, fop .quo .f64 (some a) (some two64) = some r ∧ Pos r ∧ 2 * U .f64 (rung .f64 r) = U .f64 (rung .f64 a) := by
  have e6 : FloatKind.f64.format.binade = 4503599627370496 := by decide
  have ef : FloatKind.f64.format.fractionBits = 52 := rfl
  obtain ⟨m, i, h1, hi, hu, hm⟩ := read_units .f64 a ha.1
  rw [← hu] at hU ⊢
  rw [least64] at hi
  rw [e6] at hm
  have m0 : m ≠ 0 := by intro h; subst h; simp at hU
  have hi2 : -1073 ≤ i := by
    by_cases h : -1073 ≤ i
    · exact h
    · exfalso
      have : i = -1074 := by omega
      subst this
      rw [least64, show ((-1074 : Int) - -1074).toNat = 0 from rfl, Nat.pow_zero] at hU
      omega
  have hml : m.log2 ≤ 52 := by
    have := (Nat.log2_lt m0).2 (show m < 2 ^ 53 by omega)
    omega
  have hlim : i + m.log2 ≤ 1023 := by
    have hr := ha.1
    have hinf : FloatKind.f64.format.infRung = 9218868437227405312 := by decide
    have hU2 := U_lt .f64 hr
    rw [← hu, least64, hinf] at hU2
    generalize hg : (9218868437227405312 : Nat) = g at hU2
    obtain ⟨E, hE⟩ : ∃ E, E = 2046 := ⟨_, rfl⟩
    rw [U_gen E 0 g (by omega) (by omega), Nat.add_zero] at hU2
    have h3 : 2 ^ (m.log2 + (i - -1074).toNat) < 2 ^ (52 + E) := by
      rw [Nat.pow_add, Nat.pow_add 2 52]
      refine Nat.lt_of_le_of_lt (Nat.mul_le_mul_right _ (Nat.log2_self_le m0)) ?_
      have e52 : (2 : Nat) ^ 52 = 4503599627370496 := by decide
      rw [e52]
      exact hU2
    have h4 := (Nat.pow_lt_pow_iff_right (show 1 < 2 by omega)).1 h3
    omega
  obtain ⟨x1, x2⟩ := nearest_exact .f64 false m (i - 1) (by rw [e6]; omega) (by rw [least64]; omega) (.inr (by show i - 1 + m.log2 ≤ (1023 : Int); omega))
  generalize hmore : 52 + 2 + (4503599627370496 : Nat).log2 - m.log2 = more
  have hlog : (4503599627370496 : Nat).log2 = 52 := by decide
  have hmore2 : 54 ≤ more := by omega
  have hq : fop .quo .f64 (some a) (some two64) = some (FloatKind.f64.format.nearest false (m * 2 ^ (more - 51)) (i - 1 - ((more - 51 : Nat) : Int))) := by
    simp only [fop, Option.bind_some, floatBits, Ieee.Format.div]
    rw [show FloatKind.f64.format.read a = _ from h1, show FloatKind.f64.format.read two64 = _ from dec_two, ha.2]
    simp only [Ieee.Datum.quotient]
    rw [if_neg (by decide), ef, hmore]
    simp only [Option.map_some, Ieee.Format.write, Option.some.injEq]
    have hsh : m <<< more = m * 2 ^ (more - 52) * 4503599627370496 := by
      rw [Nat.shiftLeft_eq, Nat.mul_assoc]
      congr 1
      have e52 : (4503599627370496 : Nat) = 2 ^ 52 := by decide
      rw [e52, ← Nat.pow_add]; congr 1; omega
    have hpl : i - -51 - (more : Int) - 1 = i - 1 - ((more - 51 : Nat) : Int) := by omega
    rw [hsh, Nat.mul_div_cancel _ (by decide), Nat.mul_mod_left, hpl]
    have hm2 : 2 * (m * 2 ^ (more - 52)) + (0 != 0 : Bool).toNat = m * 2 ^ (more - 51) := by
      rw [show more - 51 = (more - 52) + 1 by omega, Nat.pow_succ, ← Nat.mul_assoc, Nat.mul_comm _ 2]
      simp only [bne_self_eq_false, Bool.toNat_false, Nat.add_zero]
      ac_rfl
    rw [hm2]
    rfl
  refine ⟨_, hq, ?_⟩
  have hr : rung .f64 (FloatKind.f64.format.nearest false (m * 2 ^ (more - 51)) (i - 1 - ((more - 51 : Nat) : Int))) = rung .f64 (FloatKind.f64.format.nearest false m (i - 1 - ((more - 51 : Nat) : Int) + ((more - 51 : Nat) : Int))) :=
    nearest_scaled .f64 false m (more - 51) _ m0 (by rw [e6]; omega) (by rw [least64]; omega)
  rw [show i - 1 - ((more - 51 : Nat) : Int) + ((more - 51 : Nat) : Int) = i - 1 by omega] at hr
  refine ⟨⟨by rw [hr]; exact x1, neg_nearest _ _ _ _⟩, ?_⟩
  rw [hr, x2, least64, show (i - -1074).toNat = (i - 1 - -1074).toNat + 1 by omega, Nat.pow_succ]
  ac_rfl

theorem double_exact {a : Nat} (ha : Pos a) (hU : U .f64 (rung .f64 a) ≤ 4 * Qu) :
    ∃ r, fop .mul .f64 (some a) (some two64) = some r ∧ Pos r ∧ U .f64 (rung .f64 r) = 2 * U .f64 (rung .f64 a) := by
  have e6 : FloatKind.f64.format.binade = 4503599627370496 := by decide
  obtain ⟨m, i, h1, hi, hu, hm⟩ := read_units .f64 a ha.1
  rw [← hu, ← un_zero] at hU
  rw [← hu]
  rw [least64] at hi
  rw [e6] at hm
  have hlim : m = 0 ∨ i + m.log2 ≤ 0 := by
    by_cases m0 : m = 0
    · exact .inl m0
    · right
      have h3 : 2 ^ (m.log2 + (i - FloatKind.f64.format.leastPlace).toNat) ≤ un 0 := by
        rw [Nat.pow_add]; exact Nat.le_trans (Nat.mul_le_mul_right _ (Nat.log2_self_le m0)) hU
      unfold un at h3
      have h4 := (Nat.pow_le_pow_iff_right (show 1 < 2 by omega)).1 h3
      rw [least64] at h4
      have e : ((0 : Nat) : Int) - -1074 = 1074 := by decide
      rw [e] at h4
      omega
  have hq : fop .mul .f64 (some a) (some two64) = some (FloatKind.f64.format.nearest false (m * 2 ^ 52) (i + -51)) := by
    simp only [fop, Option.bind_some, floatBits, Ieee.Format.mul]
    rw [show FloatKind.f64.format.read a = _ from h1, show FloatKind.f64.format.read two64 = _ from dec_two, ha.2]
    simp only [Ieee.Datum.product, Option.map_some, Ieee.Format.write, Option.some.injEq]
    have e52 : (4503599627370496 : Nat) = 2 ^ 52 := by decide
    rw [e52]
    rfl
  refine ⟨_, hq, ?_⟩
  by_cases m0 : m = 0
  · subst m0
    have hz := nearest_exact .f64 false 0 (i + 1) (by rw [e6]; omega) (by rw [least64]; omega) (.inl rfl)
    have hr : rung .f64 (FloatKind.f64.format.nearest false (0 * 2 ^ 52) (i + -51)) = rung .f64 (FloatKind.f64.format.nearest false 0 (i + 1)) := by
      unfold rung; rw [nearest_rung, nearest_rung, if_pos (by simp), if_pos rfl]
    refine ⟨⟨by rw [hr]; exact hz.1, neg_nearest _ _ _ _⟩, ?_⟩
    rw [hr, hz.2]; simp
  · obtain ⟨x1, x2⟩ := nearest_exact .f64 false m (i + 1) (by rw [e6]; omega) (by rw [least64]; omega) (.inr (by have := hlim.resolve_left m0; show i + 1 + m.log2 ≤ (1023 : Int); omega))
    have hr : rung .f64 (FloatKind.f64.format.nearest false (m * 2 ^ 52) (i + -51)) = rung .f64 (FloatKind.f64.format.nearest false m (i + -51 + ((52 : Nat) : Int))) :=
      nearest_scaled .f64 false m 52 _ m0 (by rw [e6]; omega) (by rw [least64]; omega)
    rw [show i + -51 + ((52 : Nat) : Int) = i + 1 by omega] at hr
    refine ⟨⟨by rw [hr]; exact x1, neg_nearest _ _ _ _⟩, ?_⟩
    rw [hr, x2, least64, show (i + 1 - -1074).toNat = (i - -1074).toNat + 1 by omega, Nat.pow_succ]
    ac_rfl

-- the two loops

def hV : Nat → Option Nat → Option Nat
  | 0, x => x
  | n + 1, x => fop .quo .f64 (hV n x) (vl .f64 two64)
def dV : Nat → Option Nat → Option Nat
  | 0, x => x
  | n + 1, x => fop .mul .f64 (dV n x) (vl .f64 two64)
theorem hV_succ (n : Nat) (x : Option Nat) : hV (n + 1) x = fop .quo .f64 (hV n x) (vl .f64 two64) := rfl
theorem dV_succ (n : Nat) (x : Option Nat) : dV (n + 1) x = fop .mul .f64 (dV n x) (vl .f64 two64) := rfl
theorem vl_two : vl .f64 two64 = some two64 := fin_vl (by decide)

def EndH (x : Option Nat) (n : Nat) : Prop := (∀ i, i < n → geB (hV i x) (vl .f64 c15) = true) ∧ geB (hV n x) (vl .f64 c15) = false
def EndD (x : Option Nat) (n : Nat) : Prop := (∀ i, i < n → ltB (dV i x) (vl .f64 c075) = true) ∧ ltB (dV n x) (vl .f64 c075) = false

theorem endH_unique {x : Option Nat} {n m : Nat} (h : EndH x n) (g : EndH x m) : n = m := by
  rcases Nat.lt_trichotomy n m with l | l | l
  · have := g.1 n l; rw [h.2] at this; cases this
  · exact l
  · have := h.1 m l; rw [g.2] at this; cases this
theorem endD_unique {x : Option Nat} {n m : Nat} (h : EndD x n) (g : EndD x m) : n = m := by
  rcases Nat.lt_trichotomy n m with l | l | l
  · have := g.1 n l; rw [h.2] at this; cases this
  · exact l
  · have := h.1 m l; rw [g.2] at this; cases this

theorem hV_units {a0 : Nat} (h0 : Pos a0) : ∀ n, (∀ i, i < n → geB (hV i (some a0)) (vl .f64 c15) = true) → ∃ a, hV n (some a0) = some a ∧ Pos a ∧ U .f64 (rung .f64 a) * 2 ^ n = U .f64 (rung .f64 a0)
  | 0, _ => ⟨a0, rfl, h0, by rw [Nat.pow_zero, Nat.mul_one]⟩
  | n + 1, h => by
    obtain ⟨a, h1, h2, h3⟩ := hV_units h0 n (fun i hi => h i (by omega))
    have hg := h n (by omega)
    rw [h1, ge_pos h2 pos_c15, decide_eq_true_iff, U_c15] at hg
    obtain ⟨r, r1, r2, r3⟩ := half_exact h2 (by have := Qu_big; omega)
    refine ⟨r, by rw [hV_succ, h1, vl_two, r1], r2, ?_⟩
    rw [Nat.pow_succ, Nat.mul_comm (2 ^ n) 2, ← Nat.mul_assoc, Nat.mul_comm (U .f64 (rung .f64 r)) 2, r3, h3]

theorem hV_lt {a0 : Nat} (h0 : Pos a0) (hlim : U .f64 (rung .f64 a0) ≤ 2 ^ 130 * Qu) {n : Nat} (h : ∀ i, i < n → geB (hV i (some a0)) (vl .f64 c15) = true) (hg : geB (hV n (some a0)) (vl .f64 c15) = true) : n < 130 := by
  obtain ⟨a, h1, h2, h3⟩ := hV_units h0 n h
  rw [h1, ge_pos h2 pos_c15, decide_eq_true_iff, U_c15] at hg
  have hq := Qu_pos
  have h4 : (6 * 2 ^ n) * Qu ≤ 2 ^ 130 * Qu := by
    refine Nat.le_trans ?_ hlim
    rw [← h3, Nat.mul_comm 6, Nat.mul_assoc, Nat.mul_comm]
    exact Nat.mul_le_mul_right _ hg
  have h5 := Nat.le_of_mul_le_mul_right h4 hq
  have h6 : 2 ^ n < 2 ^ 130 := by
    have := Nat.two_pow_pos n
    omega
  exact (Nat.pow_lt_pow_iff_right (show 1 < 2 by omega)).1 h6

theorem dV_units {a1 : Nat} (h0 : Pos a1) (hl : U .f64 (rung .f64 a1) < 6 * Qu) : ∀ n, (∀ i, i < n → ltB (dV i (some a1)) (vl .f64 c075) = true) → ∃ a, dV n (some a1) = some a ∧ Pos a ∧ U .f64 (rung .f64 a) = U .f64 (rung .f64 a1) * 2 ^ n ∧ U .f64 (rung .f64 a) < 6 * Qu
  | 0, _ => ⟨a1, rfl, h0, by rw [Nat.pow_zero, Nat.mul_one], hl⟩
  | n + 1, h => by
    obtain ⟨a, h1, h2, h3, h4⟩ := dV_units h0 hl n (fun i hi => h i (by omega))
    have hg := h n (by omega)
    rw [h1, lt_pos h2 pos_c075, decide_eq_true_iff, U_c075] at hg
    obtain ⟨r, r1, r2, r3⟩ := double_exact h2 (by omega)
    refine ⟨r, by rw [dV_succ, h1, vl_two, r1], r2, ?_, by omega⟩
    rw [r3, h3, Nat.pow_succ, Nat.mul_comm 2, Nat.mul_assoc]

theorem dV_lt {a1 : Nat} (h0 : Pos a1) (hp : 0 < U .f64 (rung .f64 a1)) (hl : U .f64 (rung .f64 a1) < 6 * Qu) {n : Nat} (h : ∀ i, i < n → ltB (dV i (some a1)) (vl .f64 c075) = true) (hg : ltB (dV n (some a1)) (vl .f64 c075) = true) : n < 1075 := by
  obtain ⟨a, h1, h2, h3, _⟩ := dV_units h0 hl n h
  rw [h1, lt_pos h2 pos_c075, decide_eq_true_iff, U_c075, h3] at hg
  have h4 : 2 ^ n < 4 * Qu := by
    have : 1 * 2 ^ n ≤ U .f64 (rung .f64 a1) * 2 ^ n := Nat.mul_le_mul_right _ hp
    omega
  rw [← un_zero] at h4
  unfold un at h4
  rw [least64] at h4
  have h5 := (Nat.pow_lt_pow_iff_right (show 1 < 2 by omega)).1 h4
  have e : (((0 : Nat) : Int) - -1074).toNat = 1074 := by decide
  omega

-- values that are there, and their bounds

/-- There, and within 2^E. -/
def Gd (E : Nat) (x : Option Nat) : Prop := (∃ r, x = some r) ∧ Bd .f64 E x

theorem gd_fin {E : Nat} {x : Option Nat} (hE : E < 1000) (h : Gd E x) : ∃ r, x = some r ∧ rung .f64 r < FloatKind.f64.format.infRung := by
  obtain ⟨⟨r, hr⟩, hb⟩ := h
  refine ⟨r, hr, ?_⟩
  have h1 : rung .f64 r ≤ (E + 1023) * 4503599627370496 := hb r hr
  have h2 : (E + 1023) * 4503599627370496 ≤ 2023 * 4503599627370496 := Nat.mul_le_mul_right _ (by omega)
  have hinf : FloatKind.f64.format.infRung = 9218868437227405312 := by decide
  omega
theorem gd_mono {E G : Nat} {x : Option Nat} (h : Gd E x) (hE : E ≤ G) : Gd G x := ⟨h.1, bd_mono h.2 hE⟩
theorem gd_add {E : Nat} {x y : Option Nat} (hE : E < 1000) (hx : Gd E x) (hy : Gd E y) : Gd (E + 1) (fop .add .f64 x y) := by
  obtain ⟨a, ha, fa⟩ := gd_fin hE hx
  obtain ⟨b, hb, fb⟩ := gd_fin hE hy
  refine ⟨by rw [ha, hb]; exact fadd_some fa fb, bd_fadd' (by have : bias .f64 = 1023 := rfl; omega) hx.2 hy.2⟩
theorem gd_sub {E : Nat} {x y : Option Nat} (hE : E < 1000) (hx : Gd E x) (hy : Gd E y) : Gd (E + 1) (fop .sub .f64 x y) := by
  obtain ⟨a, ha, fa⟩ := gd_fin hE hx
  obtain ⟨b, hb, fb⟩ := gd_fin hE hy
  refine ⟨by rw [ha, hb]; exact fsub_some fa fb, bd_fsub' (by have : bias .f64 = 1023 := rfl; omega) hx.2 hy.2⟩
theorem gd_mul {E G : Nat} {x y : Option Nat} (hE : E < 1000) (hG : G < 1000) (hx : Gd E x) (hy : Gd G y) : Gd (E + G) (fop .mul .f64 x y) := by
  obtain ⟨a, ha, fa⟩ := gd_fin hE hx
  obtain ⟨b, hb, fb⟩ := gd_fin hG hy
  refine ⟨?_, bd_fmul' (by have : bias .f64 = 1023 := rfl; omega) (by have : bias .f64 = 1023 := rfl; omega) hx.2 hy.2⟩
  rw [ha, hb]
  obtain ⟨m, i, h1, _⟩ := read_units .f64 a fa
  obtain ⟨n, j, h2, _⟩ := read_units .f64 b fb
  simp only [fop, Option.bind_some, floatBits, Ieee.Format.mul]
  rw [show FloatKind.f64.format.read a = _ from h1, show FloatKind.f64.format.read b = _ from h2]
  exact ⟨_, rfl⟩
theorem gd_quo {E : Nat} {x y : Option Nat} (hE : E < 1000) (hx : Gd E x) (hy : ∃ b, y = some b ∧ rung .f64 b < FloatKind.f64.format.infRung) (hg : Ge .f64 0 y) : Gd (E + 1) (fop .quo .f64 x y) := by
  obtain ⟨a, ha, fa⟩ := gd_fin hE hx
  obtain ⟨b, hb, fb⟩ := hy
  refine ⟨?_, bd_fquo (by have : bias .f64 = 1023 := rfl; omega) hx.2 hg⟩
  rw [ha, hb]
  obtain ⟨m, i, h1, _⟩ := read_units .f64 a fa
  obtain ⟨n, j, h2, _, h3, _⟩ := read_units .f64 b fb
  have n0 : n ≠ 0 := by
    intro h
    subst h
    rw [Nat.zero_mul] at h3
    have h4 := hg b hb
    have h5 : 0 < rung .f64 b := Nat.lt_of_lt_of_le (by decide) h4
    have h6 := U_lt .f64 h5
    omega
  simp only [fop, Option.bind_some, floatBits, Ieee.Format.div]
  rw [show FloatKind.f64.format.read a = _ from h1, show FloatKind.f64.format.read b = _ from h2]
  simp only [Ieee.Datum.quotient, n0, if_false]
  exact ⟨_, rfl⟩
theorem gd_vl {E b : Nat} (hf : rung .f64 b < FloatKind.f64.format.infRung) (hE : rung .f64 b ≤ (E + 1023) * 4503599627370496) : Gd E (vl .f64 b) := by
  rw [fin_vl hf]
  exact ⟨⟨b, rfl⟩, fun c hc => by cases hc; exact hE⟩

theorem fadd_comm (x y : Option Nat) : fop .add .f64 x y = fop .add .f64 y x := by
  cases x with
  | none => cases y <;> rfl
  | some a =>
    cases y with
    | none => rfl
    | some b =>
      show floatBits .add .f64 a b = floatBits .add .f64 b a
      simp only [floatBits, Ieee.Format.add]
      congr 1
      cases FloatKind.f64.format.read a <;> cases FloatKind.f64.format.read b <;> simp only [Ieee.Datum.sum]
      · rename_i s m i t n j
        rw [Int.min_comm, Int.add_comm, Bool.and_comm]
      · rename_i s t
        by_cases h : s = t
        · subst h; rfl
        · rw [if_neg h, if_neg (fun e => h e.symm)]

theorem kG (j : Nat) (hj : j < 13) : Gd 1 (kV (2 * j + 1)) := by
  refine gd_quo (E := 0) (by omega) (gd_vl (by decide) (by decide)) ?_ ?_
  · rcases (by omega : j = 0 ∨ j = 1 ∨ j = 2 ∨ j = 3 ∨ j = 4 ∨ j = 5 ∨ j = 6 ∨ j = 7 ∨ j = 8 ∨ j = 9 ∨ j = 10 ∨ j = 11 ∨ j = 12) with rfl | rfl | rfl | rfl | rfl | rfl | rfl | rfl | rfl | rfl | rfl | rfl | rfl <;> exact ⟨_, fin_vl (by decide +kernel), by decide +kernel⟩
  · intro b hb
    obtain rfl := vl_some hb
    rcases (by omega : j = 0 ∨ j = 1 ∨ j = 2 ∨ j = 3 ∨ j = 4 ∨ j = 5 ∨ j = 6 ∨ j = 7 ∨ j = 8 ∨ j = 9 ∨ j = 10 ∨ j = 11 ∨ j = 12) with rfl | rfl | rfl | rfl | rfl | rfl | rfl | rfl | rfl | rfl | rfl | rfl | rfl <;> decide +kernel

theorem oddV_gd (u : Option Nat) (hu : Gd 2 u) : ∀ (j : Nat) (p : Option Nat) (E : Nat), j ≤ 13 → Gd E p → E + j * (2 + 1) < 900 → Gd (E + j * (2 + 1)) (oddV u j p)
  | 0, p, E, _, hp, _ => by rw [Nat.zero_mul, Nat.add_zero, oddV_zero]; exact hp
  | j + 1, p, E, hj, hp, hE => by
    have e : E + (j + 1) * (2 + 1) = (E + (2 + 1)) + j * (2 + 1) := by rw [Nat.add_mul]; omega
    rw [e] at hE ⊢
    rw [oddV_succ, stepA]
    have hEs : E + (2 + 1) < 900 := Nat.lt_of_le_of_lt (Nat.le_add_right _ _) hE
    refine oddV_gd u hu j _ (E + (2 + 1)) (by omega) ?_ hE
    have h1 := gd_mul (by omega) (by omega) hu hp
    have h3 := gd_add (by omega) (gd_mono (kG j (by omega)) (show 1 ≤ 2 + E by omega)) h1
    exact gd_mono h3 (by omega)

/-- (x - 1) / (x + 1) -/
def sT (x : Option Nat) : Option Nat := fop .quo .f64 (fop .sub .f64 x (vl .f64 one64)) (fop .add .f64 x (vl .f64 one64))
def lT (s : Option Nat) (e : Int) : Option Nat := fop .add .f64 (fop .mul .f64 (vl .f64 two64) (fop .mul .f64 s (oddV (fop .mul .f64 s s) 13 (vl .f64 0)))) (fop .mul .f64 (vl .f64 (floatOfInt .f64 e)) (vl .f64 ln2c))
def yT (x : Option Nat) (e : Int) : Option Nat := fop .add .f64 (fop .mul .f64 (lT (sT x) e) (vl .f64 c43)) (vl .f64 half64)

theorem int_gd (e : Int) (he : e.natAbs < 2048) : Gd 11 (vl .f64 (floatOfInt .f64 e)) := by
  obtain ⟨h1, _⟩ := ofInt_units e (by omega)
  refine gd_vl h1 ?_
  have hb := nearest_bd .f64 (decide (e < 0)) e.natAbs 0 11 (by
    by_cases h0 : e.natAbs = 0
    · exact .inl h0
    · right
      have := (Nat.log2_lt h0).2 (show e.natAbs < 2 ^ 11 by omega)
      omega)
  exact hb

theorem yT_gd {a : Nat} (ha : Pos a) (hp : 0 < U .f64 (rung .f64 a)) (hl : U .f64 (rung .f64 a) < 6 * Qu) (e : Int) (he : e.natAbs < 2048) : Gd 49 (yT (some a) e) := by
  have f1 : rung .f64 one64 < FloatKind.f64.format.infRung := rung_one
  have v1 : vl .f64 one64 = some one64 := fin_vl f1
  -- x - 1
  obtain ⟨d, hd, hd2⟩ := sub_units (E := 0) ha.1 f1 (by
    unfold sv
    rw [ha.2, show neg .f64 one64 = false by decide]
    simp only [Bool.false_eq_true, if_false]
    rw [U_one, un_zero]
    omega)
  have g1 : Gd 0 (fop .sub .f64 (some a) (vl .f64 one64)) := by
    rw [v1]
    exact ⟨⟨d, hd⟩, fun c hc => by rw [hd] at hc; cases hc; exact hd2⟩
  -- x + 1
  have g2 : ∃ b, fop .add .f64 (some a) (vl .f64 one64) = some b ∧ rung .f64 b < FloatKind.f64.format.infRung := by
    have hra : rung .f64 a ≤ (1 + 1023) * 4503599627370496 := by
      apply Nat.le_of_not_lt
      intro h
      have h2 := U_lt .f64 h
      rw [U_two] at h2
      have : Qu = 4503599627370496 * u54 := rfl
      omega
    have : Gd 2 (fop .add .f64 (vl .f64 a) (vl .f64 one64)) := gd_add (by omega) (gd_vl ha.1 hra) (gd_mono (gd_vl (E := 0) f1 (by decide)) (by omega))
    rw [fin_vl ha.1] at this
    exact gd_fin (by omega) this
  have g3 : Ge .f64 0 (fop .add .f64 (some a) (vl .f64 one64)) := by
    rw [fadd_comm]
    exact ge_add fun b hb => by cases hb; exact .inl ha.2
  have gs : Gd 1 (sT (some a)) := gd_quo (by omega) g1 g2 g3
  unfold yT lT
  generalize sT (some a) = s at *
  have gu : Gd 2 (fop .mul .f64 s s) := gd_mono (gd_mul (by omega) (by omega) gs gs) (by omega)
  have g0 : Gd 0 (vl .f64 0) := gd_vl (by decide) (by decide)
  have go := oddV_gd _ gu 13 (vl .f64 0) 0 (by omega) g0 (by omega)
  have go' : Gd 39 (oddV (fop .mul .f64 s s) 13 (vl .f64 0)) := gd_mono go (by omega)
  have h1 : Gd 40 (fop .mul .f64 s (oddV (fop .mul .f64 s s) 13 (vl .f64 0))) := gd_mono (gd_mul (by omega) (by omega) gs go') (by omega)
  have gt : Gd 1 (vl .f64 two64) := gd_vl (by decide) (by decide)
  have h2 : Gd 41 (fop .mul .f64 (vl .f64 two64) (fop .mul .f64 s (oddV (fop .mul .f64 s s) 13 (vl .f64 0)))) := gd_mono (gd_mul (by omega) (by omega) gt h1) (by omega)
  have gl : Gd 0 (vl .f64 ln2c) := gd_vl (by decide) (by decide)
  have h3 : Gd 41 (fop .mul .f64 (vl .f64 (floatOfInt .f64 e)) (vl .f64 ln2c)) := gd_mono (gd_mul (by omega) (by omega) (int_gd e he) gl) (by omega)
  have h4 : Gd 42 (fop .add .f64 (fop .mul .f64 (vl .f64 two64) (fop .mul .f64 s (oddV (fop .mul .f64 s s) 13 (vl .f64 0)))) (fop .mul .f64 (vl .f64 (floatOfInt .f64 e)) (vl .f64 ln2c))) := gd_add (by omega) h2 h3
  have gc : Gd 6 (vl .f64 c43) := gd_vl (by decide) (by decide)
  have h5 := gd_mul (by omega) (by omega) h4 gc
  have gh : Gd 0 (vl .f64 half64) := gd_vl (by decide) (by decide)
  have h6 := gd_add (by omega) (gd_mono h5 (show 42 + 6 ≤ 48 by omega)) (gd_mono gh (show 0 ≤ 48 by omega))
  exact gd_mono h6 (by omega)
end Go.Proofs.Ytljclagfplildaa.Fl
