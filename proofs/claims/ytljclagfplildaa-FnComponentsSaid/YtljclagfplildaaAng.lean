/-
  Plain facts on floats, no program: the angle of a point: the value, up to NaN, and its bounds. No theorem of a claim stands here.
-/
import Derived.Test.YtljclagfplildaaSine
set_option linter.unusedSimpArgs false
set_option linter.unusedVariables false
namespace Go.Proofs.Ytljclagfplildaa.Fl
open Go Go.RowKit

-- the opposite of a number, a product, a sum

theorem neg_div {b : Nat} (hb : b < 2 ^ 64) : Op.negFloat .f64 b / FloatKind.f64.format.signWeight % 2 = 1 - b / FloatKind.f64.format.signWeight % 2 := by
  have e3 : FloatKind.f64.format.signWeight = 2 ^ 63 := by decide
  unfold Op.negFloat
  rw [e3, show FloatKind.f64.format.exponentBits + FloatKind.f64.format.fractionBits = 63 from rfl, Nat.xor_div_two_pow, Nat.div_self (Nat.two_pow_pos _)]
  have h2 : b / 2 ^ 63 < 2 := by omega
  rcases (by omega : b / 2 ^ 63 = 0 ∨ b / 2 ^ 63 = 1) with h | h <;> rw [h] <;> decide

theorem neg_neg' {b : Nat} (hb : b < 2 ^ 64) : neg .f64 (Op.negFloat .f64 b) = !neg .f64 b := by
  unfold neg
  rw [neg_div hb]
  have : b / FloatKind.f64.format.signWeight % 2 < 2 := Nat.mod_lt _ (by omega)
  rcases (by omega : b / FloatKind.f64.format.signWeight % 2 = 0 ∨ b / FloatKind.f64.format.signWeight % 2 = 1) with h | h <;> rw [h] <;> decide

theorem read_opp {b : Nat} (hb : b < 2 ^ 64) : FloatKind.f64.format.read (Op.negFloat .f64 b) = (FloatKind.f64.format.read b).opposite := by
  have h := neg_neg' hb
  unfold neg at h
  unfold Ieee.Format.read
  simp only
  rw [neg_mod, h]
  split
  · rfl
  · split
    · rfl
    · split <;> rfl

theorem opp_opp (d : Ieee.Datum) : d.opposite.opposite = d := by cases d <;> simp [Ieee.Datum.opposite]

theorem product_opp (x y : Ieee.Datum) : x.opposite.product y = (x.product y).map Ieee.Datum.opposite := by
  cases x <;> cases y <;> simp [Ieee.Datum.opposite, Ieee.Datum.product]
  all_goals first | done | (split <;> simp [Ieee.Datum.opposite])

theorem word_opp (s : Bool) {r : Nat} (h : r < FloatKind.f64.format.signWeight) : FloatKind.f64.format.word (!s) r = Op.negFloat .f64 (FloatKind.f64.format.word s r) := by
  have e3 : FloatKind.f64.format.signWeight = 2 ^ 63 := by decide
  have hl : FloatKind.f64.format.word s r < 2 ^ 64 := by unfold Ieee.Format.word; rw [e3] at h ⊢; split <;> omega
  have hl2 : FloatKind.f64.format.word (!s) r < 2 ^ 64 := by unfold Ieee.Format.word; rw [e3] at h ⊢; split <;> omega
  have m1 := neg_mod (FloatKind.f64.format.word s r)
  have d1 := neg_div hl
  have hn := neg_lt hl
  have m2 : FloatKind.f64.format.word (!s) r % FloatKind.f64.format.signWeight = FloatKind.f64.format.word s r % FloatKind.f64.format.signWeight := by rw [word_mod _ _ h, word_mod _ _ h]
  have d2 : FloatKind.f64.format.word (!s) r / FloatKind.f64.format.signWeight % 2 = 1 - FloatKind.f64.format.word s r / FloatKind.f64.format.signWeight % 2 := by
    have a1 := word_neg FloatKind.f64.format (!s) h
    have a2 := word_neg FloatKind.f64.format s h
    have b1 : FloatKind.f64.format.word s r / FloatKind.f64.format.signWeight % 2 < 2 := Nat.mod_lt _ (by omega)
    have b2 : FloatKind.f64.format.word (!s) r / FloatKind.f64.format.signWeight % 2 < 2 := Nat.mod_lt _ (by omega)
    clear m1 d1 hn m2 hl hl2
    generalize FloatKind.f64.format.word s r / FloatKind.f64.format.signWeight % 2 = A at *
    generalize FloatKind.f64.format.word (!s) r / FloatKind.f64.format.signWeight % 2 = B at *
    rcases (by omega : A = 0 ∨ A = 1) with rfl | rfl <;> rcases (by omega : B = 0 ∨ B = 1) with rfl | rfl <;> cases s <;> simp_all
  rw [e3] at *
  omega

theorem nearest_opp (s : Bool) (m : Nat) (i : Int) : FloatKind.f64.format.nearest (!s) m i = Op.negFloat .f64 (FloatKind.f64.format.nearest s m i) := by
  have hi := FloatKind.f64.format.infRung_lt
  have hc : ∀ a b, Ieee.Toward.even.cut (!s) a b = Ieee.Toward.even.cut s a b := fun _ _ => rfl
  unfold Ieee.Format.nearest
  simp only [hc]
  split
  · exact word_opp s (by omega)
  · exact word_opp s (Nat.lt_of_le_of_lt (Nat.min_le_right _ _) hi)

theorem write_opp (d : Ieee.Datum) (h : d.isNaN = false) : FloatKind.f64.format.write d.opposite = Op.negFloat .f64 (FloatKind.f64.format.write d) := by
  have hi := FloatKind.f64.format.infRung_lt
  cases d with
  | number s m i => exact nearest_opp s m i
  | infinity s => exact word_opp s hi
  | nan s f => simp [Ieee.Datum.isNaN] at h

theorem fop_lt {op : BinOp} {x y : Option Nat} {r : Nat} (h : fop op .f64 x y = some r) : r < 2 ^ 64 := by
  cases x with
  | none => cases h
  | some a =>
    cases y with
    | none => cases h
    | some b => exact lt_of_wf (floatBits_wf (show floatBits op .f64 a b = some r from h))

theorem fneg_mul {u s : Option Nat} (hu : ∀ a, u = some a → a < 2 ^ 64) : fop .mul .f64 (fneg u) s = fneg (fop .mul .f64 u s) := by
  cases u with
  | none => rfl
  | some a =>
    cases s with
    | none => rfl
    | some b =>
      have ha := hu a rfl
      show floatBits .mul .f64 (Op.negFloat .f64 a) b = (floatBits .mul .f64 a b).map _
      simp only [floatBits, Ieee.Format.mul]
      rw [read_opp ha, product_opp]
      cases hp : (FloatKind.f64.format.read a).product (FloatKind.f64.format.read b) with
      | none => rfl
      | some d =>
        simp only [Option.map_some]
        rw [write_opp d (product_nan hp).1]

theorem add_fneg {x y : Option Nat} (hy : ∀ a, y = some a → a < 2 ^ 64) : fop .add .f64 x (fneg y) = fop .sub .f64 x y := by
  cases x with
  | none => rfl
  | some a =>
    cases y with
    | none => rfl
    | some b =>
      have hb := hy b rfl
      show floatBits .add .f64 a (Op.negFloat .f64 b) = floatBits .sub .f64 a b
      simp only [floatBits, Ieee.Format.add, Ieee.Format.sub]
      rw [read_opp hb]

theorem add_negmul {x u s : Option Nat} (hu : ∀ a, u = some a → a < 2 ^ 64) : fop .add .f64 x (fop .mul .f64 (fneg u) s) = fop .sub .f64 x (fop .mul .f64 u s) := by
  rw [fneg_mul hu]
  exact add_fneg fun a h => fop_lt h

-- bounds

theorem quo_le_one {a b : Nat} (ha : rung .f64 a < FloatKind.f64.format.infRung) (hb : rung .f64 b < FloatKind.f64.format.infRung) (hab : U .f64 (rung .f64 a) ≤ U .f64 (rung .f64 b)) :
    Bd .f64 0 (fop .quo .f64 (some a) (some b)) := by
  intro r hr
  obtain ⟨m, i, h1, hi, hu, _⟩ := read_units .f64 a ha
  obtain ⟨n, j, h2, hj, hv, _⟩ := read_units .f64 b hb
  simp only [fop, Option.bind_some, floatBits, Ieee.Format.div, Option.map_eq_some_iff] at hr
  obtain ⟨d, hd, hr⟩ := hr
  rw [show FloatKind.f64.format.read a = _ from h1, show FloatKind.f64.format.read b = _ from h2] at hd
  rw [← hu, ← hv] at hab
  by_cases n0 : n = 0
  · subst n0
    rw [Nat.zero_mul] at hab
    have hm0 : m = 0 := by
      rcases Nat.mul_eq_zero.1 (Nat.le_zero.1 hab) with h | h
      · exact h
      · exact absurd h (Nat.ne_of_gt (Nat.two_pow_pos _))
    subst hm0
    simp [Ieee.Datum.quotient] at hd
  simp only [Ieee.Datum.quotient, n0, if_false, Option.some.injEq] at hd
  subst hd; subst hr
  simp only [Ieee.Format.write]
  apply nearest_le
  by_cases m0 : m = 0
  · left; subst m0; simp
  generalize hmore : FloatKind.f64.format.fractionBits + 2 + n.log2 - m.log2 = more
  -- m * 2^i is not greater than n * 2^j
  have hmn : ∀ base : Int, base ≤ i → base ≤ j → m * 2 ^ (i - base).toNat ≤ n * 2 ^ (j - base).toNat := by
    intro base b1 b2
    rw [least64] at hab
    by_cases hbl : -1074 ≤ base
    · rw [show (i - -1074).toNat = (i - base).toNat + (base - -1074).toNat by omega, show (j - -1074).toNat = (j - base).toNat + (base - -1074).toNat by omega, Nat.pow_add, Nat.pow_add, ← Nat.mul_assoc, ← Nat.mul_assoc] at hab
      exact Nat.le_of_mul_le_mul_right hab (Nat.two_pow_pos _)
    · rw [least64] at hi hj
      rw [show (i - base).toNat = (i - -1074).toNat + (-1074 - base).toNat by omega, show (j - base).toNat = (j - -1074).toNat + (-1074 - base).toNat by omega, Nat.pow_add, Nat.pow_add, ← Nat.mul_assoc, ← Nat.mul_assoc]
      exact Nat.mul_le_mul_right _ hab
  have hij : i ≤ j + more := by
    by_cases h : i ≤ j + more
    · exact h
    · exfalso
      have h3 := hmn j (by omega) (Int.le_refl _)
      rw [Int.sub_self, show Int.toNat 0 = 0 from rfl, Nat.pow_zero, Nat.mul_one] at h3
      have h4 : 2 ^ (m.log2 + (i - j).toNat) ≤ n := by
        rw [Nat.pow_add]; exact Nat.le_trans (Nat.mul_le_mul_right _ (Nat.log2_self_le m0)) h3
      have h5 : 2 ^ (m.log2 + (i - j).toNat) < 2 ^ (n.log2 + 1) := Nat.lt_of_le_of_lt h4 Nat.lt_log2_self
      have h6 := (Nat.pow_lt_pow_iff_right (show 1 < 2 by omega)).1 h5
      omega
  have hD : m <<< more ≤ n * 2 ^ (j + more - i).toNat := by
    rw [Nat.shiftLeft_eq]
    have h3 := hmn (i - more) (by omega) (by omega)
    rw [show (i - (i - (more : Int))).toNat = more by omega, show (j - (i - (more : Int))).toNat = (j + more - i).toNat by omega] at h3
    exact h3
  rw [le_iff (b := i - j - more - 1) (Int.le_refl _) (by omega), Int.sub_self, show Int.toNat 0 = 0 from rfl, Nat.pow_zero, Nat.mul_one]
  rw [show (((0 : Nat) : Int) - (i - j - more - 1)).toNat = (j + more - i).toNat + 1 by omega, Nat.pow_succ]
  generalize 2 ^ (j + more - i).toNat = K at *
  generalize m <<< more = D at *
  have hq : D / n ≤ K := Nat.div_le_of_le_mul hD
  have hdm := Nat.div_add_mod D n
  rcases Nat.lt_or_eq_of_le hq with h | h
  · have := Bool.toNat_le (D % n != 0)
    omega
  · rw [h] at hdm ⊢
    have h0 : D % n = 0 := by omega
    rw [h0]; simp; omega

theorem nearest_ge (s : Bool) (m : Nat) (i : Int) (m0 : m ≠ 0) (h : 0 ≤ i + m.log2) : (0 + bias .f64) * FloatKind.f64.format.binade ≤ FloatKind.f64.format.nearest s m i % FloatKind.f64.format.signWeight := by
  have e6 : FloatKind.f64.format.binade = 2 ^ 52 := by decide
  have ef : FloatKind.f64.format.fractionBits = 52 := rfl
  have hinf : FloatKind.f64.format.infRung = 2047 * 2 ^ 52 := by decide
  have eb : bias .f64 = 1023 := rfl
  rw [nearest_rung, if_neg m0, least64, ef, eb]
  have hmax : max (i + m.log2 - ((52 : Nat) : Int)) (-1074) = i + m.log2 - 52 := by omega
  rw [hmax]
  have hkept : 2 ^ 52 ≤ Ieee.Toward.even.cut s (m <<< (i - (i + m.log2 - 52)).toNat) (i + m.log2 - 52 - i).toNat := by
    by_cases hb : m.log2 ≤ 52
    · rw [show (i + (m.log2 : Int) - 52 - i).toNat = 0 by omega, cut_zero, Nat.shiftLeft_eq, show (i - (i + (m.log2 : Int) - 52)).toNat = 52 - m.log2 by omega]
      calc 2 ^ 52 = 2 ^ m.log2 * 2 ^ (52 - m.log2) := by rw [← Nat.pow_add]; congr 1; omega
        _ ≤ _ := Nat.mul_le_mul_right _ (Nat.log2_self_le m0)
    · rw [show (i - (i + (m.log2 : Int) - 52)).toNat = 0 by omega, Nat.shiftLeft_zero, show (i + (m.log2 : Int) - 52 - i).toNat = m.log2 - 52 by omega]
      refine Nat.le_trans ?_ (cut_ge _ _ _ _)
      rw [Nat.one_shiftLeft, Nat.min_eq_left (by omega), Nat.le_div_iff_mul_le (Nat.two_pow_pos _), ← Nat.pow_add, show 52 + (m.log2 - 52) = m.log2 by omega]
      exact Nat.log2_self_le m0
  rw [e6, hinf]
  generalize Ieee.Toward.even.cut s (m <<< (i - (i + m.log2 - 52)).toNat) (i + m.log2 - 52 - i).toNat = K at *
  have h2 : 1022 * 2 ^ 52 ≤ (i + (m.log2 : Int) - 52 - -1074).toNat * 2 ^ 52 := Nat.mul_le_mul_right _ (by omega)
  apply Nat.le_min.2
  omega

theorem dec_one : FloatKind.f64.decode one64 = .number false 4503599627370496 (-52) := by decide

/-- 1 and what is not less than 0. -/
theorem ge_add {y : Option Nat} (hy : ∀ a, y = some a → neg .f64 a = false ∨ rung .f64 a = 0) : Ge .f64 0 (fop .add .f64 (vl .f64 one64) y) := by
  intro r hr
  have e1 : vl .f64 one64 = some one64 := fin_vl (by decide)
  rw [e1] at hr
  cases y with
  | none => cases hr
  | some a =>
    have hr' : floatBits .add .f64 one64 a = some r := hr
    have ha := (floatBits_nan hr').2.2
    have hle := num_rung ha
    simp only [floatBits, Ieee.Format.add, Option.map_eq_some_iff] at hr'
    obtain ⟨d, hd, hr'⟩ := hr'
    rw [show FloatKind.f64.format.read one64 = _ from dec_one] at hd
    by_cases hf : rung .f64 a < FloatKind.f64.format.infRung
    · obtain ⟨n, j, h2, hj, hv, _⟩ := read_units .f64 a hf
      rw [show FloatKind.f64.format.read a = _ from h2] at hd
      simp only [Ieee.Datum.sum, Option.some.injEq] at hd
      subst hd; subst hr'
      simp only [Ieee.Format.write]
      have hn : neg .f64 a = false ∨ n = 0 := by
        rcases hy a rfl with h | h
        · exact .inl h
        · right
          rw [h] at hv
          have : U .f64 0 = 0 := by unfold U; rw [if_pos (by decide)]
          rw [this] at hv
          rcases Nat.mul_eq_zero.1 hv with h | h
          · exact h
          · exact absurd h (Nat.ne_of_gt (Nat.two_pow_pos _))
      have hT : ∃ T : Nat, Ieee.signed false 4503599627370496 (-52 - min (-52) j).toNat + Ieee.signed (neg .f64 a) n (j - min (-52) j).toNat = (T : Int) ∧ 2 ^ (52 + (-52 - min (-52) j).toNat) ≤ T := by
        refine ⟨4503599627370496 * 2 ^ (-52 - min (-52) j).toNat + n * 2 ^ (j - min (-52) j).toNat, ?_, ?_⟩
        · unfold Ieee.signed
          simp only [Nat.shiftLeft_eq]
          rcases hn with h | h
          · rw [h]; simp
          · subst h; simp
        · rw [Nat.pow_add]
          exact Nat.le_add_right _ _
      obtain ⟨T, hT1, hT2⟩ := hT
      rw [hT1, Int.natAbs_natCast]
      have T0 : T ≠ 0 := by
        have := Nat.two_pow_pos (52 + (-52 - min (-52) j).toNat)
        omega
      refine nearest_ge _ T _ T0 ?_
      have := (Nat.le_log2 T0).2 hT2
      omega
    · have hi : rung .f64 a = FloatKind.f64.format.infRung := by omega
      rw [show FloatKind.f64.format.read a = _ from read_inf hi] at hd
      simp only [Ieee.Datum.sum, Option.some.injEq] at hd
      subst hd; subst hr'
      show _ ≤ FloatKind.f64.format.word _ _ % _
      rw [word_mod _ _ (Ieee.Format.infRung_lt _)]
      decide

theorem fsq_pos {x : Option Nat} {a : Nat} (h : fsq x = some a) : neg .f64 a = false ∨ rung .f64 a = 0 := by
  cases x with
  | none => cases h
  | some b =>
    have h' : FloatKind.f64.format.sqrt b = some a := h
    unfold Ieee.Format.sqrt at h'
    simp only [Option.map_eq_some_iff] at h'
    obtain ⟨d, hd, h'⟩ := h'
    subst h'
    cases hb : FloatKind.f64.format.read b with
    | nan s t => rw [hb] at hd; simp [Ieee.Datum.root] at hd
    | infinity s =>
      rw [hb] at hd
      simp only [Ieee.Datum.root] at hd
      split at hd
      · cases hd
      · rename_i hs
        cases hd
        left
        have : s = false := by cases s <;> simp_all
        subst this
        exact word_neg _ _ (Ieee.Format.infRung_lt _)
    | number s m i =>
      rw [hb] at hd
      simp only [Ieee.Datum.root] at hd
      split at hd
      · rename_i hm
        cases hd
        right
        subst hm
        unfold rung
        simp only [Ieee.Format.write]
        rw [nearest_rung, if_pos rfl]
      · split at hd
        · cases hd
        · cases hd
          exact .inl (neg_nearest .f64 false _ _)

-- the angle

/-- One halving of an angle, by its tangent. -/
def tV (t : Option Nat) : Option Nat := fop .quo .f64 t (fop .add .f64 (vl .f64 one64) (fsq (fop .add .f64 (vl .f64 one64) (fop .mul .f64 t t))))
def kV (k : Nat) : Option Nat := fop .quo .f64 (vl .f64 one64) (vl .f64 (floatOfInt .f64 (k : Nat)))
/-- j terms of a series that are still to come. -/
def serK (step : Nat → Option Nat → Option Nat) : Nat → Option Nat → Option Nat
  | 0, p => p
  | j + 1, p => serK step j (step j p)
theorem serK_zero (f : Nat → Option Nat → Option Nat) (p : Option Nat) : serK f 0 p = p := rfl
theorem serK_succ (f : Nat → Option Nat → Option Nat) (p : Option Nat) (j : Nat) : serK f (j + 1) p = serK f j (f j p) := rfl
theorem serK_congr {f g : Nat → Option Nat → Option Nat} (h : ∀ j p, f j p = g j p) (j : Nat) (p : Option Nat) : serK f j p = serK g j p := by
  have : f = g := funext fun j => funext fun p => h j p
  rw [this]
def stepA (u : Option Nat) (j : Nat) (p : Option Nat) : Option Nat := fop .add .f64 (kV (2 * j + 1)) (fop .mul .f64 u p)
def stepS (u : Option Nat) (j : Nat) (p : Option Nat) : Option Nat := fop .sub .f64 (kV (2 * j + 1)) (fop .mul .f64 u p)
def oddV (u : Option Nat) (j : Nat) (p : Option Nat) : Option Nat := serK (stepA u) j p
def oddS (u : Option Nat) (j : Nat) (p : Option Nat) : Option Nat := serK (stepS u) j p
theorem oddS_zero (u p : Option Nat) : oddS u 0 p = p := serK_zero (stepS u) p
theorem oddS_succ (u p : Option Nat) (j : Nat) : oddS u (j + 1) p = oddS u j (stepS u j p) := serK_succ (stepS u) p j
theorem oddV_zero (u p : Option Nat) : oddV u 0 p = p := serK_zero (stepA u) p
theorem oddV_succ (u p : Option Nat) (j : Nat) : oddV u (j + 1) p = oddV u j (stepA u j p) := serK_succ (stepA u) p j
theorem oddV_neg {u : Option Nat} (hu : ∀ a, u = some a → a < 2 ^ 64) (j : Nat) (p : Option Nat) : oddV (fneg u) j p = oddS u j p :=
  serK_congr (fun j p => by unfold stepA stepS; exact add_negmul hu) j p

def eight64 : Nat := 4620693217682128896
/-- The angle whose tangent is t, in turns. -/
def slV (t : Option Nat) : Option Nat := fop .quo .f64 (fop .mul .f64 (vl .f64 eight64) (fop .mul .f64 t (oddS (fop .mul .f64 t t) 8 (vl .f64 0)))) (vl .f64 circle64)
def slope (t : Option Nat) : Option Nat := slV (tV (tV (tV t)))

def ab (b : Nat) : Nat := b % 9223372036854775808
def ratio (c : Bool) (y x : Nat) : Option Nat := if c then fop .quo .f64 (vl .f64 (ab x)) (vl .f64 (ab y)) else fop .quo .f64 (vl .f64 (ab y)) (vl .f64 (ab x))
def ang1 (c : Bool) (a : Option Nat) : Option Nat := if c then fop .sub .f64 (vl .f64 quarter64) a else a
def ang2 (c : Bool) (a : Option Nat) : Option Nat := if c then fop .sub .f64 (vl .f64 half64) a else a
def ang3 (c : Bool) (a : Option Nat) : Option Nat := if c then fneg a else a
/-- The angle of a point: whether |y| is greater than |x|, x less than 0, y less than 0. -/
def angV (c1 c2 c3 : Bool) (y x : Nat) : Option Nat := ang3 c3 (ang2 c2 (ang1 c1 (slope (ratio c1 y x))))

theorem bd_quarter : Bd .f64 0 (vl .f64 quarter64) := by intro b hb; obtain rfl := vl_some hb; decide
theorem bd_eight : Bd .f64 3 (vl .f64 eight64) := by intro b hb; obtain rfl := vl_some hb; decide
theorem ge_circle : Ge .f64 0 (vl .f64 circle64) := by intro b hb; obtain rfl := vl_some hb; decide

theorem tV_bd {E : Nat} {t : Option Nat} (hE : E < 1000) (h : Bd .f64 E t) : Bd .f64 (E + 1) (tV t) :=
  bd_fquo (by have : bias .f64 = 1023 := rfl; omega) h (ge_add fun a ha => fsq_pos ha)

theorem kV_bd (j : Nat) (hj : j < 13) : Bd .f64 1 (kV (2 * j + 1)) := by
  refine bd_fquo (by have : bias .f64 = 1023 := rfl; omega) bd_one ?_
  intro b hb
  obtain rfl := vl_some hb
  rcases (by omega : j = 0 ∨ j = 1 ∨ j = 2 ∨ j = 3 ∨ j = 4 ∨ j = 5 ∨ j = 6 ∨ j = 7 ∨ j = 8 ∨ j = 9 ∨ j = 10 ∨ j = 11 ∨ j = 12) with rfl | rfl | rfl | rfl | rfl | rfl | rfl | rfl | rfl | rfl | rfl | rfl | rfl <;> decide +kernel

theorem bd_zero : Bd .f64 0 (vl .f64 0) := by intro c hc; rw [vl_zero] at hc; cases hc; decide

theorem oddS_bd (u : Option Nat) (G : Nat) (hu : Bd .f64 G u) (hG : G ≤ 12) : ∀ (j : Nat) (p : Option Nat) (E : Nat), j ≤ 8 → Bd .f64 E p → E + j * (G + 2) < 1000 → Bd .f64 (E + j * (G + 2)) (oddS u j p)
  | 0, p, E, _, hp, _ => by rw [Nat.zero_mul, Nat.add_zero, oddS_zero]; exact hp
  | j + 1, p, E, hj, hp, hE => by
    have e : E + (j + 1) * (G + 2) = (E + (G + 2)) + j * (G + 2) := by rw [Nat.add_mul]; omega
    rw [e] at hE ⊢
    rw [oddS_succ, stepS]
    have hEs : E + (G + 2) < 1000 := Nat.lt_of_le_of_lt (Nat.le_add_right _ _) hE
    refine oddS_bd u G hu hG j _ (E + (G + 2)) (by omega) ?_ hE
    have b1 : bias .f64 = 1023 := rfl
    have h1 := bd_fmul' (by rw [b1]; omega) (by rw [b1]; omega) hu hp
    have h3 := bd_fsub' (by rw [b1]; omega) (bd_mono (kV_bd j (by omega)) (show 1 ≤ G + E + 1 by omega)) (bd_mono h1 (Nat.le_add_right _ 1))
    exact bd_mono h3 (by omega)

theorem slope_bd {t : Option Nat} (h : Bd .f64 0 t) : Bd .f64 80 (slope t) := by
  have b1 : bias .f64 = 1023 := rfl
  have h1 : Bd .f64 3 (tV (tV (tV t))) := tV_bd (by omega) (tV_bd (by omega) (tV_bd (by omega) h))
  unfold slope
  generalize tV (tV (tV t)) = q at *
  have h2 : Bd .f64 6 (fop .mul .f64 q q) := bd_mono (bd_fmul' (k := .f64) (by rw [b1]; omega) (by rw [b1]; omega) h1 h1) (by omega)
  have h3 := oddS_bd _ 6 h2 (by omega) 8 (vl .f64 0) 0 (by omega) bd_zero (by omega)
  have h3' : Bd .f64 64 (oddS (fop .mul .f64 q q) 8 (vl .f64 0)) := bd_mono h3 (by omega)
  have h4 : Bd .f64 67 (fop .mul .f64 q (oddS (fop .mul .f64 q q) 8 (vl .f64 0))) := bd_mono (bd_fmul' (k := .f64) (by rw [b1]; omega) (by rw [b1]; omega) h1 h3') (by omega)
  have h5 : Bd .f64 70 (fop .mul .f64 (vl .f64 eight64) (fop .mul .f64 q (oddS (fop .mul .f64 q q) 8 (vl .f64 0)))) := bd_mono (bd_fmul' (k := .f64) (by rw [b1]; omega) (by rw [b1]; omega) bd_eight h4) (by omega)
  exact bd_mono (bd_fquo (by rw [b1]; omega) h5 ge_circle) (by omega)

theorem angV_bd (c1 c2 c3 : Bool) (y x : Nat) (h : Bd .f64 0 (ratio c1 y x)) : Bd .f64 90 (angV c1 c2 c3 y x) := by
  have b1 : bias .f64 = 1023 := rfl
  have h1 := slope_bd h
  have h2 : Bd .f64 81 (ang1 c1 (slope (ratio c1 y x))) := by
    cases c1
    · exact bd_mono h1 (by omega)
    · exact bd_fsub' (by rw [b1]; omega) (bd_mono bd_quarter (by omega)) h1
  unfold angV
  generalize ang1 c1 (slope (ratio c1 y x)) = q at *
  have h3 : Bd .f64 82 (ang2 c2 q) := by
    cases c2
    · exact bd_mono h2 (by omega)
    · exact bd_fsub' (by rw [b1]; omega) (bd_mono bd_half (by omega)) h2
  cases c3
  · exact bd_mono h3 (by omega)
  · exact bd_neg (bd_mono h3 (by omega))

theorem fin_ab {b : Nat} (h : rung .f64 b < FloatKind.f64.format.infRung) : rung .f64 (ab b) < FloatKind.f64.format.infRung := by unfold ab; rw [rung_abs]; exact h

theorem ratio_bd {c : Bool} {y x : Nat} (hy : rung .f64 y < FloatKind.f64.format.infRung) (hx : rung .f64 x < FloatKind.f64.format.infRung)
    (hc : (FloatKind.f64.format.order (ab y) (ab x) == some .gt) = c) : Bd .f64 0 (ratio c y x) := by
  rw [order_units .f64 _ _ (fin_ab hy) (fin_ab hx)] at hc
  unfold ratio
  rw [fin_vl (fin_ab hy), fin_vl (fin_ab hx)]
  have sy : sv .f64 (ab y) = U .f64 (rung .f64 (ab y)) := by unfold ab; rw [sv_abs, rung_abs]
  have sx : sv .f64 (ab x) = U .f64 (rung .f64 (ab x)) := by unfold ab; rw [sv_abs, rung_abs]
  rw [sy, sx] at hc
  cases c
  · refine quo_le_one (fin_ab hy) (fin_ab hx) ?_
    rcases hcmp : compare (U .f64 (rung .f64 (ab y)) : Int) (U .f64 (rung .f64 (ab x)) : Int) with _ | _ | _
    · have := Int.compare_eq_lt.1 hcmp; omega
    · have := Int.compare_eq_eq.1 hcmp; omega
    · rw [hcmp] at hc; simp at hc
  · refine quo_le_one (fin_ab hx) (fin_ab hy) ?_
    rcases hcmp : compare (U .f64 (rung .f64 (ab y)) : Int) (U .f64 (rung .f64 (ab x)) : Int) with _ | _ | _
    · rw [hcmp] at hc; simp at hc
    · rw [hcmp] at hc; simp at hc
    · have := Int.compare_eq_gt.1 hcmp; omega

/-- A float32 and its float64 stand to 0 alike. -/
theorem order_widen {b r : Nat} (h : rung .f32 b < FloatKind.f32.format.infRung) (hr : vl .f64 r = fcv .f32 .f64 (vl .f32 b)) :
    FloatKind.f64.format.order r 0 = FloatKind.f32.format.order b 0 ∧ rung .f64 r < FloatKind.f64.format.infRung := by
  obtain ⟨q, h1, h2, h3, h4⟩ := widen_fin b h
  rw [fin_vl h, h1] at hr
  obtain rfl := vl_some hr
  refine ⟨?_, h2⟩
  have z1 : rung .f64 0 < FloatKind.f64.format.infRung := by decide
  have z2 : rung .f32 0 < FloatKind.f32.format.infRung := by decide
  rw [order_units .f64 _ _ h2 z1, order_units .f32 _ _ h z2]
  have s0 : sv .f64 0 = 0 := by decide
  have s1 : sv .f32 0 = 0 := by decide
  have e : sv .f64 r = sv .f32 b * (scaleW : Nat) := by
    unfold sv
    rw [h3, h4]
    generalize scaleW = S
    generalize U .f32 (rung .f32 b) = u
    cases neg .f32 b
    · simp
    · simp [Int.neg_mul]
  have e0 : (0 : Int) = 0 * (scaleW : Nat) := by simp
  rw [s0, s1, e]
  generalize hS : scaleW = S at *
  have hp : 0 < S := by rw [← hS]; exact scaleW_pos
  have := compare_scale (sv .f32 b) 0 S hp
  rw [Int.zero_mul] at this
  rw [this]
end Go.Proofs.Ytljclagfplildaa.Fl
