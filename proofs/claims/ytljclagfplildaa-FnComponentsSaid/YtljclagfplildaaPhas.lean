/-
  Points of the unit circle: the value, up to NaN; walks in the program and in the model. No theorem of a claim stands here.
-/
import Derived.Test.YtljclagfplildaaQuar
set_option linter.unusedVariables false
set_option maxRecDepth 8000
namespace Go.Proofs.Ytljclagfplildaa.Fl
open Go Go.RowKit

theorem sine_bd118 {f : Option Nat} (h : Bd .f64 1 f) : Bd .f64 118 (sineV f) := by
  have b1 : bias .f64 = 1023 := rfl
  have h1 : Bd .f64 2 (fold1 f) := by
    unfold fold1; split
    · exact bd_fsub' (by rw [b1]; omega) h (bd_mono bd_half (by omega))
    · exact bd_mono h (by omega)
  have h2 : Bd .f64 3 (fold2 (fold1 f)) := by
    unfold fold2; split
    · exact bd_fsub' (by rw [b1]; omega) (bd_mono bd_half (by omega)) h1
    · exact bd_mono h1 (by omega)
  have h3 : Bd .f64 6 (zV f) := bd_mono (bd_fmul' (k := .f64) (by rw [b1]; omega) (by rw [b1]; omega) h2 bd_circle) (by omega)
  have h4 : Bd .f64 12 (uV f) := bd_mono (bd_fmul' (k := .f64) (by rw [b1]; omega) (by rw [b1]; omega) h3 h3) (by omega)
  have h5 := ser_bd (uV f) 12 h4 (by omega) 8 (vl .f64 one64) 0 (by omega) bd_one (by omega)
  have h5' : Bd .f64 112 (serV (uV f) 8 (vl .f64 one64)) := bd_mono h5 (by omega)
  have h6 : Bd .f64 118 (rV f) := bd_mono (bd_fmul' (k := .f64) (by rw [b1]; omega) (by rw [b1]; omega) h3 h5') (by omega)
  unfold sineV
  split
  · exact bd_neg h6
  · exact h6

theorem sineW_bd (x : Option Nat) : Bd .f64 118 (x.bind sineW) := by
  cases x with
  | none => intro b hb; cases hb
  | some b =>
    show Bd .f64 118 (sineW b)
    unfold sineW
    split
    · split
      · exact bd_mono (E := 0) (by intro c hc; cases hc; decide) (by omega)
      · exact sine_bd118 (turn_bd (by omega))
    · intro c hc; cases hc

def cQ (x : Option Nat) (n : Nat) : Option Nat := (fop .sub .f64 (vl .f64 quarter64) (itQ n x)).bind sineW
def sQ (x : Option Nat) (n : Nat) : Option Nat := (itQ n x).bind sineW
def zsub (x : Option Nat) : Option Nat := fop .sub .f64 (vl .f64 0) x
def reP (n : Nat) (c s : Option Nat) : Option Nat := if n = 1 then zsub s else if n = 2 then zsub c else if n = 3 then s else c
def imP (n : Nat) (c s : Option Nat) : Option Nat := if n = 1 then c else if n = 2 then zsub s else if n = 3 then zsub c else s

theorem zsub_bd {x : Option Nat} (h : Bd .f64 118 x) : Bd .f64 119 (zsub x) := by
  have b1 : bias .f64 = 1023 := rfl
  exact bd_fsub' (by rw [b1]; omega) (by intro c hc; rw [vl_zero] at hc; cases hc; decide) h
theorem over_zsub {x : Option Nat} (h : Bd .f64 118 x) : over .f64 .f32 (zsub x) = false := over_bd (zsub_bd h) (by omega)
theorem over_118 {x : Option Nat} (h : Bd .f64 118 x) : over .f64 .f32 x = false := over_bd h (by omega)
theorem reP_over (n : Nat) {c s : Option Nat} (hc : Bd .f64 118 c) (hs : Bd .f64 118 s) : over .f64 .f32 (reP n c s) = false := by
  unfold reP
  split
  · exact over_zsub hs
  · split
    · exact over_zsub hc
    · split
      · exact over_118 hs
      · exact over_118 hc
theorem imP_over (n : Nat) {c s : Option Nat} (hc : Bd .f64 118 c) (hs : Bd .f64 118 s) : over .f64 .f32 (imP n c s) = false := by
  unfold imP
  split
  · exact over_118 hc
  · split
    · exact over_zsub hs
    · split
      · exact over_zsub hc
      · exact over_118 hs

/-- The parts of the phasor of b turns. -/
def PhOf (b : Nat) (x y : Option Nat) : Prop :=
  if fin .f64 (vl .f64 b) then
    (if (52 + 1023) * 4503599627370496 ≤ rung .f64 b then x = vl .f32 1065353216 ∧ y = vl .f32 0
     else ∃ n, EndQ (turnV b) n ∧ x = fcv .f64 .f32 (reP n (cQ (turnV b) n) (sQ (turnV b) n)) ∧ y = fcv .f64 .f32 (imP n (cQ (turnV b) n) (sQ (turnV b) n)))
  else x = none ∧ y = none

theorem phOf_unique {b : Nat} {x y x' y' : Option Nat} (h : PhOf b x y) (g : PhOf b x' y') : x = x' ∧ y = y' := by
  unfold PhOf at h g
  split at h
  · rename_i h1
    rw [if_pos h1] at g
    split at h
    · rename_i h2
      rw [if_pos h2] at g
      exact ⟨h.1.trans g.1.symm, h.2.trans g.2.symm⟩
    · rename_i h2
      rw [if_neg h2] at g
      obtain ⟨n, e1, e2, e3⟩ := h
      obtain ⟨m, f1, f2, f3⟩ := g
      obtain rfl := endQ_unique e1 f1
      exact ⟨e2.trans f2.symm, e3.trans f3.symm⟩
  · rename_i h1
    rw [if_neg h1] at g
    exact ⟨h.1.trans g.1.symm, h.2.trans g.2.symm⟩

/-- What a function with a complex result comes to. -/
def CRet (k : FloatKind) (p : Option Nat → Option Nat → Prop) (w : World) (e : Ending) (w' : World) : Prop :=
  ∃ re im n, e = .returned (.complex k re im) ∧ p (vl k re) (vl k im) ∧ re < 2 ^ k.format.width ∧ im < 2 ^ k.format.width ∧ w' = w.drewN n

theorem fadd_some {a b : Nat} (ha : rung .f64 a < FloatKind.f64.format.infRung) (hb : rung .f64 b < FloatKind.f64.format.infRung) : ∃ r, fop .add .f64 (some a) (some b) = some r := by
  obtain ⟨m, i, h1, _⟩ := read_units .f64 a ha
  obtain ⟨n, j, h2, _⟩ := read_units .f64 b hb
  simp only [fop, Option.bind_some, floatBits, Ieee.Format.add]
  rw [show FloatKind.f64.format.read a = _ from h1, show FloatKind.f64.format.read b = _ from h2]
  exact ⟨_, rfl⟩
theorem fsub_some {a b : Nat} (ha : rung .f64 a < FloatKind.f64.format.infRung) (hb : rung .f64 b < FloatKind.f64.format.infRung) : ∃ r, fop .sub .f64 (some a) (some b) = some r := by
  obtain ⟨m, i, h1, _⟩ := read_units .f64 a ha
  obtain ⟨n, j, h2, _⟩ := read_units .f64 b hb
  simp only [fop, Option.bind_some, floatBits, Ieee.Format.sub]
  rw [show FloatKind.f64.format.read a = _ from h1, show FloatKind.f64.format.read b = _ from h2]
  exact ⟨_, rfl⟩

theorem bd_small {E : Nat} {x : Option Nat} (h : Bd .f64 E x) (hE : E < 52) {r : Nat} (hr : x = some r) : rung .f64 r < (52 + 1023) * 4503599627370496 := by
  have h1 : rung .f64 r ≤ (E + 1023) * 4503599627370496 := h r hr
  have h2 : (E + 1023) * 4503599627370496 ≤ (51 + 1023) * 4503599627370496 := Nat.mul_le_mul_right _ (by omega)
  omega

theorem rung_one : rung .f64 one64 < FloatKind.f64.format.infRung := by decide

theorem turn_some {b : Nat} (h : rung .f64 b < (52 + 1023) * 4503599627370496) : ∃ r, turnV b = some r := by
  obtain ⟨r, h1, h2⟩ := beyond_bd h
  unfold turnV
  split
  · rw [h1, fin_vl rung_one]
    exact fadd_some (small_fin (bd_small h2 (by omega) h1)) rung_one
  · exact ⟨r, h1⟩

theorem itQ_some {x : Option Nat} (hx : Bd .f64 1 x) (hs : ∃ r, x = some r) : ∀ n, (∀ i, i < n → geB (itQ i x) (vl .f64 quarter64) = true) → ∃ r, itQ n x = some r
  | 0, _ => hs
  | n + 1, h => by
    obtain ⟨r, hr⟩ := itQ_some hx hs n (fun i hi => h i (by omega))
    unfold itQ
    rw [hr, vl_quarter]
    exact fsub_some (small_fin (bd_small (itQ_bd hx (fun i hi => h i (by omega))) (by omega) hr)) rung_quarter

/-- The two arguments of the sines are finite and small. -/
theorem q_small {x : Option Nat} (hx : Bd .f64 1 x) (hs : ∃ r, x = some r) {n : Nat} (h : ∀ i, i < n → geB (itQ i x) (vl .f64 quarter64) = true) {r : Nat} (hr : vl .f64 r = itQ n x) :
    rung .f64 r < (52 + 1023) * 4503599627370496 ∧ ∀ q, vl .f64 q = fop .sub .f64 (vl .f64 quarter64) (vl .f64 r) → rung .f64 q < (52 + 1023) * 4503599627370496 := by
  obtain ⟨c, hc⟩ := itQ_some hx hs n h
  have hb := itQ_bd hx h
  rw [hc] at hr
  obtain rfl := vl_some hr
  have h1 := bd_small hb (by omega) hc
  refine ⟨h1, fun q hq => ?_⟩
  obtain ⟨d, hd⟩ := fsub_some rung_quarter (small_fin h1)
  have hbd : Bd .f64 2 (fop .sub .f64 (vl .f64 quarter64) (vl .f64 r)) := by
    have b1 : bias .f64 = 1023 := rfl
    refine bd_fsub' (by rw [b1]; omega) ?_ (by rw [hr, ← hc]; exact hb)
    intro c hc; rw [vl_quarter] at hc; cases hc; decide
  rw [hr, vl_quarter, hd] at hq
  obtain rfl := vl_some hq
  exact bd_small hbd (by omega) (by rw [hr, vl_quarter, hd])

theorem sineW_small {b : Nat} (h : rung .f64 b < (52 + 1023) * 4503599627370496) : sineW b = sineV (turnV b) := by
  unfold sineW
  rw [fin_iff.2 (small_fin h), if_pos rfl, if_neg (by omega)]

theorem sineW_vl {r : Nat} {x : Option Nat} (h : vl .f64 r = x) : sineW r = x.bind sineW := by
  rw [← h]
  rcases vl_cases .f64 r with hr | hr
  · rw [hr, sineW_none hr]; rfl
  · rw [hr]; rfl

theorem ph_not {b : Nat} (h : fin .f64 (vl .f64 b) = false) {x y : Nat} (hx : vl .f32 x = none) (hy : vl .f32 y = none) : PhOf b (vl .f32 x) (vl .f32 y) := by
  unfold PhOf; rw [h, if_neg (by decide)]; exact ⟨hx, hy⟩
theorem ph_big {b : Nat} (h : fin .f64 (vl .f64 b) = true) (h2 : ¬ rung .f64 b < (52 + 1023) * 4503599627370496) : PhOf b (vl .f32 1065353216) (vl .f32 0) := by
  unfold PhOf; rw [h, if_pos rfl, if_pos (by omega)]; exact ⟨rfl, rfl⟩
theorem ph_at {b : Nat} (h2 : rung .f64 b < (52 + 1023) * 4503599627370496) {n : Nat} (h : EndQ (turnV b) n) {x y : Option Nat}
    (hx : x = fcv .f64 .f32 (reP n (cQ (turnV b) n) (sQ (turnV b) n))) (hy : y = fcv .f64 .f32 (imP n (cQ (turnV b) n) (sQ (turnV b) n))) : PhOf b x y := by
  unfold PhOf; rw [fin_iff.2 (small_fin h2), if_pos rfl, if_neg (by omega)]; exact ⟨n, h, hx, hy⟩

theorem narrowC_any (a b : Nat) (ha : a < 2 ^ 64) (hb : b < 2 ^ 64) (oa : over .f64 .f32 (vl .f64 a) = false) (ob : over .f64 .f32 (vl .f64 b) = false) (w : World) :
    Calls Try.prog 73 #[.complex .f64 a b] w (CRet .f32 (fun x y => x = fcv .f64 .f32 (vl .f64 a) ∧ y = fcv .f64 .f32 (vl .f64 b)) w) := by
  go_enter Try.func73, Try.ntmps73
  go_wp2_with (first | (go_at_call 80; refine (narrow_any a ha oa _).mono ?_; rintro e w' ⟨q1, m1, rfl, h1, h2, rfl⟩; have H1 := Lib.hid h1; clear h1) | (go_at_call 80; refine (narrow_any b hb ob _).mono ?_; rintro e w' ⟨q2, m2, rfl, h3, h4, rfl⟩; have H2 := Lib.hid h3; clear h3))
  go_ret
  exact ⟨_, _, _, rfl, ⟨H1.out, H2.out⟩, h2, h4, rfl⟩

theorem quarterPoint_any (n : Nat) (hn : n ≤ 8) (c s : Nat) (hc : c < 2 ^ 64) (hs : s < 2 ^ 64) (w : World) :
    Calls Try.prog 77 #[.int .i64 n, .float .f64 c, .float .f64 s] w (CRet .f64 (fun x y => x = reP n (vl .f64 c) (vl .f64 s) ∧ y = imP n (vl .f64 c) (vl .f64 s)) w) := by
  have hsub := fun x y w => run_fov (P := Try.prog) .sub rfl 27 .f64 x y w
  rcases (by omega : n = 0 ∨ n = 1 ∨ n = 2 ∨ n = 3 ∨ n = 4 ∨ n = 5 ∨ n = 6 ∨ n = 7 ∨ n = 8) with rfl | rfl | rfl | rfl | rfl | rfl | rfl | rfl | rfl <;>
    (go_enter Try.func77, Try.ntmps77; go_wp2; go_ret)
  · exact ⟨_, _, 0, rfl, ⟨rfl, rfl⟩, hc, hs, rfl⟩
  · exact ⟨_, _, _, rfl, ⟨vl_fov _ _ _ _ _, rfl⟩, fov_lt _ _ _ _ _, hc, rfl⟩
  · exact ⟨_, _, _, rfl, ⟨vl_fov _ _ _ _ _, vl_fov _ _ _ _ _⟩, fov_lt _ _ _ _ _, fov_lt _ _ _ _ _, rfl⟩
  · exact ⟨_, _, _, rfl, ⟨rfl, vl_fov _ _ _ _ _⟩, hs, fov_lt _ _ _ _ _, rfl⟩
  all_goals exact ⟨_, _, 0, rfl, ⟨rfl, rfl⟩, hc, hs, rfl⟩
end Go.Proofs.Ytljclagfplildaa.Fl
