/-
  Drops of sums, told exactly. No theorem of a claim stands here.
-/
import Derived.Test.YtpgbcgaalmpfoaaScale
set_option linter.unusedVariables false
set_option linter.unusedSimpArgs false
set_option maxRecDepth 8000
namespace Go.Proofs.Ytpgbcgaalmpfoaa
open Go Go.RowKit Go.Deep Go.Proofs.Ytpgbcgaalmpfoaa.Fl

def DyP (d : Nat) (p : Nat → Nat) (P : Nat → Int) : Prop := ∀ j, j < 6 → Dy .f32 d (p j) (P j)
def AddP (op : BinOp) (p q r : Nat → Nat) : Prop := ∀ j, j < 6 → fop op .f32 (vl .f32 (p j)) (vl .f32 (q j)) = some (r j)
def EqP (p q : Nat → Nat) : Prop := ∀ j, j < 6 → (FloatKind.f32.format.order (p j) (q j) == some .eq) = true
def DropP (o0 o1 s0 s1 : Nat) (x r : Nat → Nat) : Prop := DropAt o0 o1 s0 s1 (x 0) (x 1) (x 2) (x 3) (x 4) (x 5) (r 0) (r 1) ∧ DropAt o0 o1 s0 s1 (x 2) (x 3) (x 4) (x 5) (x 0) (x 1) (r 2) (r 3) ∧ DropAt o0 o1 s0 s1 (x 4) (x 5) (x 0) (x 1) (x 2) (x 3) (r 4) (r 5)

theorem addP_dy {d : Nat} {p q : Nat → Nat} {A B : Nat → Int} (hp : DyP d p A) (hq : DyP d q B) (hd : d ≤ 60) (hb : ∀ j, j < 6 → (A j + B j).natAbs < 16777216) : ∃ r, AddP .add p q r ∧ DyP d r (fun j => A j + B j) := by
  refine ⟨fun j => (fop .add .f32 (vl .f32 (p j)) (vl .f32 (q j))).getD 0, fun j hj => ?_, fun j hj => ?_⟩ <;>
  · obtain ⟨r, e, h⟩ := DyV.add (DyV.of (hp j hj)) (DyV.of (hq j hj)) hd (by rw [bin32]; exact hb j hj)
    first | (simp only [e, Option.getD_some]; done) | (simp only [e, Option.getD_some]; exact h)
theorem subP_dy {d : Nat} {p q : Nat → Nat} {A B : Nat → Int} (hp : DyP d p A) (hq : DyP d q B) (hd : d ≤ 60) (hb : ∀ j, j < 6 → (A j - B j).natAbs < 16777216) : ∃ r, AddP .sub p q r ∧ DyP d r (fun j => A j - B j) := by
  refine ⟨fun j => (fop .sub .f32 (vl .f32 (p j)) (vl .f32 (q j))).getD 0, fun j hj => ?_, fun j hj => ?_⟩ <;>
  · obtain ⟨r, e, h⟩ := DyV.sub (DyV.of (hp j hj)) (DyV.of (hq j hj)) hd (by rw [bin32]; exact hb j hj)
    first | (simp only [e, Option.getD_some]; done) | (simp only [e, Option.getD_some]; exact h)
theorem two_dy : Dy .f32 0 1073741824 2 := by decide +kernel
theorem twiceP_dy {d : Nat} {p : Nat → Nat} {A : Nat → Int} (hp : DyP d p A) (hd : d ≤ 60) (hb : ∀ j, j < 6 → (A j * 2).natAbs < 16777216) : ∃ r, (∀ j, j < 6 → fop .mul .f32 (vl .f32 (p j)) (vl .f32 1073741824) = some (r j)) ∧ DyP d r (fun j => A j * 2) := by
  refine ⟨fun j => (fop .mul .f32 (vl .f32 (p j)) (vl .f32 1073741824)).getD 0, fun j hj => ?_, fun j hj => ?_⟩ <;>
  · obtain ⟨r, e, h⟩ := DyV.mul (DyV.of (hp j hj)) (DyV.of two_dy) (show d + 0 ≤ 60 by omega) (by rw [bin32]; exact hb j hj)
    first | (simp only [e, Option.getD_some]; done) | (simp only [e, Option.getD_some]; exact h)
theorem eqP_dy {d : Nat} {p q : Nat → Nat} {A B : Nat → Int} (hp : DyP d p A) (hq : DyP d q B) (h : ∀ j, j < 6 → A j = B j) : EqP p q := fun j hj => by
  rw [dy_eq (hp j hj) (hq j hj), h j hj]; simp

theorem nb2 {a b : Int} {x y : Nat} (h1 : a.natAbs ≤ x) (h2 : b.natAbs ≤ y) : (a + b).natAbs ≤ x + y := by omega
theorem nb4 {a b c d : Int} {x y z u : Nat} (h1 : a.natAbs ≤ x) (h2 : b.natAbs ≤ y) (h3 : c.natAbs ≤ z) (h4 : d.natAbs ≤ u) : (a - b + (c - d)).natAbs ≤ x + y + (z + u) := by omega
theorem nb4' {a b c d : Int} {x y z u : Nat} (h1 : a.natAbs ≤ x) (h2 : b.natAbs ≤ y) (h3 : c.natAbs ≤ z) (h4 : d.natAbs ≤ u) : (a + b + (c + d)).natAbs ≤ x + y + (z + u) := by omega
theorem dropAt_dy {o0 o1 s0 s1 a b c d e f : Nat} {O0 O1 S0 S1 A B C D E F : Int} (h0 : Dy .f32 4 o0 O0) (h1 : Dy .f32 4 o1 O1) (h2 : Dy .f32 4 s0 S0) (h3 : Dy .f32 4 s1 S1)
    (ha : Dy .f32 4 a A) (hb : Dy .f32 4 b B) (hc : Dy .f32 4 c C) (hd : Dy .f32 4 d D) (he : Dy .f32 4 e E) (hf : Dy .f32 4 f F)
    (n0 : O0.natAbs ≤ 16) (n1 : O1.natAbs ≤ 16) (n2 : S0.natAbs ≤ 16) (n3 : S1.natAbs ≤ 16) (nA : A.natAbs ≤ 32) (nB : B.natAbs ≤ 32) (nC : C.natAbs ≤ 32) (nD : D.natAbs ≤ 32) (nE : E.natAbs ≤ 32) (nF : F.natAbs ≤ 32) :
    ∃ r s, DropAt o0 o1 s0 s1 a b c d e f r s ∧ (Dy .f32 8 r (O0 * A - O1 * B + (S0 * (C + E) - S1 * (D + F))) ∧ (O0 * A - O1 * B + (S0 * (C + E) - S1 * (D + F))).natAbs ≤ 4096) ∧ Dy .f32 8 s (O0 * B + O1 * A + (S0 * (D + F) + S1 * (C + E))) ∧ (O0 * B + O1 * A + (S0 * (D + F) + S1 * (C + E))).natAbs ≤ 4096 := by
  have nCE := nb2 nC nE
  have nDF := nb2 nD nF
  obtain ⟨t0, e0, y0⟩ := DyV.add (DyV.of hc) (DyV.of he) (by decide) (Nat.lt_of_le_of_lt nCE (by rw [bin32]; decide))
  obtain ⟨t1, e1, y1⟩ := DyV.add (DyV.of hd) (DyV.of hf) (by decide) (Nat.lt_of_le_of_lt nDF (by rw [bin32]; decide))
  obtain ⟨m0, m1, hm, x0, x1⟩ := dy_mulV h0 h1 ha hb (by decide) (Nat.le_trans n0 (by decide)) (Nat.le_trans n1 (by decide)) (Nat.le_trans nA (by decide)) (Nat.le_trans nB (by decide))
  obtain ⟨k0, k1, hk, z0, z1⟩ := dy_mulV h2 h3 y0 y1 (by decide) (Nat.le_trans n2 (by decide)) (Nat.le_trans n3 (by decide)) (Nat.le_trans nCE (by decide)) (Nat.le_trans nDF (by decide))
  have b1 := nb4 (natAbs_mul_le n0 nA) (natAbs_mul_le n1 nB) (natAbs_mul_le n2 nCE) (natAbs_mul_le n3 nDF)
  have b2 := nb4' (natAbs_mul_le n0 nB) (natAbs_mul_le n1 nA) (natAbs_mul_le n2 nDF) (natAbs_mul_le n3 nCE)
  obtain ⟨r, er, yr⟩ := DyV.add (DyV.of x0) (DyV.of z0) (by decide) (Nat.lt_of_le_of_lt b1 (by rw [bin32]; decide))
  obtain ⟨s, es, ys⟩ := DyV.add (DyV.of x1) (DyV.of z1) (by decide) (Nat.lt_of_le_of_lt b2 (by rw [bin32]; decide))
  exact ⟨r, s, ⟨t0, t1, m0, m1, k0, k1, e0, e1, hm, hk, er, es⟩, ⟨yr, Nat.le_trans b1 (by decide)⟩, ys, Nat.le_trans b2 (by decide)⟩

/-- What a line takes, in units. -/
def DR (O0 O1 S0 S1 : Int) (X : Nat → Int) (j : Nat) : Int :=
  if j = 0 then O0 * X 0 - O1 * X 1 + (S0 * (X 2 + X 4) - S1 * (X 3 + X 5)) else if j = 1 then O0 * X 1 + O1 * X 0 + (S0 * (X 3 + X 5) + S1 * (X 2 + X 4))
  else if j = 2 then O0 * X 2 - O1 * X 3 + (S0 * (X 4 + X 0) - S1 * (X 5 + X 1)) else if j = 3 then O0 * X 3 + O1 * X 2 + (S0 * (X 5 + X 1) + S1 * (X 4 + X 0))
  else if j = 4 then O0 * X 4 - O1 * X 5 + (S0 * (X 0 + X 2) - S1 * (X 1 + X 3)) else O0 * X 5 + O1 * X 4 + (S0 * (X 1 + X 3) + S1 * (X 0 + X 2))
theorem dr_add (O0 O1 S0 S1 : Int) (X Y : Nat → Int) (j : Nat) (hj : j < 6) : DR O0 O1 S0 S1 (fun k => X k + Y k) j = DR O0 O1 S0 S1 X j + DR O0 O1 S0 S1 Y j := by
  obtain rfl | rfl | rfl | rfl | rfl | rfl : j = 0 ∨ j = 1 ∨ j = 2 ∨ j = 3 ∨ j = 4 ∨ j = 5 := by omega
  all_goals (simp only [DR]; simp; grind)
theorem dropP_dy {o0 o1 s0 s1 : Nat} {O0 O1 S0 S1 : Int} {x : Nat → Nat} {X : Nat → Int} (h0 : Dy .f32 4 o0 O0) (h1 : Dy .f32 4 o1 O1) (h2 : Dy .f32 4 s0 S0) (h3 : Dy .f32 4 s1 S1) (hx : DyP 4 x X)
    (n0 : O0.natAbs ≤ 16) (n1 : O1.natAbs ≤ 16) (n2 : S0.natAbs ≤ 16) (n3 : S1.natAbs ≤ 16) (nX : ∀ j, j < 6 → (X j).natAbs ≤ 32) : ∃ r, DropP o0 o1 s0 s1 x r ∧ DyP 8 r (DR O0 O1 S0 S1 X) ∧ ∀ j, j < 6 → (DR O0 O1 S0 S1 X j).natAbs ≤ 4096 := by
  have g := fun j hj => hx j hj
  have b := nX
  obtain ⟨r0, r1, d0, ⟨y0, l0⟩, y1, l1⟩ := dropAt_dy h0 h1 h2 h3 (g 0 (by omega)) (g 1 (by omega)) (g 2 (by omega)) (g 3 (by omega)) (g 4 (by omega)) (g 5 (by omega)) n0 n1 n2 n3 (b 0 (by omega)) (b 1 (by omega)) (b 2 (by omega)) (b 3 (by omega)) (b 4 (by omega)) (b 5 (by omega))
  obtain ⟨r2, r3, d1, ⟨y2, l2⟩, y3, l3⟩ := dropAt_dy h0 h1 h2 h3 (g 2 (by omega)) (g 3 (by omega)) (g 4 (by omega)) (g 5 (by omega)) (g 0 (by omega)) (g 1 (by omega)) n0 n1 n2 n3 (b 2 (by omega)) (b 3 (by omega)) (b 4 (by omega)) (b 5 (by omega)) (b 0 (by omega)) (b 1 (by omega))
  obtain ⟨r4, r5, d2, ⟨y4, l4⟩, y5, l5⟩ := dropAt_dy h0 h1 h2 h3 (g 4 (by omega)) (g 5 (by omega)) (g 0 (by omega)) (g 1 (by omega)) (g 2 (by omega)) (g 3 (by omega)) n0 n1 n2 n3 (b 4 (by omega)) (b 5 (by omega)) (b 0 (by omega)) (b 1 (by omega)) (b 2 (by omega)) (b 3 (by omega))
  refine ⟨fun j => if j = 0 then r0 else if j = 1 then r1 else if j = 2 then r2 else if j = 3 then r3 else if j = 4 then r4 else r5, ⟨d0, d1, d2⟩, fun j hj => ?_, fun j hj => ?_⟩
  all_goals (obtain rfl | rfl | rfl | rfl | rfl | rfl : j = 0 ∨ j = 1 ∨ j = 2 ∨ j = 3 ∨ j = 4 ∨ j = 5 := by omega)
  all_goals assumption

/-- The units of three numbers of bytes. -/
def r8I (x y z : Nat) : Nat → Int := fun j => if j = 0 then r8A x else if j = 1 then r8B x else if j = 2 then r8A y else if j = 3 then r8B y else if j = 4 then r8A z else r8B z
theorem r8P_dy {x y z : Nat} (hx : x < 256) (hy : y < 256) (hz : z < 256) : DyP 4 (r8P x y z) (r8I x y z) ∧ ∀ j, j < 6 → (r8I x y z j).natAbs ≤ 16 := by
  refine ⟨fun j hj => ?_, fun j hj => ?_⟩
  · obtain rfl | rfl | rfl | rfl | rfl | rfl : j = 0 ∨ j = 1 ∨ j = 2 ∨ j = 3 ∨ j = 4 ∨ j = 5 := by omega
    · exact (r8_ok x hx).2.2.1
    · exact (r8_ok x hx).2.2.2
    · exact (r8_ok y hy).2.2.1
    · exact (r8_ok y hy).2.2.2
    · exact (r8_ok z hz).2.2.1
    · exact (r8_ok z hz).2.2.2
  · obtain rfl | rfl | rfl | rfl | rfl | rfl : j = 0 ∨ j = 1 ∨ j = 2 ∨ j = 3 ∨ j = 4 ∨ j = 5 := by omega
    · exact (r8_small x hx).2.1
    · exact (r8_small x hx).2.2
    · exact (r8_small y hy).2.1
    · exact (r8_small y hy).2.2
    · exact (r8_small z hz).2.1
    · exact (r8_small z hz).2.2

/-- All that the first part of the law reckons. -/
theorem drops_data {c0 c1 x0 x1 x2 y0 y1 y2 : Nat} (h0 : c0 < 256) (h1 : c1 < 256) (hx0 : x0 < 256) (hx1 : x1 < 256) (hx2 : x2 < 256) (hy0 : y0 < 256) (hy1 : y1 < 256) (hy2 : y2 < 256) :
    ∃ sij both di dj sum less i2 ii, AddP .add (r8P x0 x1 x2) (r8P y0 y1 y2) sij ∧ DropP (r8re c0) (r8im c0) (r8re c1) (r8im c1) sij both ∧ DropP (r8re c0) (r8im c0) (r8re c1) (r8im c1) (r8P x0 x1 x2) di ∧ DropP (r8re c0) (r8im c0) (r8re c1) (r8im c1) (r8P y0 y1 y2) dj ∧
      AddP .add di dj sum ∧ AddP .sub both dj less ∧ (∀ j, j < 6 → fop .mul .f32 (vl .f32 (r8P x0 x1 x2 j)) (vl .f32 1073741824) = some (i2 j)) ∧ AddP .add (r8P x0 x1 x2) (r8P x0 x1 x2) ii ∧ EqP both sum ∧ EqP less di ∧ EqP i2 ii := by
  obtain ⟨_, _, a0, a1⟩ := r8_ok c0 h0
  obtain ⟨_, _, a2, a3⟩ := r8_ok c1 h1
  obtain ⟨_, n0, n1⟩ := r8_small c0 h0
  obtain ⟨_, n2, n3⟩ := r8_small c1 h1
  obtain ⟨dx, bx⟩ := r8P_dy hx0 hx1 hx2
  obtain ⟨dy, by'⟩ := r8P_dy hy0 hy1 hy2
  have bs : ∀ j, j < 6 → (r8I x0 x1 x2 j + r8I y0 y1 y2 j).natAbs ≤ 32 := fun j hj => by have := bx j hj; have := by' j hj; omega
  obtain ⟨sij, g1, e1⟩ := addP_dy dx dy (by omega) (fun j hj => by have := bs j hj; omega)
  obtain ⟨both, g2, e2, l2⟩ := dropP_dy a0 a1 a2 a3 e1 n0 n1 n2 n3 bs
  obtain ⟨di, g3, e3, l3⟩ := dropP_dy a0 a1 a2 a3 dx n0 n1 n2 n3 (fun j hj => by have := bx j hj; omega)
  obtain ⟨dj, g4, e4, l4⟩ := dropP_dy a0 a1 a2 a3 dy n0 n1 n2 n3 (fun j hj => by have := by' j hj; omega)
  obtain ⟨sum, g5, e5⟩ := addP_dy e3 e4 (by omega) (fun j hj => by have := l3 j hj; have := l4 j hj; omega)
  obtain ⟨less, g6, e6⟩ := subP_dy e2 e4 (by omega) (fun j hj => by have := l2 j hj; have := l4 j hj; omega)
  obtain ⟨i2, g7, e7⟩ := twiceP_dy dx (by omega) (fun j hj => by have := bx j hj; omega)
  obtain ⟨ii, g8, e8⟩ := addP_dy dx dx (by omega) (fun j hj => by have := bx j hj; omega)
  refine ⟨sij, both, di, dj, sum, less, i2, ii, g1, g2, g3, g4, g5, g6, g7, g8, eqP_dy e2 e5 (fun j hj => dr_add _ _ _ _ _ _ j hj), eqP_dy e6 e3 (fun j hj => ?_), eqP_dy e7 e8 (fun j hj => ?_)⟩
  · show DR _ _ _ _ _ j - _ = _
    rw [dr_add _ _ _ _ _ _ j hj]; omega
  · show _ * 2 = _ + _
    omega
end Go.Proofs.Ytpgbcgaalmpfoaa
