/-
  Products and quotients of complex numbers: what they give at values. No theorem of a claim stands here.
-/
import Derived.Test.YtljclagfplildaaMath
import Derived.Test.YtljclagfplildaaCv
import Derived.Test.YtljclagfplildaaDy
import Derived.Test.YtljclagfplildaaPhs
set_option linter.unusedVariables false
set_option linter.unusedSimpArgs false
set_option maxRecDepth 8000
namespace Go.Proofs.Ytljclagfplildaa.Fl
open Go Go.RowKit

/-- A float32 as a float64. -/
def Wd (a : Nat) : Option Nat := fcv .f32 .f64 (vl .f32 a)
/-- The parts of a product that are not narrowed, and a power. -/
def wpR (a b c d : Nat) : Option Nat := fop .sub .f64 (fop .mul .f64 (Wd a) (Wd c)) (fop .mul .f64 (Wd b) (Wd d))
def wpI (a b c d : Nat) : Option Nat := fop .add .f64 (fop .mul .f64 (Wd a) (Wd d)) (fop .mul .f64 (Wd b) (Wd c))
def pwW (a b : Nat) : Option Nat := fop .add .f64 (fop .mul .f64 (Wd a) (Wd a)) (fop .mul .f64 (Wd b) (Wd b))
/-- A 64-bit value that is narrowed to r. -/
def NarV (x : Option Nat) (r : Nat) : Prop := over .f64 .f32 x = false ∧ fcv .f64 .f32 x = some r
/-- (r, s) is the product. -/
def MulV (a b c d r s : Nat) : Prop := NarV (wpR a b c d) r ∧ NarV (wpI a b c d) s
/-- (r, s) is the quotient. -/
def QuoV (a b c d r s : Nat) : Prop := NarV (fop .quo .f64 (wpR a b c (Op.negFloat .f32 d)) (pwW c d)) r ∧ NarV (fop .quo .f64 (wpI a b c (Op.negFloat .f32 d)) (pwW c d)) s

theorem nar_lt {b r : Nat} (h : NarV (vl .f64 b) r) : vl .f32 r = some r := by
  have h2 := h.2
  unfold fcv at h2
  cases hv : vl .f64 b with
  | none => rw [hv] at h2; cases h2
  | some c =>
    rw [hv, Option.bind_some] at h2
    unfold floatToFloatBits at h2
    rw [if_neg (by decide)] at h2
    split at h2
    · cases h2
    · cases h2; exact vl_write .f32 _ rfl
    · split at h2
      · cases h2
      · cases h2; exact vl_write .f32 _ rfl

theorem wideP_any (a b c d : Nat) (w : World) : Calls Try.prog 82 #[.complex .f32 a b, .complex .f32 c d] w fun e w' => ∃ x y n, e = .returned (.complex .f64 x y) ∧
    vl .f64 x = wpR a b c d ∧ vl .f64 y = wpI a b c d ∧ x < 2 ^ 64 ∧ y < 2 ^ 64 ∧ w' = w.drewN n := by
  have hadd := fun x y w => run_fov (P := Try.prog) .add rfl 27 .f64 x y w
  have hsub := fun x y w => run_fov (P := Try.prog) .sub rfl 27 .f64 x y w
  have hmul := fun x y w => run_fov (P := Try.prog) .mul rfl 27 .f64 x y w
  have hv1 := run_cv a
  have hv2 := run_cv b
  have hv3 := run_cv c
  have hv4 := run_cv d
  go_enter Try.func82, Try.ntmps82
  go_wp2
  go_ret
  unfold wpR wpI Wd
  refine ⟨_, _, _, rfl, ?_, ?_, fov_lt _ _ _ _ _, fov_lt _ _ _ _ _, rfl⟩
  · rw [vl_fov, vl_fov, vl_fov, vl_cvv, vl_cvv, vl_cvv, vl_cvv]
  · rw [vl_fov, vl_fov, vl_fov, vl_cvv, vl_cvv, vl_cvv, vl_cvv]
theorem wideW_any (a b : Nat) (w : World) : Calls Try.prog 81 #[.complex .f32 a b] w (FRet .f64 (pwW a b) w) := by
  have hadd := fun x y w => run_fov (P := Try.prog) .add rfl 27 .f64 x y w
  have hmul := fun x y w => run_fov (P := Try.prog) .mul rfl 27 .f64 x y w
  have hv1 := run_cv a
  have hv2 := run_cv b
  go_enter Try.func81, Try.ntmps81
  go_wp2
  go_ret
  unfold pwW Wd
  refine ⟨_, _, rfl, ?_, fov_lt _ _ _ _ _, rfl⟩
  rw [vl_fov, vl_fov, vl_fov, vl_cvv, vl_cvv]
theorem narrC_any (a b r s : Nat) (ha : a < 2 ^ 64) (hb : b < 2 ^ 64) (na : NarV (vl .f64 a) r) (nb : NarV (vl .f64 b) s) (w : World) :
    Calls Try.prog 73 #[.complex .f64 a b] w (RB (.complex .f32 r s) w) := by
  have hA := fun w' => narrow_any a ha na.1 w'
  have hB := fun w' => narrow_any b hb nb.1 w'
  rw [na.2] at hA
  rw [nb.2] at hB
  clear na nb
  go_enter Try.func73, Try.ntmps73
  go_wp2_with fail
  refine (hA _).mono ?_
  rintro e w' ⟨q1, m1, rfl, h1, h2, rfl⟩
  obtain rfl := vl_some h1
  clear h1
  go_wp2_with fail
  refine (hB _).mono ?_
  rintro e w' ⟨q2, m2, rfl, h3, h4, rfl⟩
  obtain rfl := vl_some h3
  clear h3
  go_wp2_with fail
  go_ret
  exact ⟨rfl, rfl, rfl, rfl, Nat.le_refl _, fun _ _ => rfl⟩
theorem mulV_any {a b c d r s : Nat} (h : MulV a b c d r s) (w : World) : Calls Try.prog 17 #[.complex .f32 a b, .complex .f32 c d] w (RB (.complex .f32 r s) w) := by
  have hP := fun w' => wideP_any a b c d w'
  obtain ⟨h1, h2⟩ := h
  have N1 := Lib.hid h1
  have N2 := Lib.hid h2
  clear h1 h2
  go_enter Try.func17, Try.ntmps17
  go_wp2_with fail
  refine (hP _).mono ?_
  rintro e w' ⟨x, y, n, rfl, hx, hy, lx, ly, rfl⟩
  clear hP
  rw [← hx] at N1
  rw [← hy] at N2
  clear hx hy
  go_wp2_with fail
  refine (narrC_any x y r s lx ly N1.out N2.out _).mono ?_
  rintro e w' ⟨rfl, hb⟩
  have Hb := Lib.hid hb
  clear hb
  go_wp2_with fail
  go_ret
  exact ⟨rfl, (Grown.drawn w n).2.trans Hb.out⟩
theorem conjC_any (a b : Nat) (w : World) : Calls Try.prog 186 #[.complex .f32 a b] w (RB (.complex .f32 a (Op.negFloat .f32 b)) w) := by
  have hn : ∀ w : World, (Op.unary UnOp.neg (.float .f32 b)).run Try.prog w = .ok (.float .f32 (Op.negFloat .f32 b)) w := fun w => rfl
  go_enter Try.func186, Try.ntmps186
  go_wp2
  go_ret
  exact ⟨rfl, Below.refl _ _⟩
theorem quoV_any {a b c d r s : Nat} (h : QuoV a b c d r s) (w : World) : Calls Try.prog 120 #[.complex .f32 a b, .complex .f32 c d] w (RB (.complex .f32 r s) w) := by
  obtain ⟨h1, h2⟩ := h
  have n1 := Lib.hid h1
  have n2 := Lib.hid h2
  clear h1 h2
  have hW := fun w' => wideP_any a b c (Op.negFloat .f32 d) w'
  have hV := fun w' => wideW_any c d w'
  have hJ := fun w' => conjC_any c d w'
  have hq := fun x y (w : World) => run_fov (P := Try.prog) .quo rfl 27 .f64 x y w
  go_enter Try.func120, Try.ntmps120
  go_wp2_with fail
  refine (hJ _).mono ?_
  rintro e w' ⟨rfl, hb⟩
  have H0 := Lib.hid hb
  clear hb
  go_wp2_with fail
  refine (hW _).mono ?_
  rintro e w2 ⟨u, v, m1, rfl, hu, hv, lu, lv, rfl⟩
  rw [← hu] at n1
  rw [← hv] at n2
  clear hu hv hW hJ
  go_wp2_with fail
  refine (hV _).mono ?_
  rintro e w2 ⟨s', m2, rfl, hs, ls, rfl⟩
  rw [← hs] at n1 n2
  clear hs hV
  have f1 := fun w' => vl_fov .quo .f64 u s' w'
  have f2 := fun w' => vl_fov .quo .f64 v s' w'
  have F1 := Lib.hid f1
  have F2 := Lib.hid f2
  clear f1 f2
  go_wp2_with fail
  refine (narrC_any _ _ r s (fov_lt _ _ _ _ _) (fov_lt _ _ _ _ _) (by rw [F1.out]; exact n1.out) (by rw [F2.out]; exact n2.out) _).mono ?_
  rintro e w3 ⟨rfl, hb⟩
  have Hb := Lib.hid hb
  clear hb
  go_wp2_with fail
  go_ret
  exact ⟨rfl, H0.out.trans ((Grown.drawn w' _).2.mono H0.out.size |>.trans (Hb.out.mono H0.out.size))⟩
/-- Numbers of units of 2^-d: their products are exact. -/
theorem bin64 : FloatKind.f64.format.binade = 4503599627370496 := by decide
theorem bin32 : FloatKind.f32.format.binade = 8388608 := by decide
theorem natAbs_mul_le {A C : Int} {x y : Nat} (h : A.natAbs ≤ x) (h2 : C.natAbs ≤ y) : (A * C).natAbs ≤ x * y := by
  rw [Int.natAbs_mul]; exact Nat.mul_le_mul h h2
theorem dy_mulV {a b c d i j : Nat} {A B C D : Int} (ha : Dy .f32 i a A) (hb : Dy .f32 i b B) (hc : Dy .f32 j c C) (hd : Dy .f32 j d D) (hij : i + j ≤ 60) (hA : A.natAbs ≤ 2048) (hB : B.natAbs ≤ 2048) (hC : C.natAbs ≤ 2048) (hD : D.natAbs ≤ 2048) :
    ∃ r s, MulV a b c d r s ∧ Dy .f32 (i + j) r (A * C - B * D) ∧ Dy .f32 (i + j) s (A * D + B * C) := by
  have p1 := natAbs_mul_le hA hC
  have p2 := natAbs_mul_le hB hD
  have p3 := natAbs_mul_le hA hD
  have p4 := natAbs_mul_le hB hC
  have va := (DyV.of ha).widen
  have vb := (DyV.of hb).widen
  have vc := (DyV.of hc).widen
  have vd := (DyV.of hd).widen
  have x1 := (va.mul vc hij (by rw [bin64]; omega)).sub (vb.mul vd hij (by rw [bin64]; omega)) hij (by rw [bin64]; omega)
  have x2 := (va.mul vd hij (by rw [bin64]; omega)).add (vb.mul vc hij (by rw [bin64]; omega)) hij (by rw [bin64]; omega)
  obtain ⟨⟨r, e1, y1⟩, o1⟩ := x1.narrow hij (by omega)
  obtain ⟨⟨s, e2, y2⟩, o2⟩ := x2.narrow hij (by omega)
  exact ⟨r, s, ⟨⟨o1, e1⟩, ⟨o2, e2⟩⟩, y1, y2⟩
end Go.Proofs.Ytljclagfplildaa.Fl
