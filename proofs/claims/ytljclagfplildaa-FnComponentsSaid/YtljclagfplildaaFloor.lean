/-
  math.Floor of small numbers: it answers the same at the same number, and stays small. No theorem of a claim stands here.
-/
import Derived.Test.YtljclagfplildaaAng
import Derived.Test.YtljclagfplildaaPhas
import Derived.Deep.DeepCutAuto
set_option linter.unusedVariables false
namespace Go.Proofs.Ytljclagfplildaa.Fl
open Go Go.RowKit

/-- The greatest whole number that is not greater. -/
def flr (y : Nat) : Nat := FloatKind.f64.encode ((FloatKind.f64.decode y).integral .down)

theorem flr_small {y : Nat} (h : rung .f64 y ≤ (49 + 1023) * 4503599627370496) : flr y < 2 ^ 64 ∧ rung .f64 (flr y) < (52 + 1023) * 4503599627370496 := by
  obtain ⟨s, m, i, h1, h2, h3, h4, h5⟩ := read_bd .f64 49 y h (by decide)
  have e6 : FloatKind.f64.format.binade = 4503599627370496 := by decide
  refine ⟨Ieee.Format.write_lt _ _, ?_⟩
  unfold flr
  rw [h1]
  simp only [Ieee.Datum.integral]
  show FloatKind.f64.format.nearest _ _ _ % _ < _
  have hM : Ieee.Toward.down.cut s (m <<< i.toNat) (-i).toNat ≤ 2 ^ 50 := by
    refine Nat.le_trans (cut_le _ _ _ _) ?_
    rw [Nat.one_shiftLeft]
    rcases h4 with h4 | h4
    · subst h4; simp
    by_cases hi : 0 ≤ i
    · rw [show (-i).toNat = 0 by omega, Nat.zero_min, Nat.pow_zero, Nat.div_one, Nat.shiftLeft_eq]
      have : m * 2 ^ i.toNat < 2 ^ (m.log2 + 1 + i.toNat) := by rw [Nat.pow_add]; exact Nat.mul_lt_mul_of_pos_right Nat.lt_log2_self (Nat.two_pow_pos _)
      have h6 : 2 ^ (m.log2 + 1 + i.toNat) ≤ 2 ^ 50 := Nat.pow_le_pow_right (by omega) (by omega)
      omega
    · rw [show i.toNat = 0 by omega, Nat.shiftLeft_zero]
      have hlt : m / 2 ^ min (-i).toNat (m.log2 + 2) < 2 ^ 50 := by
        rw [Nat.div_lt_iff_lt_mul (Nat.two_pow_pos _), ← Nat.pow_add]
        exact Nat.lt_of_lt_of_le Nat.lt_log2_self (Nat.pow_le_pow_right (by omega) (by omega))
      omega
  generalize Ieee.Toward.down.cut s (m <<< i.toNat) (-i).toNat = M at *
  have hb := nearest_bd .f64 s M 0 51 (by
    by_cases hM0 : M = 0
    · exact .inl hM0
    · right
      have := (Nat.log2_lt hM0).2 (show M < 2 ^ 51 by omega)
      omega)
  rw [e6] at hb
  have eb : bias .f64 = 1023 := rfl
  rw [eb] at hb
  refine Nat.lt_of_le_of_lt hb ?_
  omega

theorem run_floor (y : Nat) (h : rung .f64 y < FloatKind.f64.format.infRung) (w : World) : (callFunc 157 #[.float .f64 y]).run Try.prog w = .ok (.value (.float .f64 (flr y))) w := by
  obtain ⟨m, i, h1, _⟩ := read_units .f64 y h
  rw [run_callFunc_extern (e := Extern.MathFloor.toIntegral "math.archFloor" .down) Try.func157 (by kernel_rfl) (by kernel_rfl) (by kernel_rfl) (by kernel_rfl)]
  have e : (FloatKind.f64.decode y).isNaN = false := by rw [h1]; rfl
  have k : Extern.MathFloor.toIntegral "math.archFloor" .down #[.float .f64 y] = pure (.float .f64 (flr y)) := by
    unfold flr
    clear h1 h
    delta Extern.MathFloor.toIntegral
    generalize hd : FloatKind.f64.decode y = d at e ⊢
    conv => lhs; whnf
    rw [hd]
    cases d with
    | nan s t => simp [Ieee.Datum.isNaN] at e
    | number s m i => rfl
    | infinity s => rfl
  show (Sem.run _ (Extern.MathFloor.toIntegral "math.archFloor" .down #[.float .f64 y]) w).andThen _ = _
  rw [k]
  rfl

theorem Floor_any (y : Nat) (h : rung .f64 y < FloatKind.f64.format.infRung) (w : World) : Calls Try.prog 85 #[.float .f64 y] w (VRet (.float .f64 (flr y)) w) := by
  have hf := run_floor y h
  clear h
  go_enter Try.func85, Try.ntmps85
  go_wp2
  go_ret
  exact ⟨0, rfl, rfl⟩
end Go.Proofs.Ytljclagfplildaa.Fl
