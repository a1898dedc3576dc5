/-
  Numbers in sixteenths that an input chooses. No theorem of a claim stands here.
-/
import Derived.Test.YtljclagfplildaaSrc
import Derived.Test.YtljclagfplildaaCx
import Derived.Test.YtljclagfplildaaPhs
set_option linter.unusedVariables false
set_option linter.unusedSimpArgs false
set_option maxRecDepth 8000
namespace Go.Proofs.Ytljclagfplildaa
open Go Go.RowKit Go.Deep Go.Proofs.Ytljclagfplildaa.Fl

/-- The parts of the number of a byte, as integers and as floats. -/
def r8A (c : Nat) : Int := (c : Int) % 33 - 16
def r8B (c : Nat) : Int := (c : Int) / 33 - 3
def r8re (c : Nat) : Nat := (floatBits .quo .f32 (floatOfInt .f32 (r8A c)) 1098907648).getD 0
def r8im (c : Nat) : Nat := (floatBits .quo .f32 (floatOfInt .f32 (r8B c)) 1098907648).getD 0
instance (k : FloatKind) (d b : Nat) (n : Int) : Decidable (Dy k d b n) := by unfold Dy; infer_instance

theorem r8_ok : ∀ c, c < 256 → (floatBits .quo .f32 (floatOfInt .f32 (r8A c)) 1098907648 = some (r8re c) ∧ floatBits .quo .f32 (floatOfInt .f32 (r8B c)) 1098907648 = some (r8im c)) ∧ (r8re c < 2 ^ 32 ∧ r8im c < 2 ^ 32) ∧ Dy .f32 4 (r8re c) (r8A c) ∧ Dy .f32 4 (r8im c) (r8B c) := by
  decide +kernel

theorem r8number_any (p : Nat) (a : Option Addr) (len cap k : Nat) (w : World) (hb : BRd p w a len cap) (hk : k ≤ 1000000) :
    Calls Try.prog 56 #[.slice a len cap, .int .i64 k] w fun e w' => ∃ c, c < 256 ∧ e = .returned (.complex .f32 (r8re c) (r8im c)) ∧ w' = w := by
  have hcap := hb.1
  by_cases h2 : k < len
  · have d2 : decide ((k : Int) < (len : Int)) = true := by simp; omega
    obtain ⟨b, o, v, rfl, hbp, hv0, hv1, hc⟩ := hb.2.2.2 k (by omega)
    obtain ⟨c, rfl⟩ : ∃ c : Nat, v = c := ⟨v.toNat, by omega⟩
    have hc256 : c < 256 := by omega
    have q1 := fun w : World => run_float_arith (P := Try.prog) w .quo 28 .f32 (floatOfInt .f32 (r8A c)) 1098907648 (r8re c) (r8_ok c hc256).1.1
    have q2 := fun w : World => run_float_arith (P := Try.prog) w .quo 28 .f32 (floatOfInt .f32 (r8B c)) 1098907648 (r8im c) (r8_ok c hc256).1.2
    go_enter Try.func56, Try.ntmps56
    unfold r8A at q1
    unfold r8B at q2
    go_wp2
    go_ret
    exact ⟨c, hc256, rfl, rfl⟩
  · have d2 : decide ((k : Int) < (len : Int)) = false := by simp; omega
    have q1 := fun w : World => run_float_arith (P := Try.prog) w .quo 28 .f32 (floatOfInt .f32 3) 1098907648 (r8re 52) (by decide +kernel)
    have q2 := fun w : World => run_float_arith (P := Try.prog) w .quo 28 .f32 (floatOfInt .f32 (-2)) 1098907648 (r8im 52) (by decide +kernel)
    go_enter Try.func56, Try.ntmps56
    go_wp2
    go_ret
    exact ⟨52, by omega, rfl, rfl⟩
theorem r8number_int (p : Nat) (a : Option Addr) (len cap : Nat) (m : Int) (w : World) (hb : BRd p w a len cap) (h0 : 0 ≤ m) (h1 : m ≤ 1000000) :
    Calls Try.prog 56 #[.slice a len cap, .int .i64 m] w fun e w' => ∃ c, c < 256 ∧ e = .returned (.complex .f32 (r8re c) (r8im c)) ∧ w' = w := by
  obtain ⟨k, rfl⟩ : ∃ k : Nat, m = k := ⟨m.toNat, by omega⟩
  exact r8number_any p a len cap k w hb (by omega)
theorem BRd.stay2 {p : Nat} {w w' : World} {a : Option Addr} {len cap B : Nat} (h : BRd p w a len cap) (hb : Below B w w') (hB : p ≤ B) : BRd p w' a len cap :=
  ⟨h.1, h.2.1, h.2.2.1, fun k hk => by
    obtain ⟨b, o, v, e, hbp, h0, h1, hc⟩ := h.2.2.2 k hk
    exact ⟨b, o, v, e, hbp, h0, h1, (hb.cell (p := ⟨b, o + k, none⟩) (Nat.lt_of_lt_of_le hbp hB)).trans hc⟩⟩
/-- Phases whose parts are numbers of three bytes. -/
def r8P (x y z : Nat) : Nat → Nat := fun j => if j = 0 then r8re x else if j = 1 then r8im x else if j = 2 then r8re y else if j = 3 then r8im y else if j = 4 then r8re z else r8im z
theorem r8phases_any (p : Nat) (a : Option Addr) (len cap k : Nat) (w : World) (hb : BRd p w a len cap) (hp : p ≤ w.heap.size) (hk : k ≤ 1000) :
    Calls Try.prog 55 #[.slice a len cap, .int .i64 k] w fun e w' => ∃ x y z, x < 256 ∧ y < 256 ∧ z < 256 ∧ e = .returned (PV (r8P x y z)) ∧ Below w.heap.size w w' := by
  have hst := fun (a : Addr) (x y : Nat) (m : Mode) (w : World) => run_store Try.prog w a (.complex .f32 x y) m rfl
  go_enter Try.func55, Try.ntmps55
  go_wp2_with fail
  refine (r8number_any p a len cap k _ (by exact hb.keep hp (World.grownBy_alloc _ _ none) (by simp)) (by omega)).mono ?_
  rintro e w1 ⟨x, hx, rfl, rfl⟩
  have T := box2 w [.complex .f32 0 0, .complex .f32 0 0, .complex .f32 0 0] [.complex .f32 (r8re x) (r8im x), .complex .f32 0 0, .complex .f32 0 0] 37 37
  go_wp2_with fail
  have hB2 : Below w.heap.size w _ := T.2.2
  generalize ((w.alloc (.cells #[.complex .f32 0 0, .complex .f32 0 0, .complex .f32 0 0] 37)).alloc (.cells #[.complex .f32 (r8re x) (r8im x), .complex .f32 0 0, .complex .f32 0 0] 37)) = W2 at *
  obtain ⟨T1, T2, TB⟩ := T
  have HS := Lib.hid (And.intro T1 (And.intro T2 TB))
  clear T1 T2 TB hB2
  refine (r8number_int p a len cap _ W2 (hb.stay2 HS.out.2.2 hp) (by omega) (by omega)).mono ?_
  rintro e w1 ⟨y, hy, rfl, rfl⟩
  obtain ⟨T1, T2, TB⟩ := HS.out
  have k0 := T2.cell 0 (by simp)
  have k1 := T2.cell 1 (by simp)
  have k2 := T2.cell 2 (by simp)
  have z0 := T2.frozen 0
  have z1 := T2.frozen 1
  have z2 := T2.frozen 2
  simp only [List.getD_cons_zero, List.getD_cons_succ] at k0 k1 k2
  have S1 := Lib.hid (T1.other (show w.heap.size ≠ w.heap.size + 1 by omega) 1 (.complex .f32 (r8re y) (r8im y)))
  have S2 := Lib.hid (T2.set 1 (.complex .f32 (r8re y) (r8im y)))
  have S3 := Lib.hid (TB.setCell (p := ⟨w.heap.size + 1, 1, none⟩) (by simp) (.complex .f32 (r8re y) (r8im y)))
  clear T1 T2 TB
  go_wp2_with fail
  generalize w1.setCell ⟨w.heap.size + 1, 1, none⟩ (.complex .f32 (r8re y) (r8im y)) = W3 at *
  clear k0 k1 k2 z0 z1 z2 HS
  refine (r8number_int p a len cap _ W3 (hb.stay2 S3.out hp) (by omega) (by omega)).mono ?_
  rintro e w2 ⟨z, hz, rfl, rfl⟩
  have k0 := S2.out.cell 0 (by simp)
  have k1 := S2.out.cell 1 (by simp)
  have k2 := S2.out.cell 2 (by simp)
  have z0 := S2.out.frozen 0
  have z1 := S2.out.frozen 1
  have z2 := S2.out.frozen 2
  have l0 := S1.out.cell 0 (by simp)
  have l1 := S1.out.cell 1 (by simp)
  have l2 := S1.out.cell 2 (by simp)
  have y0 := S1.out.frozen 0
  have y1 := S1.out.frozen 1
  have y2 := S1.out.frozen 2
  simp only [List.set_cons_zero, List.set_cons_succ, List.getD_cons_zero, List.getD_cons_succ] at k0 k1 k2 l0 l1 l2
  go_wp2_with fail
  have R2 := (((S1.out.other (show w.heap.size ≠ w.heap.size + 1 by omega) 2 (.complex .f32 (r8re z) (r8im z))).set 0 (.complex .f32 (r8re x) (r8im x))).set 1 (.complex .f32 (r8re y) (r8im y))).set 2 (.complex .f32 (r8re z) (r8im z))
  have v0 := R2.cell 0 (by simp)
  have v1 := R2.cell 1 (by simp)
  have v2 := R2.cell 2 (by simp)
  simp only [List.set_cons_zero, List.set_cons_succ, List.getD_cons_zero, List.getD_cons_succ] at v0 v1 v2
  try simp only [Exit.inBlock, Exit.then]
  refine bodyPost_ret (by simp [results, Try.results55, go_sem, v0, v1, v2]; try rfl) rfl ?_
  exact ⟨x, y, z, hx, hy, hz, rfl, (((S3.out.setCell (by simp) _).setCell (by simp) _).setCell (by simp) _).setCell (by simp) _⟩
end Go.Proofs.Ytljclagfplildaa
