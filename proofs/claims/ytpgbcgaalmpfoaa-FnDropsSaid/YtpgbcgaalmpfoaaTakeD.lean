/-
  Currents and powers of three loads in sixteenths. No theorem of a claim stands here.
-/
import Derived.Test.YtpgbcgaalmpfoaaDropF
set_option linter.unusedVariables false
set_option linter.unusedSimpArgs false
set_option maxRecDepth 8000
namespace Go.Proofs.Ytpgbcgaalmpfoaa
open Go Go.RowKit Go.Deep Go.Proofs.Ytpgbcgaalmpfoaa.Fl

def v8P : Nat → Nat := fun j => if j = 0 then 1090519040 else if j = 1 then 0 else if j = 2 then 0 else if j = 3 then 1090519040 else if j = 4 then 3238002688 else 0
theorem load_any (kind : Int) (h0 : 0 ≤ kind) (h3 : kind < 3) (c j : Nat) (hc : c < 256) (hj : j < 3) : ∃ t u p q, CurAt kind (r8re c) (r8im c) (v8R j) (v8I j) t u ∧ MulV t (Op.negFloat .f32 u) (v8R j) (v8I j) p q ∧
    (kind ≠ 0 → B32 26 p ∧ B32 26 q) ∧ (kind = 0 → Dy .f32 4 p (r8A c) ∧ Dy .f32 4 q (r8B c)) ∧ (kind = 1 → (FloatKind.f32.format.order t (r8re c) == some .eq) = true ∧ (FloatKind.f32.format.order u (r8im c) == some .eq) = true) := by
  obtain rfl | rfl | rfl : kind = 0 ∨ kind = 1 ∨ kind = 2 := by omega
  · obtain ⟨t, u, p, q, h1, h2, h3, h4⟩ := load0 c j hc hj
    exact ⟨t, u, p, q, h1, h2, fun h => absurd rfl h, fun _ => ⟨h3, h4⟩, fun h => by omega⟩
  · obtain ⟨t, u, p, q, h1, h2, h3, h4⟩ := load1 c j hc hj
    exact ⟨t, u, p, q, h1, h2, fun _ => h3, fun h => by omega, fun _ => h4⟩
  · obtain ⟨t, u, p, q, h1, h2, h3⟩ := load2 c j hc hj
    exact ⟨t, u, p, q, h1, h2, fun _ => h3, fun h => by omega, fun h => by omega⟩
/-- All that the second part of the law reckons. -/
theorem takes_data (kind : Int) (h0 : 0 ≤ kind) (h3 : kind < 3) {l0 l1 l2 : Nat} (hl0 : l0 < 256) (hl1 : l1 < 256) (hl2 : l2 < 256) : ∃ (T p q : Nat → Nat) (P R m0 m1 a0 a1 s r : Nat),
    (CurAt kind (r8P l0 l1 l2 0) (r8P l0 l1 l2 1) (v8P 0) (v8P 1) (T 0) (T 1) ∧ CurAt kind (r8P l0 l1 l2 2) (r8P l0 l1 l2 3) (v8P 2) (v8P 3) (T 2) (T 3) ∧ CurAt kind (r8P l0 l1 l2 4) (r8P l0 l1 l2 5) (v8P 4) (v8P 5) (T 4) (T 5)) ∧
    (MulV (T 0) (Op.negFloat .f32 (T 1)) (v8P 0) (v8P 1) (p 0) (q 0) ∧ MulV (T 2) (Op.negFloat .f32 (T 3)) (v8P 2) (v8P 3) (p 1) (q 1) ∧ MulV (T 4) (Op.negFloat .f32 (T 5)) (v8P 4) (v8P 5) (p 2) (q 2)) ∧
    (dotS p 3 = some P ∧ dotS q 3 = some R) ∧ (kind = 1 → EqP T (r8P l0 l1 l2)) ∧
    ((fop .add .f32 (vl .f32 (r8P l0 l1 l2 0)) (vl .f32 (r8P l0 l1 l2 2)) = some m0 ∧ fop .add .f32 (vl .f32 (r8P l0 l1 l2 1)) (vl .f32 (r8P l0 l1 l2 3)) = some m1) ∧ (fop .add .f32 (vl .f32 m0) (vl .f32 (r8P l0 l1 l2 4)) = some a0 ∧ fop .add .f32 (vl .f32 m1) (vl .f32 (r8P l0 l1 l2 5)) = some a1)) ∧
    (kind = 0 → (fop .sub .f32 (vl .f32 P) (vl .f32 a0) = some s ∧ fop .sub .f32 (vl .f32 R) (vl .f32 a1) = some r) ∧ pwW s r = some 0) := by
  obtain ⟨t0, u0, p0, q0, c0, k0, b0, d0, e0⟩ := load_any kind h0 h3 l0 0 hl0 (by omega)
  obtain ⟨t1, u1, p1, q1, c1, k1, b1, d1, e1⟩ := load_any kind h0 h3 l1 1 hl1 (by omega)
  obtain ⟨t2, u2, p2, q2, c2, k2, b2, d2, e2⟩ := load_any kind h0 h3 l2 2 hl2 (by omega)
  obtain ⟨dl, bl⟩ := r8P_dy hl0 hl1 hl2
  have g := fun j hj => dl j hj
  obtain ⟨m0, em0, ym0⟩ := DyV.add (DyV.of (g 0 (by omega))) (DyV.of (g 2 (by omega))) (by decide) (by have := bl 0 (by omega); have := bl 2 (by omega); rw [bin32]; omega)
  obtain ⟨m1, em1, ym1⟩ := DyV.add (DyV.of (g 1 (by omega))) (DyV.of (g 3 (by omega))) (by decide) (by have := bl 1 (by omega); have := bl 3 (by omega); rw [bin32]; omega)
  obtain ⟨a0, ea0, ya0⟩ := DyV.add (DyV.of ym0) (DyV.of (g 4 (by omega))) (by decide) (by have := bl 0 (by omega); have := bl 2 (by omega); have := bl 4 (by omega); rw [bin32]; omega)
  obtain ⟨a1, ea1, ya1⟩ := DyV.add (DyV.of ym1) (DyV.of (g 5 (by omega))) (by decide) (by have := bl 1 (by omega); have := bl 3 (by omega); have := bl 5 (by omega); rw [bin32]; omega)
  have hs : ∃ P R, (dotS (fun j => if j = 0 then p0 else if j = 1 then p1 else p2) 3 = some P ∧ dotS (fun j => if j = 0 then q0 else if j = 1 then q1 else q2) 3 = some R) ∧ (kind = 0 → Dy .f32 4 P (r8A l0 + r8A l1 + r8A l2) ∧ Dy .f32 4 R (r8B l0 + r8B l1 + r8B l2)) := by
    by_cases hk : kind = 0
    · obtain ⟨P, hP, dP⟩ := dotS_dy (fun j => if j = 0 then p0 else if j = 1 then p1 else p2) (fun j => if j = 0 then r8A l0 else if j = 1 then r8A l1 else r8A l2) (fun j hj => by
        obtain rfl | rfl | rfl : j = 0 ∨ j = 1 ∨ j = 2 := by omega
        · exact (d0 hk).1
        · exact (d1 hk).1
        · exact (d2 hk).1) (fun j hj => by
        obtain rfl | rfl | rfl : j = 0 ∨ j = 1 ∨ j = 2 := by omega
        · exact (r8_small l0 hl0).2.1
        · exact (r8_small l1 hl1).2.1
        · exact (r8_small l2 hl2).2.1)
      obtain ⟨R, hR, dR⟩ := dotS_dy (fun j => if j = 0 then q0 else if j = 1 then q1 else q2) (fun j => if j = 0 then r8B l0 else if j = 1 then r8B l1 else r8B l2) (fun j hj => by
        obtain rfl | rfl | rfl : j = 0 ∨ j = 1 ∨ j = 2 := by omega
        · exact (d0 hk).2
        · exact (d1 hk).2
        · exact (d2 hk).2) (fun j hj => by
        obtain rfl | rfl | rfl : j = 0 ∨ j = 1 ∨ j = 2 := by omega
        · exact (r8_small l0 hl0).2.2
        · exact (r8_small l1 hl1).2.2
        · exact (r8_small l2 hl2).2.2)
      exact ⟨P, R, ⟨hP, hR⟩, fun _ => ⟨dP, dR⟩⟩
    · obtain ⟨P, hP⟩ := dotS_b32 (fun j => if j = 0 then p0 else if j = 1 then p1 else p2) (fun j hj => by
        obtain rfl | rfl | rfl : j = 0 ∨ j = 1 ∨ j = 2 := by omega
        · exact (b0 hk).1
        · exact (b1 hk).1
        · exact (b2 hk).1)
      obtain ⟨R, hR⟩ := dotS_b32 (fun j => if j = 0 then q0 else if j = 1 then q1 else q2) (fun j hj => by
        obtain rfl | rfl | rfl : j = 0 ∨ j = 1 ∨ j = 2 := by omega
        · exact (b0 hk).2
        · exact (b1 hk).2
        · exact (b2 hk).2)
      exact ⟨P, R, ⟨hP, hR⟩, fun h => absurd h hk⟩
  obtain ⟨P, R, hPR, hdy⟩ := hs
  have hlast : ∃ s r, kind = 0 → (fop .sub .f32 (vl .f32 P) (vl .f32 a0) = some s ∧ fop .sub .f32 (vl .f32 R) (vl .f32 a1) = some r) ∧ pwW s r = some 0 := by
    by_cases hk : kind = 0
    · obtain ⟨dP, dR⟩ := hdy hk
      have ya0' : Dy .f32 4 a0 (r8A l0 + r8A l1 + r8A l2) := ya0
      have ya1' : Dy .f32 4 a1 (r8B l0 + r8B l1 + r8B l2) := ya1
      obtain ⟨s, es, ys⟩ := DyV.sub (DyV.of dP) (DyV.of ya0') (by decide) (by rw [Int.sub_self]; decide)
      obtain ⟨r, er, yr⟩ := DyV.sub (DyV.of dR) (DyV.of ya1') (by decide) (by rw [Int.sub_self]; decide)
      rw [Int.sub_self] at ys yr
      exact ⟨s, r, fun _ => ⟨⟨es, er⟩, long_zero (fop_lt32 es) (fop_lt32 er) ys yr⟩⟩
    · exact ⟨0, 0, fun h => absurd h hk⟩
  obtain ⟨s, r, hsr⟩ := hlast
  refine ⟨fun j => if j = 0 then t0 else if j = 1 then u0 else if j = 2 then t1 else if j = 3 then u1 else if j = 4 then t2 else u2, fun j => if j = 0 then p0 else if j = 1 then p1 else p2, fun j => if j = 0 then q0 else if j = 1 then q1 else q2, P, R, m0, m1, a0, a1, s, r, ⟨c0, c1, c2⟩, ⟨k0, k1, k2⟩, hPR, fun hk j hj => ?_, ⟨⟨em0, em1⟩, ea0, ea1⟩, hsr⟩
  obtain rfl | rfl | rfl | rfl | rfl | rfl : j = 0 ∨ j = 1 ∨ j = 2 ∨ j = 3 ∨ j = 4 ∨ j = 5 := by omega
  · exact (e0 hk).1
  · exact (e0 hk).2
  · exact (e1 hk).1
  · exact (e1 hk).2
  · exact (e2 hk).1
  · exact (e2 hk).2
end Go.Proofs.Ytpgbcgaalmpfoaa
