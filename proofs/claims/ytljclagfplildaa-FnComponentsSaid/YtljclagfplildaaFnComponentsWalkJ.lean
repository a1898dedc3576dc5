/-
  Joined from: FnComponentsWalk.
-/
import Derived.Test.YtljclagfplildaaCoA
import Derived.Test.YtljclagfplildaaR8
import Derived.Test.YtljclagfplildaaBytes
import Derived.Test.YtljclagfplildaaQTail

section
set_option linter.unusedVariables false
set_option linter.unusedSimpArgs false
set_option maxRecDepth 8000
namespace Go.Proofs.Ytljclagfplildaa
open Go Go.RowKit Go.Deep Go.Proofs.Ytljclagfplildaa.Fl

theorem parts_lt {p q : Nat → Nat} (h : PartsV p q) : ∀ j, j < 6 → q j < 2 ^ 32 := by
  obtain ⟨⟨_, _, _, a0, a1⟩, ⟨_, _, _, a2, a3⟩, ⟨_, _, _, a4, a5⟩⟩ := h
  intro j hj
  obtain rfl | rfl | rfl | rfl | rfl | rfl : j = 0 ∨ j = 1 ∨ j = 2 ∨ j = 3 ∨ j = 4 ∨ j = 5 := by omega
  · exact fop_lt32 a0
  · exact fop_lt32 a1
  · exact fop_lt32 a2
  · exact fop_lt32 a3
  · exact fop_lt32 a4
  · exact fop_lt32 a5

set_option maxRecDepth 100000 in
set_option maxHeartbeats 8000000 in
theorem walk (a0 : Option Addr) (len0 cap0 : Nat) (a1 : Option Addr) (len1 cap1 : Nat) (W : World) (h0 : Rd8 W a0 len0 cap0) (h1 : Rd8 W a1 len1 cap1) : Calls Try.prog 8 #[.slice a0 len0 cap0, .slice a1 len1 cap1] W fun e w' => e = .returned (.bool true) ∧ Below W.heap.size W w' := by
  have hL := r8Long_any a0 a1 len0 cap0 len1 cap1 W
  have hst := fun (a : Addr) (x y : Nat) (m : Mode) (w : World) => run_store Try.prog w a (.complex .f32 x y) m rfl
  by_cases hlong : 48 < len0 ∨ 48 < len1
  · rw [decide_eq_true hlong] at hL
    go_enter Try.func8, Try.ntmps8
    go_wp2_with fail
    refine hL.mono ?_
    rintro e w1 ⟨rfl, rfl⟩
    go_wp2_with fail
    go_ret
    exact ⟨rfl, Below.refl _ _⟩
  · rw [decide_eq_false hlong] at hL
    have B0 := Lib.hid (h0.bytes (by omega))
    have B1 := Lib.hid (h1.bytes (by omega))
    clear h0 h1
    go_enter Try.func8, Try.ntmps8
    go_wp2_with fail
    refine hL.mono ?_
    rintro e w1 ⟨rfl, hw1⟩
    have hw2 := hw1.symm
    subst hw2
    go_wp2_with fail
    refine (r8phases_any W.heap.size a0 len0 cap0 0 W B0.out (Nat.le_refl _) (by omega)).mono ?_
    rintro e w2 ⟨x, y, z, hx, hy, hz, rfl, hb⟩
    have HX0 := Lib.hid (And.intro hb trivial)
    have S6 := six_r8 hx hy hz
    obtain ⟨q, Q, hq, sq, e0, e1, e2⟩ := parts16 S6
    obtain ⟨bk, hbk, ⟨t0, A0, o0⟩, ⟨t1, A1, o1⟩, ⟨t2, A2, o2⟩⟩ := back16 S6 sq e0 e1 e2
    obtain ⟨nq, hnq, ⟨t6, A6, o6⟩, ⟨tp, tq, G1⟩, ⟨tm, tn, G2⟩⟩ := next16 S6 sq e0 e1 e2
    obtain ⟨gr0, gr1, u0, u1, z0, z1, hgr, ⟨j0, j1⟩, ⟨j2, j3⟩, ⟨t7, A7, o7⟩⟩ := ground16 S6 sq e0
    unfold PV
    clear hb S6 sq e0 e1 e2
    generalize r8P x y z = P at *
    have cq := fun w' => parts_any P q hq w'
    have cb := fun w' => phases_any q bk hbk w'
    have cn := fun w' => nextP_any P w'
    have cnq := fun w' => parts_any (nextP P) nq hnq w'
    have cg := fun w' => groundV_any P gr0 gr1 hgr w'
    have cs := fun w' => sameParts_any q (parts_lt hq) w'
    have ca0 := fun w' => apartV_any A0 w'
    have ca1 := fun w' => apartV_any A1 w'
    have ca2 := fun w' => apartV_any A2 w'
    have ca6 := fun w' => apartV_any A6 w'
    have ca7 := fun w' => apartV_any A7 w'
    have hz1 := run_csum .add (.inl rfl) 25 j0 j1
    have hz2 := run_csum .add (.inl rfl) 25 j2 j3
    clear hq hbk hnq hgr A0 A1 A2 A6 A7 j0 j1 j2 j3
    have CQ := Lib.hid cq
    have CB := Lib.hid cb
    have CN := Lib.hid cn
    have CNQ := Lib.hid cnq
    have CG := Lib.hid cg
    have CS := Lib.hid cs
    have CA := Lib.hid (And.intro ca0 (And.intro ca1 (And.intro ca2 (And.intro ca6 ca7))))
    have HZ := Lib.hid (And.intro hz1 hz2)
    have OO := Lib.hid (And.intro o0 (And.intro o1 (And.intro o2 (And.intro o6 o7))))
    have GG := Lib.hid (And.intro G1 G2)
    clear cq cb cn cnq cg cs ca0 ca1 ca2 ca6 ca7 hz1 hz2 o0 o1 o2 o6 o7 G1 G2 hx hy hz
    unfold PV at CQ CB CN CNQ CG CS
    go_wp2_with fail
    have T := RL.new w2 [.complex .f32 (P 0) (P 1), .complex .f32 (P 2) (P 3), .complex .f32 (P 4) (P 5)] 37
    have ba := bel_alloc w2 (.cells ([.complex .f32 (P 0) (P 1), .complex .f32 (P 2) (P 3), .complex .f32 (P 4) (P 5)]).toArray 37)
    have HX1 := Lib.hid (And.intro (HX0.out.1.trans (ba.mono HX0.out.1.size)) (And.intro T trivial))
    clear T ba HX0
    generalize (w2.alloc (.cells #[.complex .f32 (P 0) (P 1), .complex .f32 (P 2) (P 3), .complex .f32 (P 4) (P 5)] 37)) = w3 at *
    generalize w2.heap.size = b5 at *
    refine (r8number_any W.heap.size a1 len1 cap1 0 w3 (B1.out.stay2 HX1.out.1 (Nat.le_refl _)) (by omega)).mono ?_
    rintro e w4 ⟨c, hc, rfl, hw4⟩
    have hw5 := hw4.symm
    subst hw5
    obtain ⟨ev, pe, hev, hpe, ⟨t3, A3, o3⟩, ⟨t4, A4, o4⟩, ⟨t5, A5, o5⟩⟩ := even16 hc
    have CE := Lib.hid (fun w' => evenV_any hev w')
    have CPE := Lib.hid (fun w' => parts_any ev pe hpe w')
    have CA2 := Lib.hid (And.intro (fun w' => apartV_any A3 w') (And.intro (fun w' => apartV_any A4 w') (fun w' => apartV_any A5 w')))
    have OO2 := Lib.hid (And.intro o3 (And.intro o4 o5))
    clear hev hpe A3 A4 A5 o3 o4 o5 hc B0 B1 hL hlong
    unfold PV at CE CPE
    generalize r8re c = xr at *
    generalize r8im c = xi at *
    have c00 := HX1.out.2.1.cell 0 (by simp)
    have c01 := HX1.out.2.1.cell 1 (by simp)
    have c02 := HX1.out.2.1.cell 2 (by simp)
    simp only [List.getD_cons_zero, List.getD_cons_succ] at c00 c01 c02
    go_wp2_with fail
    refine (CQ.out _).mono ?_
    rintro e w5 ⟨rfl, hb⟩
    clear c00 c01 c02
    have HX2 := Lib.hid (And.intro (HX1.out.1.trans (hb.mono HX1.out.1.size)) (And.intro (HX1.out.2.1.below hb HX1.out.2.1.lt) trivial))
    clear HX1 hb
    go_wp2_with fail
    have T := RL.new w5 [.complex .f32 (q 0) (q 1), .complex .f32 (q 2) (q 3), .complex .f32 (q 4) (q 5)] 89
    have ba := bel_alloc w5 (.cells ([.complex .f32 (q 0) (q 1), .complex .f32 (q 2) (q 3), .complex .f32 (q 4) (q 5)]).toArray 89)
    have HX3 := Lib.hid (And.intro (HX2.out.1.trans (ba.mono HX2.out.1.size)) (And.intro (HX2.out.2.1.below ba HX2.out.2.1.lt) (And.intro T trivial)))
    clear T ba HX2
    generalize (w5.alloc (.cells #[.complex .f32 (q 0) (q 1), .complex .f32 (q 2) (q 3), .complex .f32 (q 4) (q 5)] 89)) = w6 at *
    generalize w5.heap.size = b7 at *
    have c10 := HX3.out.2.2.1.cell 0 (by simp)
    have c11 := HX3.out.2.2.1.cell 1 (by simp)
    have c12 := HX3.out.2.2.1.cell 2 (by simp)
    simp only [List.getD_cons_zero, List.getD_cons_succ] at c10 c11 c12
    go_wp2_with fail
    refine (CB.out _).mono ?_
    rintro e w7 ⟨rfl, hb⟩
    clear c10 c11 c12
    have HX4 := Lib.hid (And.intro (HX3.out.1.trans (hb.mono HX3.out.1.size)) (And.intro (HX3.out.2.1.below hb HX3.out.2.1.lt) (And.intro (HX3.out.2.2.1.below hb HX3.out.2.2.1.lt) trivial)))
    clear HX3 hb
    go_wp2_with fail
    have T := RL.new w7 [.complex .f32 (bk 0) (bk 1), .complex .f32 (bk 2) (bk 3), .complex .f32 (bk 4) (bk 5)] 37
    have ba := bel_alloc w7 (.cells ([.complex .f32 (bk 0) (bk 1), .complex .f32 (bk 2) (bk 3), .complex .f32 (bk 4) (bk 5)]).toArray 37)
    have HX5 := Lib.hid (And.intro (HX4.out.1.trans (ba.mono HX4.out.1.size)) (And.intro (HX4.out.2.1.below ba HX4.out.2.1.lt) (And.intro (HX4.out.2.2.1.below ba HX4.out.2.2.1.lt) (And.intro T trivial))))
    clear T ba HX4
    generalize (w7.alloc (.cells #[.complex .f32 (bk 0) (bk 1), .complex .f32 (bk 2) (bk 3), .complex .f32 (bk 4) (bk 5)] 37)) = w8 at *
    generalize w7.heap.size = b8 at *
    go_wp2_with fail
    refine (CE.out _).mono ?_
    rintro e w9 ⟨rfl, hb⟩
    have HX6 := Lib.hid (And.intro (HX5.out.1.trans (hb.mono HX5.out.1.size)) (And.intro (HX5.out.2.1.below hb HX5.out.2.1.lt) (And.intro (HX5.out.2.2.1.below hb HX5.out.2.2.1.lt) (And.intro (HX5.out.2.2.2.1.below hb HX5.out.2.2.2.1.lt) trivial))))
    clear HX5 hb
    go_wp2_with fail
    refine (CPE.out _).mono ?_
    rintro e w10 ⟨rfl, hb⟩
    have HX7 := Lib.hid (And.intro (HX6.out.1.trans (hb.mono HX6.out.1.size)) (And.intro (HX6.out.2.1.below hb HX6.out.2.1.lt) (And.intro (HX6.out.2.2.1.below hb HX6.out.2.2.1.lt) (And.intro (HX6.out.2.2.2.1.below hb HX6.out.2.2.2.1.lt) trivial))))
    clear HX6 hb
    have T := RL.new w10 [.complex .f32 (pe 0) (pe 1), .complex .f32 (pe 2) (pe 3), .complex .f32 (pe 4) (pe 5)] 89
    have ba := bel_alloc w10 (.cells ([.complex .f32 (pe 0) (pe 1), .complex .f32 (pe 2) (pe 3), .complex .f32 (pe 4) (pe 5)]).toArray 89)
    have HX8 := Lib.hid (And.intro (HX7.out.1.trans (ba.mono HX7.out.1.size)) (And.intro (HX7.out.2.1.below ba HX7.out.2.1.lt) (And.intro (HX7.out.2.2.1.below ba HX7.out.2.2.1.lt) (And.intro (HX7.out.2.2.2.1.below ba HX7.out.2.2.2.1.lt) (And.intro T trivial)))))
    clear T ba HX7
    have c00 := HX8.out.2.1.cell 0 (by simp)
    have c01 := HX8.out.2.1.cell 1 (by simp)
    have c02 := HX8.out.2.1.cell 2 (by simp)
    simp only [List.getD_cons_zero, List.getD_cons_succ] at c00 c01 c02
    go_wp2_with fail
    generalize (w10.alloc (.cells #[.complex .f32 (pe 0) (pe 1), .complex .f32 (pe 2) (pe 3), .complex .f32 (pe 4) (pe 5)] 89)) = w11 at *
    generalize w10.heap.size = b9 at *
    refine (CN.out _).mono ?_
    rintro e w12 ⟨rfl, hb⟩
    clear c00 c01 c02
    have HX9 := Lib.hid (And.intro (HX8.out.1.trans (hb.mono HX8.out.1.size)) (And.intro (HX8.out.2.1.below hb HX8.out.2.1.lt) (And.intro (HX8.out.2.2.1.below hb HX8.out.2.2.1.lt) (And.intro (HX8.out.2.2.2.1.below hb HX8.out.2.2.2.1.lt) (And.intro (HX8.out.2.2.2.2.1.below hb HX8.out.2.2.2.2.1.lt) trivial)))))
    clear HX8 hb
    go_wp2_with fail
    refine (CNQ.out _).mono ?_
    rintro e w13 ⟨rfl, hb⟩
    have HX10 := Lib.hid (And.intro (HX9.out.1.trans (hb.mono HX9.out.1.size)) (And.intro (HX9.out.2.1.below hb HX9.out.2.1.lt) (And.intro (HX9.out.2.2.1.below hb HX9.out.2.2.1.lt) (And.intro (HX9.out.2.2.2.1.below hb HX9.out.2.2.2.1.lt) (And.intro (HX9.out.2.2.2.2.1.below hb HX9.out.2.2.2.2.1.lt) trivial)))))
    clear HX9 hb
    have T := RL.new w13 [.complex .f32 (nq 0) (nq 1), .complex .f32 (nq 2) (nq 3), .complex .f32 (nq 4) (nq 5)] 89
    have ba := bel_alloc w13 (.cells ([.complex .f32 (nq 0) (nq 1), .complex .f32 (nq 2) (nq 3), .complex .f32 (nq 4) (nq 5)]).toArray 89)
    have HX11 := Lib.hid (And.intro (HX10.out.1.trans (ba.mono HX10.out.1.size)) (And.intro (HX10.out.2.1.below ba HX10.out.2.1.lt) (And.intro (HX10.out.2.2.1.below ba HX10.out.2.2.1.lt) (And.intro (HX10.out.2.2.2.1.below ba HX10.out.2.2.2.1.lt) (And.intro (HX10.out.2.2.2.2.1.below ba HX10.out.2.2.2.2.1.lt) (And.intro T trivial))))))
    clear T ba HX10
    have c00 := HX11.out.2.1.cell 0 (by simp)
    have c01 := HX11.out.2.1.cell 1 (by simp)
    have c02 := HX11.out.2.1.cell 2 (by simp)
    have c20 := HX11.out.2.2.2.1.cell 0 (by simp)
    have c21 := HX11.out.2.2.2.1.cell 1 (by simp)
    have c22 := HX11.out.2.2.2.1.cell 2 (by simp)
    simp only [List.getD_cons_zero, List.getD_cons_succ] at c00 c01 c02 c20 c21 c22
    go_wp2_with fail
    generalize (w13.alloc (.cells #[.complex .f32 (nq 0) (nq 1), .complex .f32 (nq 2) (nq 3), .complex .f32 (nq 4) (nq 5)] 89)) = w14 at *
    generalize w13.heap.size = b10 at *
    refine (CA.out.1 _).mono ?_
    rintro e v0 ⟨rfl, hb⟩
    clear c00 c01 c02 c20 c21 c22
    have HX12 := Lib.hid (And.intro (HX11.out.1.trans (hb.mono HX11.out.1.size)) (And.intro (HX11.out.2.1.below hb HX11.out.2.1.lt) (And.intro (HX11.out.2.2.1.below hb HX11.out.2.2.1.lt) (And.intro (HX11.out.2.2.2.1.below hb HX11.out.2.2.2.1.lt) (And.intro (HX11.out.2.2.2.2.1.below hb HX11.out.2.2.2.2.1.lt) (And.intro (HX11.out.2.2.2.2.2.1.below hb HX11.out.2.2.2.2.2.1.lt) trivial))))))
    clear HX11 hb
    have gt0 : (FloatKind.f64.format.order t0 4562254508917369340 == some .gt) = false := by rw [show FloatKind.f64.format.order t0 4562254508917369340 = some .lt from OO.out.1]; rfl
    have c00 := HX12.out.2.1.cell 0 (by simp)
    have c01 := HX12.out.2.1.cell 1 (by simp)
    have c02 := HX12.out.2.1.cell 2 (by simp)
    have c20 := HX12.out.2.2.2.1.cell 0 (by simp)
    have c21 := HX12.out.2.2.2.1.cell 1 (by simp)
    have c22 := HX12.out.2.2.2.1.cell 2 (by simp)
    simp only [List.getD_cons_zero, List.getD_cons_succ] at c00 c01 c02 c20 c21 c22
    go_wp2_with fail
    refine (CA.out.2.1 _).mono ?_
    rintro e v1 ⟨rfl, hb⟩
    clear c00 c01 c02 c20 c21 c22
    have HX13 := Lib.hid (And.intro (HX12.out.1.trans (hb.mono HX12.out.1.size)) (And.intro (HX12.out.2.1.below hb HX12.out.2.1.lt) (And.intro (HX12.out.2.2.1.below hb HX12.out.2.2.1.lt) (And.intro (HX12.out.2.2.2.1.below hb HX12.out.2.2.2.1.lt) (And.intro (HX12.out.2.2.2.2.1.below hb HX12.out.2.2.2.2.1.lt) (And.intro (HX12.out.2.2.2.2.2.1.below hb HX12.out.2.2.2.2.2.1.lt) trivial))))))
    clear HX12 hb
    have gt1 : (FloatKind.f64.format.order t1 4562254508917369340 == some .gt) = false := by rw [show FloatKind.f64.format.order t1 4562254508917369340 = some .lt from OO.out.2.1]; rfl
    have c00 := HX13.out.2.1.cell 0 (by simp)
    have c01 := HX13.out.2.1.cell 1 (by simp)
    have c02 := HX13.out.2.1.cell 2 (by simp)
    have c20 := HX13.out.2.2.2.1.cell 0 (by simp)
    have c21 := HX13.out.2.2.2.1.cell 1 (by simp)
    have c22 := HX13.out.2.2.2.1.cell 2 (by simp)
    simp only [List.getD_cons_zero, List.getD_cons_succ] at c00 c01 c02 c20 c21 c22
    go_wp2_with fail
    refine (CA.out.2.2.1 _).mono ?_
    rintro e v2 ⟨rfl, hb⟩
    clear c00 c01 c02 c20 c21 c22
    have HX14 := Lib.hid (And.intro (HX13.out.1.trans (hb.mono HX13.out.1.size)) (And.intro (HX13.out.2.1.below hb HX13.out.2.1.lt) (And.intro (HX13.out.2.2.1.below hb HX13.out.2.2.1.lt) (And.intro (HX13.out.2.2.2.1.below hb HX13.out.2.2.2.1.lt) (And.intro (HX13.out.2.2.2.2.1.below hb HX13.out.2.2.2.2.1.lt) (And.intro (HX13.out.2.2.2.2.2.1.below hb HX13.out.2.2.2.2.2.1.lt) trivial))))))
    clear HX13 hb
    have gt2 : (FloatKind.f64.format.order t2 4562254508917369340 == some .gt) = false := by rw [show FloatKind.f64.format.order t2 4562254508917369340 = some .lt from OO.out.2.2.1]; rfl
    have c30 := HX14.out.2.2.2.2.1.cell 0 (by simp)
    have c31 := HX14.out.2.2.2.2.1.cell 1 (by simp)
    have c32 := HX14.out.2.2.2.2.1.cell 2 (by simp)
    simp only [List.getD_cons_zero, List.getD_cons_succ] at c30 c31 c32
    go_wp2_with fail
    refine (CA2.out.1 _).mono ?_
    rintro e v3 ⟨rfl, hb⟩
    clear c30 c31 c32
    have HX15 := Lib.hid (And.intro (HX14.out.1.trans (hb.mono HX14.out.1.size)) (And.intro (HX14.out.2.1.below hb HX14.out.2.1.lt) (And.intro (HX14.out.2.2.1.below hb HX14.out.2.2.1.lt) (And.intro (HX14.out.2.2.2.1.below hb HX14.out.2.2.2.1.lt) (And.intro (HX14.out.2.2.2.2.1.below hb HX14.out.2.2.2.2.1.lt) (And.intro (HX14.out.2.2.2.2.2.1.below hb HX14.out.2.2.2.2.2.1.lt) trivial))))))
    clear HX14 hb
    have gt3 : (FloatKind.f64.format.order t3 4562254508917369340 == some .gt) = false := by rw [show FloatKind.f64.format.order t3 4562254508917369340 = some .lt from OO2.out.1]; rfl
    have c30 := HX15.out.2.2.2.2.1.cell 0 (by simp)
    have c31 := HX15.out.2.2.2.2.1.cell 1 (by simp)
    have c32 := HX15.out.2.2.2.2.1.cell 2 (by simp)
    simp only [List.getD_cons_zero, List.getD_cons_succ] at c30 c31 c32
    go_wp2_with fail
    refine (CA2.out.2.1 _).mono ?_
    rintro e v4 ⟨rfl, hb⟩
    clear c30 c31 c32
    have HX16 := Lib.hid (And.intro (HX15.out.1.trans (hb.mono HX15.out.1.size)) (And.intro (HX15.out.2.1.below hb HX15.out.2.1.lt) (And.intro (HX15.out.2.2.1.below hb HX15.out.2.2.1.lt) (And.intro (HX15.out.2.2.2.1.below hb HX15.out.2.2.2.1.lt) (And.intro (HX15.out.2.2.2.2.1.below hb HX15.out.2.2.2.2.1.lt) (And.intro (HX15.out.2.2.2.2.2.1.below hb HX15.out.2.2.2.2.2.1.lt) trivial))))))
    clear HX15 hb
    have gt4 : (FloatKind.f64.format.order t4 4562254508917369340 == some .gt) = false := by rw [show FloatKind.f64.format.order t4 4562254508917369340 = some .lt from OO2.out.2.1]; rfl
    have c30 := HX16.out.2.2.2.2.1.cell 0 (by simp)
    have c31 := HX16.out.2.2.2.2.1.cell 1 (by simp)
    have c32 := HX16.out.2.2.2.2.1.cell 2 (by simp)
    simp only [List.getD_cons_zero, List.getD_cons_succ] at c30 c31 c32
    go_wp2_with fail
    refine (CA2.out.2.2 _).mono ?_
    rintro e v5 ⟨rfl, hb⟩
    clear c30 c31 c32
    have HX17 := Lib.hid (And.intro (HX16.out.1.trans (hb.mono HX16.out.1.size)) (And.intro (HX16.out.2.1.below hb HX16.out.2.1.lt) (And.intro (HX16.out.2.2.1.below hb HX16.out.2.2.1.lt) (And.intro (HX16.out.2.2.2.1.below hb HX16.out.2.2.2.1.lt) (And.intro (HX16.out.2.2.2.2.1.below hb HX16.out.2.2.2.2.1.lt) (And.intro (HX16.out.2.2.2.2.2.1.below hb HX16.out.2.2.2.2.2.1.lt) trivial))))))
    clear HX16 hb
    have gt5 : (FloatKind.f64.format.order t5 4562254508917369340 == some .gt) = false := by rw [show FloatKind.f64.format.order t5 4562254508917369340 = some .lt from OO2.out.2.2]; rfl
    obtain ⟨la, lb, x1, y1, L1, V1, L2, V2, ⟨s1, f1, o1⟩, ⟨s2, f2, o2⟩⟩ := GG.out.1
    obtain ⟨lc, ld, x2, y2, L3, V3, L4, V4, ⟨s3, f3, o3⟩, ⟨s4, f4, o4⟩⟩ := GG.out.2
    have cl1 := fun w' => longV_any L1 w'
    have cl2 := fun w' => longV_any L2 w'
    have cl3 := fun w' => longV_any L3 w'
    have cl4 := fun w' => longV_any L4 w'
    have cv1 := fcv_from V1
    have cv2 := fcv_from V2
    have cv3 := fcv_from V3
    have cv4 := fcv_from V4
    have cg1 := fun w' => gapV_any s1 s2 f1 f2 w'
    have cg2 := fun w' => gapV_any s3 s4 f3 f4 w'
    have gt6 : (FloatKind.f64.format.order t6 4562254508917369340 == some .gt) = false := by rw [show FloatKind.f64.format.order t6 4562254508917369340 = some .lt from OO.out.2.2.2.1]; rfl
    have gt7 : (FloatKind.f64.format.order (maxV x1 y1) 4562254508917369340 == some .gt) = false := by rw [show FloatKind.f64.format.order (maxV x1 y1) 4562254508917369340 = some .lt from max_lt o1 o2]; rfl
    have gt8 : (FloatKind.f64.format.order (maxV x2 y2) 4562254508917369340 == some .gt) = false := by rw [show FloatKind.f64.format.order (maxV x2 y2) 4562254508917369340 = some .lt from max_lt o3 o4]; rfl
    clear L1 L2 L3 L4 V1 V2 V3 V4 s1 s2 s3 s4 f1 f2 f3 f4 o1 o2 o3 o4 GG
    generalize maxV x1 y1 = m1 at *
    generalize maxV x2 y2 = m2 at *
    go_wp2_with fail
    have n0 := fun x : Grown v5 => x.cell (HX17.out.2.2.2.2.2.1.cell 0 (by simp))
    have n1 := fun x : Grown v5 => x.cell (HX17.out.2.2.2.2.2.1.cell 1 (by simp))
    have n2 := fun x : Grown v5 => x.cell (HX17.out.2.2.2.2.2.1.cell 2 (by simp))
    have p0 := fun x : Grown v5 => x.cell (HX17.out.2.2.1.cell 0 (by simp))
    have p1 := fun x : Grown v5 => x.cell (HX17.out.2.2.1.cell 1 (by simp))
    have p2 := fun x : Grown v5 => x.cell (HX17.out.2.2.1.cell 2 (by simp))
    simp only [List.getD_cons_zero, List.getD_cons_succ] at n0 n1 n2 p0 p1 p2
    have ca6 := CA.out.2.2.2.1
    refine wp_grown_tail 29 (by kernel_rfl) (by kernel_rfl) ?_
    simp only [List.take_succ_cons, List.take_zero, List.drop_succ_cons, List.drop_zero]
    repeat (go_big_quiet_step (first | (go_at_call_of 54 (Value.complex .f32 (nq 0) (nq 1)); exact Grown.calls _ (ca6 _)) | (go_at_call_of 62 (Value.complex .f32 (nq 2) (nq 3)); exact Grown.calls _ (cl1 _)) | (go_at_call_of 62 (Value.complex .f32 (q 2) (q 3)); exact Grown.calls _ (cl2 _)) | (go_at_call_of 62 (Value.complex .f32 (nq 4) (nq 5)); exact Grown.calls _ (cl3 _)) | (go_at_call_of 62 (Value.complex .f32 (q 4) (q 5)); exact Grown.calls _ (cl4 _)) | (go_at_call_of 61 (Value.float .f64 tp); exact Grown.calls _ (cg1 _)) | (go_at_call_of 61 (Value.float .f64 tm); exact Grown.calls _ (cg2 _))))
    refine wpQuiet_nil ?_
    rintro _ ⟨X, rfl⟩
    have hb := X.2
    generalize X.1 = w20 at *
    clear n0 n1 n2 p0 p1 p2 ca6 cl1 cl2 cl3 cl4 cv1 cv2 cv3 cv4 cg1 cg2
    have HX18 := Lib.hid (And.intro (HX17.out.1.trans (hb.mono HX17.out.1.size)) (And.intro (HX17.out.2.1.below hb HX17.out.2.1.lt) (And.intro (HX17.out.2.2.1.below hb HX17.out.2.2.1.lt) (And.intro (HX17.out.2.2.2.1.below hb HX17.out.2.2.2.1.lt) (And.intro (HX17.out.2.2.2.2.1.below hb HX17.out.2.2.2.2.1.lt) (And.intro (HX17.out.2.2.2.2.2.1.below hb HX17.out.2.2.2.2.2.1.lt) trivial))))))
    clear HX17 hb
    have c00 := HX18.out.2.1.cell 0 (by simp)
    have c01 := HX18.out.2.1.cell 1 (by simp)
    have c02 := HX18.out.2.1.cell 2 (by simp)
    simp only [List.getD_cons_zero, List.getD_cons_succ] at c00 c01 c02
    go_wp2_with fail
    refine (CG.out _).mono ?_
    rintro e w21 ⟨rfl, hb⟩
    clear c00 c01 c02
    have HX19 := Lib.hid (And.intro (HX18.out.1.trans (hb.mono HX18.out.1.size)) (And.intro (HX18.out.2.1.below hb HX18.out.2.1.lt) (And.intro (HX18.out.2.2.1.below hb HX18.out.2.2.1.lt) (And.intro (HX18.out.2.2.2.1.below hb HX18.out.2.2.2.1.lt) (And.intro (HX18.out.2.2.2.2.1.below hb HX18.out.2.2.2.2.1.lt) (And.intro (HX18.out.2.2.2.2.2.1.below hb HX18.out.2.2.2.2.2.1.lt) trivial))))))
    clear HX18 hb
    have lt7 : (FloatKind.f64.format.order t7 4562254508917369340 == some .lt) = true := by rw [show FloatKind.f64.format.order t7 4562254508917369340 = some .lt from OO.out.2.2.2.2]; rfl
    go_wp2_with fail
    have n0 := fun x : Grown w21 => x.cell (HX19.out.2.1.cell 0 (by simp))
    have n1 := fun x : Grown w21 => x.cell (HX19.out.2.1.cell 1 (by simp))
    have n2 := fun x : Grown w21 => x.cell (HX19.out.2.1.cell 2 (by simp))
    have p0 := fun x : Grown w21 => x.cell (HX19.out.2.2.1.cell 0 (by simp))
    have p1 := fun x : Grown w21 => x.cell (HX19.out.2.2.1.cell 1 (by simp))
    have p2 := fun x : Grown w21 => x.cell (HX19.out.2.2.1.cell 2 (by simp))
    simp only [List.getD_cons_zero, List.getD_cons_succ] at n0 n1 n2 p0 p1 p2
    obtain ⟨hz1, hz2⟩ := HZ.out
    have ca7 := CA.out.2.2.2.2
    have cq := CQ.out
    have cs := CS.out
    refine wp_grown_tail 17 (by kernel_rfl) (by kernel_rfl) ?_
    simp only [List.take_succ_cons, List.take_zero, List.drop_succ_cons, List.drop_zero]
    repeat (go_big_quiet_step (first | (go_at_call_of 54 (Value.complex .f32 gr0 gr1); exact Grown.calls _ (ca7 _)) | (go_at_call_of 57 (Value.agg #[.complex .f32 (P 0) (P 1), .complex .f32 (P 2) (P 3), .complex .f32 (P 4) (P 5)]); exact Grown.calls _ (cq _)) | (go_at_call_of 64 (Value.agg #[.complex .f32 (q 0) (q 1), .complex .f32 (q 2) (q 3), .complex .f32 (q 4) (q 5)]); exact Grown.calls _ (cs _))))
    refine wpQuiet_nil ?_
    rintro _ ⟨X, rfl⟩
    have hb := X.2
    generalize X.1 = w22 at *
    clear n0 n1 n2 p0 p1 p2 hz1 hz2 ca7 cq cs
    have HX20 := Lib.hid (And.intro (HX19.out.1.trans (hb.mono HX19.out.1.size)) (And.intro (HX19.out.2.1.below hb HX19.out.2.1.lt) (And.intro (HX19.out.2.2.1.below hb HX19.out.2.2.1.lt) (And.intro (HX19.out.2.2.2.1.below hb HX19.out.2.2.2.1.lt) (And.intro (HX19.out.2.2.2.2.1.below hb HX19.out.2.2.2.2.1.lt) (And.intro (HX19.out.2.2.2.2.2.1.below hb HX19.out.2.2.2.2.2.1.lt) trivial))))))
    clear HX19 hb
    go_wp2_with fail
    go_ret
    exact ⟨rfl, HX20.out.1⟩
end Go.Proofs.Ytljclagfplildaa
end
