/-
  Joined from: FnGraftedWalk.
-/
import Derived.Test.YtbcjgjdkapdihaaJoC
import Derived.Deep.RegionHeld3

section
set_option linter.unusedVariables false
set_option linter.unusedSimpArgs false
set_option maxRecDepth 8000
namespace Go.Proofs.Ytbcjgjdkapdihaa
open Go Go.RowKit Go.Shelf Go.Deep Go.Proofs.Ytbcjgjdkapdihaa.Fl

namespace Grafted
set_option maxRecDepth 100000 in
set_option maxHeartbeats 8000000 in
theorem walk (a0 : Option Addr) (len0 cap0 : Nat) (a1 : Option Addr) (len1 cap1 : Nat) (W : World) (h0 : Rd8 W a0 len0 cap0) (h1 : Rd8 W a1 len1 cap1) : Calls Try.prog 9 #[.slice a0 len0 cap0, .slice a1 len1 cap1] W fun e w' => e = .returned (.bool true) ∧ Below W.heap.size W w' := by
  have hL := r8Long_any a0 a1 len0 cap0 len1 cap1 W
  have hst := fun (a : Addr) (x y : Nat) (m : Mode) (w : World) => run_store Try.prog w a (.complex .f32 x y) m rfl
  by_cases hlong : 48 < len0 ∨ 48 < len1
  · rw [decide_eq_true hlong] at hL
    go_enter Try.func9, Try.ntmps9
    go_wp2_with fail
    refine hL.mono ?_
    rintro e w1 ⟨rfl, rfl⟩
    go_wp2_with fail
    go_ret
    exact ⟨rfl, Below.refl _ _⟩
  · rw [decide_eq_false hlong] at hL
    have B0 := h0.bytes (by omega)
    have B1 := Lib.hid (h1.bytes (by omega))
    have hWl := wild_any W a0 len0 cap0 B0
    clear B0 h0 h1
    go_enter Try.func9, Try.ntmps9
    go_wp2_with fail
    refine hL.mono ?_
    rintro e w1 ⟨rfl, hw1⟩
    have hw2 := hw1.symm
    subst hw2
    go_wp2_with fail
    refine hWl.mono ?_
    rintro e w1 ⟨s, gs, n, c, Bs, rfl, hF, hn6, hgs, hb⟩
    unfold FV
    have hn1 := hF.one
    have hcn := hF.cap
    have hnc := hF.len
    have hG := Lib.hid hF.good
    have T2 := Lib.hid (show TS W (w1.alloc (.cells #[.complex .f32 (s 0) (s 1), .complex .f32 (s 2) (s 3), .complex .f32 (s 4) (s 5), .slice (some ⟨gs, 0, none⟩) n c] 40)) w1.heap.size gs n c s Bs from ⟨hb.alloc hb.size _, hF.below (bel_alloc w1 _) (Nat.le_refl _), RL.new w1 [.complex .f32 (s 0) (s 1), .complex .f32 (s 2) (s 3), .complex .f32 (s 4) (s 5), .slice (some ⟨gs, 0, none⟩) n c] _⟩)
    have hlen : Bs.length = n := hnc
    clear hF hb hnc hWl hL
    by_cases hn2 : n < 2
    · have hd2 : decide ((n : Int) < 2) = true := by simp; omega
      have hC := cut0_any _ s gs n c Bs T2.out.2.1
      obtain ⟨j0, j1, j2, j3⟩ := T2.out.four
      unfold FV at hC
      go_wp2_with fail
      generalize (w1.alloc (.cells #[.complex .f32 (s 0) (s 1), .complex .f32 (s 2) (s 3), .complex .f32 (s 4) (s 5), .slice (some ⟨gs, 0, none⟩) n c] 40)) = w2 at *
      refine hC.mono ?_
      rintro e w3 ⟨rfl, hb3⟩
      have HB := Lib.hid (T2.out.1.trans (hb3.mono T2.out.1.size))
      clear hC hb3 j0 j1 j2 j3
      go_wp2_with fail
      go_ret
      exact ⟨rfl, HB.out.alloc HB.out.size _⟩
    · have hd2 : decide ((n : Int) < 2) = false := by simp; omega
      go_wp2_with fail
      generalize (w1.alloc (.cells #[.complex .f32 (s 0) (s 1), .complex .f32 (s 2) (s 3), .complex .f32 (s 4) (s 5), .slice (some ⟨gs, 0, none⟩) n c] 40)) = w2 at *
      generalize w1.heap.size = p at *
      refine (r8At_any W.heap.size a1 len1 cap1 0 ((n : Int) - 1) w2 (B1.out.stays T2.out.1 (Nat.le_refl _)) (by omega) (by omega)).mono ?_
      rintro e w3 ⟨v, rfl, hv0, hv1, rfl⟩
      obtain ⟨b, hbv⟩ : ∃ b : Nat, (1 : Int) + v = b := ⟨(1 + v).toNat, by omega⟩
      have hb1 : 1 ≤ b := by omega
      have hbn : b < n := by omega
      have hgd := good_par hG.out b (by omega)
      obtain ⟨q, hq⟩ : ∃ q : Nat, parAt Bs b = q := ⟨(parAt Bs b).toNat, by
        have : parAt Bs b ≠ -1 := fun e => by have := good_root hG.out b (by omega) e; omega
        omega⟩
      have hqb : q < b := by omega
      have Hq := Lib.hid hq
      have hsl := split_len Bs b n
      obtain ⟨nO, hnO⟩ : ∃ k, (othL Bs b n).length = k := ⟨_, rfl⟩
      obtain ⟨nL, hnL⟩ : ∃ k, (belL Bs b n).length = k := ⟨_, rfl⟩
      have hnL0 : 0 < nL := by rw [← hnL]; exact belL_pos hbn
      rw [hnO, hnL] at hsl
      have HnO := Lib.hid hnO
      have HnL := Lib.hid hnL
      obtain ⟨B, hB⟩ : ∃ B, Bs[b]? = some B := ⟨Bs[b], List.getElem?_eq_getElem (by omega)⟩
      have HB := Lib.hid hB
      -- cut
      obtain ⟨j0, j1, j2, j3⟩ := T2.out.four
      have hC := cut_any w3 s gs n c Bs T2.out.2.1 b hb1 hbn
      unfold CutPost FV at hC
      rw [hnO] at hC
      clear hq hgd hnO hnL hB hv0 hv1
      go_wp2_with fail
      refine hC.mono ?_
      rintro e w4 ⟨g1, c1, R, rfl, hRen, hown, hb4⟩
      have hlo := own_lt hown
      have hRl : R.length = nO := hRen.1
      have hcut := good_cut hG.out b hb1 (by omega) (show RenL Bs (othL Bs b Bs.length) (othL Bs b Bs.length).length R by rw [hlen, HnO.out]; exact hRen)
      have hnO0 : 0 < nO := by rw [← hRl]; exact hcut.1
      have F1 := Lib.hid (show Fdr w4 g1 nO c1 R from ⟨(buR_own hown hRl).rd, hRl, hlo.2.2.1, hlo.2.2.2, by omega, by omega, hcut.2⟩)
      have HRen := Lib.hid hRen
      have T4 := Lib.hid (T2.out.step hb4)
      have hc1 := hlo.2.2.1
      clear hC hRen hown hb4 j0 j1 j2 j3 hlo hcut T2
      have T5 := Lib.hid (T4.out.step (bel_alloc w4 (.cells #[.complex .f32 (s 0) (s 1), .complex .f32 (s 2) (s 3), .complex .f32 (s 4) (s 5), .slice (some ⟨g1, 0, none⟩) nO c1] 40)))
      have F15 := Lib.hid (F1.out.below (bel_alloc w4 (.cells #[.complex .f32 (s 0) (s 1), .complex .f32 (s 2) (s 3), .complex .f32 (s 4) (s 5), .slice (some ⟨g1, 0, none⟩) nO c1] 40)) (Nat.le_refl _))
      have X15 := Lib.hid (show RL (w4.alloc (.cells #[.complex .f32 (s 0) (s 1), .complex .f32 (s 2) (s 3), .complex .f32 (s 4) (s 5), .slice (some ⟨g1, 0, none⟩) nO c1] 40)) w4.heap.size 40 (FL4 s g1 nO c1) from RL.new w4 (FL4 s g1 nO c1) _)
      clear T4 F1
      -- part
      obtain ⟨j0, j1, j2, j3⟩ := T5.out.four
      have hP := part_any _ s s gs n c Bs T5.out.2.1 b hbn
      unfold PartPost FV PV at hP
      rw [HnL.out] at hP
      go_wp2_with fail
      generalize (w4.alloc (.cells #[.complex .f32 (s 0) (s 1), .complex .f32 (s 2) (s 3), .complex .f32 (s 4) (s 5), .slice (some ⟨g1, 0, none⟩) nO c1] 40)) = w5 at *
      generalize w4.heap.size = p1 at *
      refine hP.mono ?_
      rintro e w6 ⟨g2, c2, hh, r, rfl, hRen2, hBu2, hg2, hc2, hcm2, hb6⟩
      have hpart := good_part hG.out b (by omega) (show RenL Bs (belL Bs b Bs.length) (belL Bs b Bs.length).length (hh :: r) by rw [hlen, HnL.out]; exact hRen2)
      have F2 := Lib.hid (show Fdr w6 g2 nL c2 (hh.bare :: r) from ⟨hBu2.rd, hBu2.1, hc2, hcm2, by omega, by omega, hpart⟩)
      have HRen2 := Lib.hid hRen2
      have T6 := Lib.hid (T5.out.step hb6)
      have F16 := Lib.hid (F15.out.below hb6 (Nat.le_refl _))
      have X16 := Lib.hid (X15.out.below hb6 X15.out.lt)
      clear hP hRen2 hBu2 hb6 j0 j1 j2 j3 hpart T5 F15 X15 hg2
      have T7 := Lib.hid (T6.out.step (bel_alloc w6 (.cells #[.complex .f32 (s 0) (s 1), .complex .f32 (s 2) (s 3), .complex .f32 (s 4) (s 5), .slice (some ⟨g2, 0, none⟩) nL c2] 40)))
      have F17 := Lib.hid (F16.out.below (bel_alloc w6 (.cells #[.complex .f32 (s 0) (s 1), .complex .f32 (s 2) (s 3), .complex .f32 (s 4) (s 5), .slice (some ⟨g2, 0, none⟩) nL c2] 40)) (Nat.le_refl _))
      have X17 := Lib.hid (X16.out.below (bel_alloc w6 (.cells #[.complex .f32 (s 0) (s 1), .complex .f32 (s 2) (s 3), .complex .f32 (s 4) (s 5), .slice (some ⟨g2, 0, none⟩) nL c2] 40)) X16.out.lt)
      have F27 := Lib.hid (F2.out.below (bel_alloc w6 (.cells #[.complex .f32 (s 0) (s 1), .complex .f32 (s 2) (s 3), .complex .f32 (s 4) (s 5), .slice (some ⟨g2, 0, none⟩) nL c2] 40)) (Nat.le_refl _))
      have X27 := Lib.hid (show RL (w6.alloc (.cells #[.complex .f32 (s 0) (s 1), .complex .f32 (s 2) (s 3), .complex .f32 (s 4) (s 5), .slice (some ⟨g2, 0, none⟩) nL c2] 40)) w6.heap.size 40 (FL4 s g2 nL c2) from RL.new w6 (FL4 s g2 nL c2) _)
      clear T6 F16 X16 F2
      -- below
      obtain ⟨j0, j1, j2, j3⟩ := T7.out.four
      have hBl := below_any _ s gs n c Bs T7.out.2.1 b hbn
      unfold FV at hBl
      go_wp2_with fail
      generalize (w6.alloc (.cells #[.complex .f32 (s 0) (s 1), .complex .f32 (s 2) (s 3), .complex .f32 (s 4) (s 5), .slice (some ⟨g2, 0, none⟩) nL c2] 40)) = w7 at *
      generalize w6.heap.size = p2 at *
      refine hBl.mono ?_
      rintro e w8 ⟨V, rfl, hV, hb8⟩
      obtain ⟨ba, bc, rfl⟩ := hV.form
      rw [HnL.out]
      have T8 := Lib.hid (T7.out.step hb8)
      have F18 := Lib.hid (F17.out.below hb8 (Nat.le_refl _))
      have X18 := Lib.hid (X17.out.below hb8 X17.out.lt)
      have F28 := Lib.hid (F27.out.below hb8 (Nat.le_refl _))
      have X28 := Lib.hid (X27.out.below hb8 X27.out.lt)
      have hIr := hV.rd' (by omega)
      rw [HnL.out] at hIr
      have HI := Lib.hid hIr
      clear hBl hV hb8 j0 j1 j2 j3 T7 F17 X17 F27 X27 hIr
      obtain ⟨j0, j1, j2, j3⟩ := T8.out.four
      have hpc := T8.out.par b hbn
      rw [Hq.out] at hpc
      have hbI : decide ((b : Int) < (n : Int)) = true := by simp; omega
      go_wp2_with fail
      clear j0 j1 j2 j3 hpc
      go_loopw [17, 18] (fun A I wr => ∃ k : Nat, k ≤ q ∧ A = .int .i64 k ∧ I = .int .i64 k ∧ Hid (wr = w8)) (fun _ I _ => q - (intOf I).toNat)
      case atStart => exact ⟨0, Nat.zero_le _, rfl, rfl, Lib.hid rfl⟩
      case round =>
        obtain ⟨k, hk, rfl, rfl, Hwr⟩ := hrel
        have ew := Hwr.out
        subst ew
        by_cases hlt : k < q
        · have dk : decide ((k : Int) < (q : Int)) = true := by simp; omega
          have hrI := r8In_any wr ba nL bc (belL Bs b n) k HI.out (by omega)
          have hno : decide ((k : Int) ∈ belL Bs b n) = false := by
            rw [decide_eq_false_iff_not]
            intro hm
            have := bel_ge Bs (good_par hG.out) b n (by omega) _ hm
            omega
          rw [hno] at hrI
          clear hno
          go_wp2_with fail
          refine hrI.mono ?_
          rintro e wC ⟨rfl, ewC⟩
          subst ewC
          clear hrI
          go_wp2_with fail
          go_roundw
          case rel => exact ⟨k + 1, by omega, by go_num, by go_num, Lib.hid (by first | rfl | trivial)⟩
          case measure => simp [intOf]; omega
        · obtain rfl : k = q := by omega
          have dk : decide ((k : Int) < (k : Int)) = false := by simp
          -- graft
          have hBl2 : b < Bs.length := by omega
          have hBe : Bs[b] = B := by have := HB.out; rw [List.getElem?_eq_getElem hBl2] at this; exact Option.some.inj this
          have hgB := hG.out b hBl2
          rw [hBe] at hgB
          have hrd := T8.out.2.1.rd.2 b hBl2
          rw [hBe] at hrd
          have e1 : wr.cell? ⟨gs, b * 8 + 1, none⟩ = some (.complex .f32 B.o0 B.o1) := hrd 1 (by omega)
          have e2 : wr.cell? ⟨gs, b * 8 + 2, none⟩ = some (.complex .f32 B.s0 B.s1) := hrd 2 (by omega)
          obtain ⟨_, _, _, j3⟩ := T8.out.four
          obtain ⟨x0, x1, x2, x3⟩ := fl4 X18.out
          obtain ⟨y0, y1, y2, y3⟩ := fl4 X28.out
          have cx0 := fun y : Grown wr => y.cell x0
          have cx1 := fun y : Grown wr => y.cell x1
          have cx2 := fun y : Grown wr => y.cell x2
          have cx3 := fun y : Grown wr => y.cell x3
          have cy0 := fun y : Grown wr => y.cell y0
          have cy1 := fun y : Grown wr => y.cell y1
          have cy2 := fun y : Grown wr => y.cell y2
          have cy3 := fun y : Grown wr => y.cell y3
          have cj3 := fun y : Grown wr => y.cell j3
          have ce1 := fun y : Grown wr => y.cell e1
          have ce2 := fun y : Grown wr => y.cell e2
          have HgB := Lib.hid hgB
          clear hrd e1 e2 j3 x0 x1 x2 x3 y0 y1 y2 y3 hBe hgB
          have hkO : k < nO := by
            have := (oth_at Bs b n k (by omega) hqb).1
            rw [HnO.out] at this
            exact this
          go_wp2_with fail
          have hGr := fun (w9 : World) (hb : Below wr.heap.size wr w9) => graft_any w9 s s g1 nO c1 g2 nL c2 R (hh.bare :: r) (F18.out.below hb (Nat.le_refl _)) (F28.out.below hb (Nat.le_refl _)) k hkO (by omega) B.o0 B.o1 B.s0 B.s1
          unfold GraftPost FV at hGr
          rw [show nO + nL = n by omega] at hGr
          have HGr := Lib.hid hGr
          have He := Lib.hid (And.intro ce1 ce2)
          have SS : ∀ w' : World, Below wr.heap.size wr w' → w'.cell? ⟨p1, 0, none⟩ = some (.complex .f32 (s 0) (s 1)) ∧ w'.cell? ⟨p1, 1, none⟩ = some (.complex .f32 (s 2) (s 3)) ∧ w'.cell? ⟨p1, 2, none⟩ = some (.complex .f32 (s 4) (s 5)) ∧ w'.cell? ⟨p1, 3, none⟩ = some (.slice (some ⟨g1, 0, none⟩) nO c1) ∧ w'.cell? ⟨p2, 0, none⟩ = some (.complex .f32 (s 0) (s 1)) ∧ w'.cell? ⟨p2, 1, none⟩ = some (.complex .f32 (s 2) (s 3)) ∧ w'.cell? ⟨p2, 2, none⟩ = some (.complex .f32 (s 4) (s 5)) ∧ w'.cell? ⟨p2, 3, none⟩ = some (.slice (some ⟨g2, 0, none⟩) nL c2) ∧ w'.cell? ⟨p, 3, none⟩ = some (.slice (some ⟨gs, 0, none⟩) n c) ∧ w'.cell? ⟨gs, b * 8 + 1, none⟩ = some (.complex .f32 B.o0 B.o1) ∧ w'.cell? ⟨gs, b * 8 + 2, none⟩ = some (.complex .f32 B.s0 B.s1) ∧ Below wr.heap.size wr w' := fun w' h => ⟨cx0 ⟨w', h⟩, cx1 ⟨w', h⟩, cx2 ⟨w', h⟩, cx3 ⟨w', h⟩, cy0 ⟨w', h⟩, cy1 ⟨w', h⟩, cy2 ⟨w', h⟩, cy3 ⟨w', h⟩, cj3 ⟨w', h⟩, ce1 ⟨w', h⟩, ce2 ⟨w', h⟩, h⟩
          clear hGr cx0 cx1 cx2 cx3 cy0 cy1 cy2 cy3 cj3 ce1 ce2 dk
          go_cut [19, 20] from 90 to 108 (fun s19 s20 wx => ∃ (gA g3 c3 : Nat) (hd : BusV) (tl : List BusV), s19 = .pointer (some ⟨gA, 0, none⟩) ∧ s20 = .bool true ∧ Hid (GrH wr wx s n R k B hh r nO nL true false false false true true gA g3 c3 hd tl))
          case first =>
            clear T8 F18 X18 F28 X28 HI Hwr He HnO HnL Hq HB HRen HRen2 HgB B1 hG
            go_region_held3 (fun w' => w'.cell? ⟨p1, 0, none⟩ = some (.complex .f32 (s 0) (s 1)) ∧ w'.cell? ⟨p1, 1, none⟩ = some (.complex .f32 (s 2) (s 3)) ∧ w'.cell? ⟨p1, 2, none⟩ = some (.complex .f32 (s 4) (s 5)) ∧ w'.cell? ⟨p1, 3, none⟩ = some (.slice (some ⟨g1, 0, none⟩) nO c1) ∧ w'.cell? ⟨p2, 0, none⟩ = some (.complex .f32 (s 0) (s 1)) ∧ w'.cell? ⟨p2, 1, none⟩ = some (.complex .f32 (s 2) (s 3)) ∧ w'.cell? ⟨p2, 2, none⟩ = some (.complex .f32 (s 4) (s 5)) ∧ w'.cell? ⟨p2, 3, none⟩ = some (.slice (some ⟨g2, 0, none⟩) nL c2) ∧ w'.cell? ⟨p, 3, none⟩ = some (.slice (some ⟨gs, 0, none⟩) n c) ∧ w'.cell? ⟨gs, b * 8 + 1, none⟩ = some (.complex .f32 B.o0 B.o1) ∧ w'.cell? ⟨gs, b * 8 + 2, none⟩ = some (.complex .f32 B.s0 B.s1) ∧ Below wr.heap.size wr w')
              (first
                | exact SS _ hbw
                | exact SS _ (Below.alloc hbw (Below.size hbw) _)
                | exact SS _ (Below.setCell (Below.setCell (Below.setCell (Below.setCell hbw (Nat.le_refl _) _) (Nat.le_refl _) _) (Nat.le_refl _) _) (Nat.le_refl _) _)
                | exact SS _ ⟨rfl, rfl, rfl, Nat.le_refl _, fun _ _ => rfl⟩
                | (go_split_ands; exact SS _ (Below.alloc (by assumption) (Below.size (by assumption)) _)))
              (first
                | (go_at_call 64
                   refine (HGr.out _ (by go_split_ands; assumption)).mono ?_
                   rintro e w10 ⟨g3, c3, hd, tl, rfl, hrz, hBu3, hg3, hc3, hcm3, hb10⟩
                   have hbw : Below wr.heap.size wr w10 := by
                     go_split_ands
                     exact Below.trans (by assumption) (Below.mono hb10 (Below.size (by assumption)))
                   have hgr : wr.heap.size ≤ g3 := by first | exact hg3 | (simp at hg3; omega)
                   first
                     | (have RZ := zbox hb10
                        obtain ⟨⟨z0, z1, z2, z3⟩, y0, y1, y2, y3⟩ := zbox4 RZ)
                     | skip))
            · go_wp2_with fail
              go_meet
              case rel => exact ⟨w10.heap.size, g3, c3, hd, tl, rfl, rfl, Lib.hid ⟨Below.alloc hbw (Below.size hbw) _, fun e => Bool.noConfusion e, fun e => Bool.noConfusion e, fun _ => ⟨Below.size hbw, by rw [if_pos rfl]; exact RL.new w10 (FL4 s g3 n c3) _⟩, fun _ => ⟨hrz, hBu3.below (bel_alloc w10 _) hBu3.lt, hgr, by omega, hcm3⟩⟩⟩
            · have hne := hBu3.ne (L := []) RZ
              go_wp2_with fail
              go_meet
              case rel => exact ⟨wr.heap.size, g3, c3, hd, tl, rfl, rfl, Lib.hid ⟨Below.setCell (Below.setCell (Below.setCell (Below.setCell hbw (Nat.le_refl _) _) (Nat.le_refl _) _) (Nat.le_refl _) _) (Nat.le_refl _) _, fun e => Bool.noConfusion e, fun e => Bool.noConfusion e, fun _ => ⟨Nat.le_refl _, by rw [if_pos rfl]; exact (((RZ.set 0 (.complex .f32 (s 0) (s 1))).set 1 (.complex .f32 (s 2) (s 3))).set 2 (.complex .f32 (s 4) (s 5))).set 3 (.slice (some ⟨g3, 0, none⟩) n c3)⟩, fun _ => ⟨hrz, (((hBu3.other hne 0 _).other hne 1 _).other hne 2 _).other hne 3 _, hgr, by omega, hcm3⟩⟩⟩
          case rest =>
            obtain ⟨gA, g3, c3, hd, tl, rfl, rfl, H⟩ := hcut
            obtain ⟨hgA, RX⟩ := H.out.box rfl
            rw [if_pos rfl] at RX
            obtain ⟨hrz, hBu3, hg3, hc3, hcm3⟩ := H.out.gr rfl
            have hbel := H.out.bel
            have HGra := Lib.hid (show Gra Bs b R hh r hd tl from ⟨hG.out, hb1, hBl2, by rw [hlen, HnO.out]; exact HRen.out, by rw [hlen, HnL.out]; exact HRen2.out, by rw [hlen, HnO.out, HnL.out]; exact hrz⟩)
            have HGd := Lib.hid (HGra.out.both k (by omega) B.o0 B.o1 B.s0 B.s1 HgB.out.own)
            have F31 := Lib.hid (show Fdr wc g3 n c3 (R ++ hd.led k B.o0 B.o1 B.s0 B.s1 :: tl) from ⟨hBu3.rd, hBu3.1, hc3, hcm3, hn1, by omega, HGd.out⟩)
            have T11 := Lib.hid (T8.out.step hbel)
            have X11 := Lib.hid (X18.out.below hbel X18.out.lt)
            have X21 := Lib.hid (X28.out.below hbel X28.out.lt)
            have X31 := Lib.hid RX
            have hbl : (R ++ hd.led k B.o0 B.o1 B.s0 B.s1 :: tl).length = n := hBu3.1
            have Hbl := Lib.hid hbl
            clear H RX hrz hBu3 hg3 hbel T8 F18 X18 F28 X28 HGr SS HI He hbl
            -- customers
            obtain ⟨j0, j1, j2, j3⟩ := T11.out.four
            have hbs0 : 0 < Bs.length := by omega
            have hS := cust_any wc s gs n c Bs T11.out.2.1 hG.out hbs0
            unfold FV at hS
            go_wp2_with fail
            refine hS.mono ?_
            rintro e w12 ⟨gc, hgc, rfl, hrow, hb12⟩
            have C12 : Hid (w12.cell? ⟨gc, 0, none⟩ = some (.int .i64 (ctot Bs Bs.length))) := Lib.hid (by rw [← csum_root hG.out hbs0]; exact World.rowIs.cell hrow (show 0 < n by omega))
            have T12 := Lib.hid (T11.out.step hb12)
            have F32 := Lib.hid (F31.out.below hb12 (Nat.le_refl _))
            have X12 := Lib.hid (X11.out.below hb12 X11.out.lt)
            have X22 := Lib.hid (X21.out.below hb12 X21.out.lt)
            have X32 := Lib.hid (X31.out.below hb12 X31.out.lt)
            clear hS hrow hb12 hgc j0 j1 j2 j3 T11 F31 X11 X21 X31
            -- customers of both
            obtain ⟨j0, j1, j2, j3⟩ := fl4 X32.out
            have hbs1 : 0 < (R ++ hd.led k B.o0 B.o1 B.s0 B.s1 :: tl).length := by rw [Hbl.out]; omega
            have hS := cust_any w12 s g3 n c3 (R ++ hd.led k B.o0 B.o1 B.s0 B.s1 :: tl) F32.out HGd.out hbs1
            unfold FV at hS
            go_wp2_with fail
            refine hS.mono ?_
            rintro e w13 ⟨gd, hgd, rfl, hrow, hb13⟩
            have D13 : Hid (w13.cell? ⟨gd, 0, none⟩ = some (.int .i64 (ctot Bs Bs.length))) := Lib.hid (by rw [← HGra.out.cust k B.o0 B.o1 B.s0 B.s1, ← csum_root HGd.out hbs1]; exact World.rowIs.cell hrow (show 0 < n by omega))
            have C13 : Hid (w13.cell? ⟨gc, 0, none⟩ = some (.int .i64 (ctot Bs Bs.length))) := Lib.hid ((show Grown w12 from ⟨w13, hb13⟩).cell C12.out)
            have T13 := Lib.hid (T12.out.step hb13)
            have F33 := Lib.hid (F32.out.below hb13 (Nat.le_refl _))
            have X13 := Lib.hid (X12.out.below hb13 X12.out.lt)
            have X23 := Lib.hid (X22.out.below hb13 X22.out.lt)
            have X33 := Lib.hid (X32.out.below hb13 X32.out.lt)
            clear hS hrow hb13 hgd j0 j1 j2 j3 T12 F32 X12 X22 X32 C12
            -- path
            obtain ⟨j0, j1, j2, j3⟩ := T13.out.four
            have hZ := pathZ_any w13 s gs n c Bs T13.out.2.1 b hbn
            unfold FV at hZ
            go_wp2_with fail
            refine hZ.mono ?_
            rintro e w14 ⟨u, rfl, hu, hb14⟩
            have HU := Lib.hid hu
            have C14 : Hid (w14.cell? ⟨gc, 0, none⟩ = some (.int .i64 (ctot Bs Bs.length))) := Lib.hid ((show Grown w13 from ⟨w14, hb14⟩).cell C13.out)
            have D14 : Hid (w14.cell? ⟨gd, 0, none⟩ = some (.int .i64 (ctot Bs Bs.length))) := Lib.hid ((show Grown w13 from ⟨w14, hb14⟩).cell D13.out)
            have T14 := Lib.hid (T13.out.step hb14)
            have F34 := Lib.hid (F33.out.below hb14 (Nat.le_refl _))
            have X14 := Lib.hid (X13.out.below hb14 X13.out.lt)
            have X24 := Lib.hid (X23.out.below hb14 X23.out.lt)
            have X34 := Lib.hid (X33.out.below hb14 X33.out.lt)
            clear hZ hu hb14 j0 j1 j2 j3 T13 F33 X13 X23 X33 C13 D13
            -- path of both
            obtain ⟨j0, j1, j2, j3⟩ := fl4 X34.out
            obtain ⟨x0, x1, x2, x3⟩ := fl4 X14.out
            have hZ := pathZ_any w14 s g3 n c3 (R ++ hd.led k B.o0 B.o1 B.s0 B.s1 :: tl) F34.out nO (by omega)
            unfold FV at hZ
            go_wp2_with fail
            refine hZ.mono ?_
            rintro e w15 ⟨v, rfl, hv, hb15⟩
            have hpa := fun j => HGra.out.path B HB.out k Hq.out j
            rw [hRl] at hpa
            have HV := Lib.hid (fun (j : Nat) (hj : j < 4) => (⟨((HU.out j hj).1.trans (hpa j).symm).trans (hv j hj).1.symm, (HU.out j hj).2, (hv j hj).2⟩ : vl .f32 (u j) = vl .f32 (v j) ∧ u j < 2 ^ 32 ∧ v j < 2 ^ 32))
            have C15 : Hid (w15.cell? ⟨gc, 0, none⟩ = some (.int .i64 (ctot Bs Bs.length))) := Lib.hid ((show Grown w14 from ⟨w15, hb15⟩).cell C14.out)
            have D15 : Hid (w15.cell? ⟨gd, 0, none⟩ = some (.int .i64 (ctot Bs Bs.length))) := Lib.hid ((show Grown w14 from ⟨w15, hb15⟩).cell D14.out)
            have T15 := Lib.hid (T14.out.step hb15)
            have F35 := Lib.hid (F34.out.below hb15 (Nat.le_refl _))
            have X15 := Lib.hid (X14.out.below hb15 X14.out.lt)
            have X25 := Lib.hid (X24.out.below hb15 X24.out.lt)
            have X35 := Lib.hid (X34.out.below hb15 X34.out.lt)
            clear hZ hv hpa hb15 j0 j1 j2 j3 x0 x1 x2 x3 T14 F34 X14 X24 X34 C14 D14 HU
            -- valid
            have hVf := fun y : Grown w15 => valid_any y.1 s g3 n c3 (R ++ hd.led k B.o0 B.o1 B.s0 B.s1 :: tl) (F35.out.below y.2 (Nat.le_refl _))
            unfold FV at hVf
            obtain ⟨j0, j1, j2, j3⟩ := fl4 X35.out
            obtain ⟨_, _, _, x3⟩ := fl4 X15.out
            obtain ⟨_, _, _, y3⟩ := fl4 X25.out
            have q0 := fun y : Grown w15 => y.cell j0
            have q1 := fun y : Grown w15 => y.cell j1
            have q2 := fun y : Grown w15 => y.cell j2
            have q3 := fun y : Grown w15 => y.cell j3
            have q4 := fun y : Grown w15 => y.cell x3
            have q5 := fun y : Grown w15 => y.cell y3
            have q6 := fun y : Grown w15 => y.cell C15.out
            have q7 := fun y : Grown w15 => y.cell D15.out
            have vr : ∀ (v : Value) (w' : World) (e : Ending) (w'' : World), VRet v w' e w'' → e = .returned v ∧ Below w'.heap.size w' w'' := fun v w' e w'' h => by
              obtain ⟨q, h1, h2⟩ := h
              exact ⟨h1, by rw [h2]; exact bel_drewN w' q⟩
            have hs1 := fun y : Grown w15 => (sameCxI_any (u 0) (u 1) (v 0) (v 1) (HV.out 0 (by omega)).2.1 (HV.out 1 (by omega)).2.1 (HV.out 0 (by omega)).2.2 (HV.out 1 (by omega)).2.2 (HV.out 0 (by omega)).1 (HV.out 1 (by omega)).1 y.1).mono (vr _ _)
            have hs2 := fun y : Grown w15 => (sameCxI_any (u 2) (u 3) (v 2) (v 3) (HV.out 2 (by omega)).2.1 (HV.out 3 (by omega)).2.1 (HV.out 2 (by omega)).2.2 (HV.out 3 (by omega)).2.2 (HV.out 2 (by omega)).1 (HV.out 3 (by omega)).1 y.1).mono (vr _ _)
            have hn0 : (0 : Int) < (n : Int) := by omega
            have hn00 : 0 < n := by omega
            have hdn : IntKind.i64.wrap ((nO : Int) + (nL : Int)) = (n : Int) := by rw [IntWalk.i64_in _ (by omega)]; omega
            have hdw : Go.RowKit.wrap64 ((nO : Int) + (nL : Int)) = (n : Int) := by rw [IntWalk.wrap64_in _ (by omega)]; omega
            clear j0 j1 j2 j3 x3 y3 F35 X15 X25 X35 C15 D15 vr
            go_wp2_with fail
            simp only [List.append_eq, List.cons_append, List.nil_append]
            refine wp_grown (by kernel_rfl) (by kernel_rfl) ?_
            repeat (go_big_quiet_step (first | (go_at_call_of 57 (Value.agg #[.complex .f32 (s 0) (s 1), .complex .f32 (s 2) (s 3), .complex .f32 (s 4) (s 5), .slice (some ⟨g3, 0, none⟩) n c3]); exact Grown.calls _ (hVf _)) | (go_at_call_of 67 (Value.complex .f32 (u 0) (u 1)); exact Grown.calls _ (hs1 _)) | (go_at_call_of 67 (Value.complex .f32 (u 2) (u 3)); exact Grown.calls _ (hs2 _))))
            refine wpQuiet_nil ?_
            rintro _ ⟨y, rfl⟩
            have HBy := Lib.hid (T15.out.step y.2)
            generalize y.1 = wy at *
            clear q0 q1 q2 q3 q4 q5 q6 q7 hVf hs1 hs2
            go_wp2_with fail
            go_ret
            exact ⟨rfl, HBy.out.1⟩
end Grafted
end Go.Proofs.Ytbcjgjdkapdihaa
end
