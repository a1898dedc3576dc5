/-
  The walk of the law on taps whose phases go around.
-/
import Derived.Test.YtbcjgjdkapdihabTapE
import Derived.Test.YtbcjgjdkapdihabTapX
set_option linter.unusedVariables false
set_option linter.unusedSimpArgs false
set_option maxRecDepth 8000
namespace Go.Proofs.Ytbcjgjdkapdihab.fnExactNextTaps
open Go Go.RowKit Go.Deep Go.Proofs.Ytbcjgjdkapdihab.Fl Go.Proofs.Ytbcjgjdkapdihab

theorem TRd.few {w : World} {a : Option Addr} {len cap : Nat} {S : Nat → TapN} (h : TRd w a len cap S) : len ≤ 9223372036854775807 := by
  obtain ⟨h1, h2, _⟩ := h
  unfold maxLen at h2
  omega
set_option maxHeartbeats 4000000 in
theorem walk (a0 : Option Addr) (n cap0 : Nat) (S : Nat → TapN) (w : World) (h0 : TRd w a0 n cap0 S) :
    Calls Try.prog 3 #[.slice a0 n cap0] w fun en w' => en = .returned (.bool true) ∧ Below w.heap.size w w' := by
  have f0 := TRd.few h0
  have H0 := Lib.hid h0
  clear h0
  have hZ0 := fun w : World => sz_any w a0 n cap0 1048576 f0 (by omega)
  by_cases c0 : (1048576 : Int) - n < 0
  · rw [if_pos c0] at hZ0
    go_enter Try.func3, Try.ntmps3
    go_wp2_with (go_at_call 4; refine (hZ0 _).mono ?_; clear hZ0; rintro en w1 ⟨rfl, e1⟩; have e2 := e1.symm; clear e1; subst e2)
    go_ret
    exact ⟨rfl, Below.refl _ _⟩
  · rw [if_neg c0] at hZ0
    have l0 : n ≤ 1048576 := by omega
    have hK0 : ¬ (mkK n < 0) := by unfold mkK; omega
    have hKK : (mkK n != mkK n) = false := by simp
    go_enter Try.func3, Try.ntmps3
    go_wp2_with (go_at_call 4; refine (hZ0 _).mono ?_; clear hZ0; rintro en w1 ⟨rfl, e1⟩; have e2 := e1.symm; clear e1; subst e2)
    refine (toTapS_any _ a0 n cap0 S H0.out l0).mono ?_
    rintro en w1 ⟨g1, rfl, hg1, r1, b1⟩
    have B1 := Lib.hid b1
    have R1 := Lib.hid r1
    clear b1 r1
    go_wp2_with fail
    refine (specNext_any _ g1 n _ _ S R1.out (Nat.le_refl _) l0 (Nat.le_refl _)).mono ?_
    rintro en w2 ⟨gw, cw, mw, rfl, hgw, hcw, hmw, r2, b2⟩
    have B2 := Lib.hid (B1.out.trans (b2.mono B1.out.size))
    have RW := Lib.hid r2
    clear b2 r2 R1 B1
    go_wp2_with fail
    refine (toTapS_any _ a0 n cap0 S (H0.out.stays B2.out (Nat.le_refl _)) l0).mono ?_
    rintro en w3 ⟨gx, rfl, hgx, r3, b3⟩
    have B3 := Lib.hid (B2.out.trans (b3.mono B2.out.size))
    have RW3 := Lib.hid (RW.out.below b3 RW.out.lt)
    have RX := Lib.hid r3
    have hwx : gw < gx := Nat.lt_of_lt_of_le RW.out.lt hgx
    have hx0 : w.heap.size ≤ gx := Nat.le_trans B2.out.size hgx
    clear b3 r3 RW B2
    go_wp2_with fail
    refine (implNext_any _ gx n _ _ S RX.out (Nat.le_refl _) l0 (Nat.le_refl _)).mono ?_
    rintro en w4 ⟨gg, cg, mg, rfl, hgg, hcg, hmg, r4, b4⟩
    have B4 := Lib.hid (B3.out.trans (b4.mono B3.out.size))
    have RW4 := Lib.hid (RW3.out.below b4 RW3.out.lt)
    have RX4 := Lib.hid (RX.out.below b4 RX.out.lt)
    have RG := Lib.hid r4
    have hxg : gx < gg := Nat.lt_of_lt_of_le RX.out.lt hgg
    clear b4 r4 RW3 RX B3
    go_wp2_with fail
    refine (eqTapS_any _ gg gw n _ _ _ _ _ RG.out RW4.out hmg hmw l0 hcg hcw).mono ?_
    rintro en w5 ⟨rfl, b5⟩
    have B5 := Lib.hid (B4.out.trans (b5.mono B4.out.size))
    have RW5 := Lib.hid (RW4.out.below b5 RW4.out.lt)
    have RX5 := Lib.hid (RX4.out.below b5 RX4.out.lt)
    have RG5 := Lib.hid (RG.out.below b5 RG.out.lt)
    clear b5 RW4 RX4 RG B4
    go_wp2_with fail
    refine (toTapS_any _ a0 n cap0 S (H0.out.stays B5.out (Nat.le_refl _)) l0).mono ?_
    rintro en w6 ⟨gy, rfl, hgy, r6, b6⟩
    have B6 := Lib.hid (B5.out.trans (b6.mono B5.out.size))
    have RW6 := Lib.hid (RW5.out.below b6 RW5.out.lt)
    have RX6 := Lib.hid (RX5.out.below b6 RX5.out.lt)
    have RG6 := Lib.hid (RG5.out.below b6 RG5.out.lt)
    have RY := Lib.hid r6
    clear b6 r6 RW5 RX5 RG5 B5
    go_wp2_with fail
    refine (eqTapS_any _ gx gy n _ _ _ _ _ RX6.out RY.out (Nat.le_refl _) (Nat.le_refl _) l0 (Nat.le_refl _) (Nat.le_refl _)).mono ?_
    rintro en w7 ⟨rfl, b7⟩
    have B7 := Lib.hid (B6.out.trans (b7.mono B6.out.size))
    have RW7 := Lib.hid (RW6.out.below b7 RW6.out.lt)
    have RX7 := Lib.hid (RX6.out.below b7 RX6.out.lt)
    have RG7 := Lib.hid (RG6.out.below b7 RG6.out.lt)
    clear b7 RW6 RX6 RG6 RY B6
    go_wp2_with fail
    refine (markT_any _ gx n _ _ w.heap.size _ RX7.out (Nat.le_refl _) l0 (Nat.le_refl _) hx0).mono ?_
    rintro en w8 ⟨rfl, r8, b8, k8⟩
    have B8 := Lib.hid (B7.out.trans b8)
    have RW8 := Lib.hid (RW7.out.block (k8 gw (by omega)))
    have RG8 := Lib.hid (RG7.out.block (k8 gg (by omega)))
    clear r8 b8 k8 RW7 RX7 RG7 B7
    go_wp2_with fail
    refine (eqTapS_any _ gg gw n _ _ _ _ _ RG8.out RW8.out hmg hmw l0 hcg hcw).mono ?_
    rintro en w9 ⟨rfl, b9⟩
    have B9 := Lib.hid (B8.out.trans (b9.mono B8.out.size))
    have RW9 := Lib.hid (RW8.out.below b9 RW8.out.lt)
    have RG9 := Lib.hid (RG8.out.below b9 RG8.out.lt)
    clear b9 RW8 RG8 B8
    go_wp2_with fail
    refine (markT_any _ gg n _ _ w.heap.size _ RG9.out hmg l0 hcg (by omega)).mono ?_
    rintro en w10 ⟨rfl, r10, b10, k10⟩
    have B10 := Lib.hid (B9.out.trans b10)
    have RW10 := Lib.hid (RW9.out.block (k10 gw (by omega)))
    have RG10 := Lib.hid r10
    clear r10 b10 k10 RW9 RG9 B9
    go_wp2_with fail
    refine (heldT_any _ gg n _ _ RG10.out hmg l0 hcg).mono ?_
    rintro en w11 ⟨rfl, rfl⟩
    go_wp2_with fail
    refine (toTapS_any _ a0 n cap0 S (H0.out.stays B10.out (Nat.le_refl _)) l0).mono ?_
    rintro en w12 ⟨gz, rfl, hgz, r12, b12⟩
    have B12 := Lib.hid (B10.out.trans (b12.mono B10.out.size))
    have RW12 := Lib.hid (RW10.out.below b12 RW10.out.lt)
    have RG12 := Lib.hid (RG10.out.below b12 RG10.out.lt)
    have RZ := Lib.hid r12
    clear b12 r12 RW10 RG10 B10
    go_wp2_with fail
    refine (implNext_any _ gz n _ _ S RZ.out (Nat.le_refl _) l0 (Nat.le_refl _)).mono ?_
    rintro en w13 ⟨gh, ch, mh, rfl, hgh, hch, hmh, r13, b13⟩
    have B13 := Lib.hid (B12.out.trans (b13.mono B12.out.size))
    have RW13 := Lib.hid (RW12.out.below b13 RW12.out.lt)
    have RG13 := Lib.hid (RG12.out.below b13 RG12.out.lt)
    have RH := Lib.hid r13
    clear b13 r13 RW12 RG12 RZ B12
    go_wp2_with fail
    refine (eqTapS_any _ gh gw n _ _ _ _ _ RH.out RW13.out hmh hmw l0 hch hcw).mono ?_
    rintro en w14 ⟨rfl, b14⟩
    have B14 := Lib.hid (B13.out.trans (b14.mono B13.out.size))
    have RG14 := Lib.hid (RG13.out.below b14 RG13.out.lt)
    clear b14 RW13 RG13 RH B13
    go_wp2_with fail
    refine (heldT_any _ gg n _ _ RG14.out hmg l0 hcg).mono ?_
    rintro en w15 ⟨rfl, rfl⟩
    go_wp2
    go_ret
    exact ⟨rfl, B14.out⟩
end Go.Proofs.Ytbcjgjdkapdihab.fnExactNextTaps
