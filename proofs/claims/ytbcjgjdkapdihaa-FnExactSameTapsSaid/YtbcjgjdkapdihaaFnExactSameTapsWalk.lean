/-
  The walk of the law on lists of taps that are the same.
-/
import Derived.Test.YtbcjgjdkapdihaaTapE
set_option linter.unusedVariables false
set_option linter.unusedSimpArgs false
set_option maxRecDepth 8000
namespace Go.Proofs.Ytbcjgjdkapdihaa.fnExactSameTaps
open Go Go.RowKit Go.Deep Go.Proofs.Ytbcjgjdkapdihaa.Fl Go.Proofs.Ytbcjgjdkapdihaa

theorem TRd.few {w : World} {a : Option Addr} {len cap : Nat} {S : Nat → TapN} (h : TRd w a len cap S) : len ≤ 9223372036854775807 := by
  obtain ⟨h1, h2, _⟩ := h
  unfold maxLen at h2
  omega
set_option maxHeartbeats 4000000 in
theorem walk (a0 : Option Addr) (len0 cap0 : Nat) (S : Nat → TapN) (a1 : Option Addr) (len1 cap1 : Nat) (U : Nat → TapN) (w : World) (h0 : TRd w a0 len0 cap0 S) (h1 : TRd w a1 len1 cap1 U) :
    Calls Try.prog 10 #[.slice a0 len0 cap0, .slice a1 len1 cap1] w fun en w' => en = .returned (.bool true) ∧ Below w.heap.size w w' := by
  have f0 := TRd.few h0
  have f1 := TRd.few h1
  have H0 := Lib.hid h0
  have H1 := Lib.hid h1
  clear h0 h1
  have hZ0 := fun w : World => sz_any w a0 len0 cap0 1048576 f0 (by omega)
  by_cases c0 : (1048576 : Int) - len0 < 0
  · rw [if_pos c0] at hZ0
    go_enter Try.func10, Try.ntmps10
    go_wp2_with (go_at_call 68; refine (hZ0 _).mono ?_; clear hZ0; rintro en w1 ⟨rfl, rfl⟩)
    go_ret
    exact ⟨rfl, Below.refl _ _⟩
  · rw [if_neg c0] at hZ0
    have hZ1 := fun w : World => sz_any w a1 len1 cap1 (1048576 - len0) f1 (by omega)
    by_cases c1 : (1048576 : Int) - len0 - len1 < 0
    · rw [if_pos c1] at hZ1
      go_enter Try.func10, Try.ntmps10
      go_wp2_with (first | (have h_ := hZ0; clear h_; go_at_call 68; refine (hZ0 _).mono ?_; clear hZ0; rintro en w1 ⟨rfl, rfl⟩) | (go_at_call 68; refine (hZ1 _).mono ?_; clear hZ1; rintro en w1 ⟨rfl, rfl⟩))
      go_ret
      exact ⟨rfl, Below.refl _ _⟩
    · rw [if_neg c1] at hZ1
      have l0 : len0 ≤ 1048576 := by omega
      have l1 : len1 ≤ 1048576 := by omega
      have e0 := Lib.hid (fun k (hk : k < len0) => (H0.out.2.2 k hk).choose_spec.choose_spec.2.2.1)
      have e1 := Lib.hid (fun k (hk : k < len1) => (H1.out.2.2 k hk).choose_spec.choose_spec.2.2.1)
      go_enter Try.func10, Try.ntmps10
      go_wp2_with (first | (have h_ := hZ0; clear h_; go_at_call 68; refine (hZ0 _).mono ?_; clear hZ0; rintro en w1 ⟨rfl, rfl⟩) | (go_at_call 68; refine (hZ1 _).mono ?_; clear hZ1; rintro en w1 ⟨rfl, rfl⟩))
      refine (toTapS_any _ a0 len0 cap0 S H0.out l0).mono ?_
      rintro en w1 ⟨g1, rfl, hg1, r1, b1⟩
      have B1 := Lib.hid b1
      have R1 := Lib.hid r1
      clear b1 r1
      go_wp2_with fail
      refine (toTapS_any _ a1 len1 cap1 U (H1.out.stays B1.out (Nat.le_refl _)) l1).mono ?_
      rintro en w2 ⟨g2, rfl, hg2, r2, b2⟩
      have B2 := Lib.hid (B1.out.trans (b2.mono B1.out.size))
      have R1' := Lib.hid (R1.out.below b2 R1.out.lt)
      have R2 := Lib.hid r2
      clear b2 r2 R1
      go_wp2_with fail
      refine (specSameTaps_any _ g1 g2 len0 len1 _ _ _ _ S U R1'.out R2.out e0.out e1.out (Nat.le_refl _) (Nat.le_refl _) l0 l1 (Nat.le_refl _) (Nat.le_refl _)).mono ?_
      rintro en w3 ⟨rfl, b3⟩
      have B3 := Lib.hid (B2.out.trans (b3.mono B2.out.size))
      clear b3 R1' R2 B2
      go_wp2_with fail
      refine (toTapS_any _ a0 len0 cap0 S (H0.out.stays B3.out (Nat.le_refl _)) l0).mono ?_
      rintro en w4 ⟨g4, rfl, hg4, r4, b4⟩
      have B4 := Lib.hid (B3.out.trans (b4.mono B3.out.size))
      have R4 := Lib.hid r4
      clear b4 r4 B3
      go_wp2_with fail
      refine (toTapS_any _ a1 len1 cap1 U (H1.out.stays B4.out (Nat.le_refl _)) l1).mono ?_
      rintro en w5 ⟨g5, rfl, hg5, r5, b5⟩
      have B5 := Lib.hid (B4.out.trans (b5.mono B4.out.size))
      have R45 := Lib.hid (R4.out.below b5 R4.out.lt)
      have R5 := Lib.hid r5
      clear b5 r5 R4 B4
      go_wp2_with fail
      refine (implSameTaps_any _ g4 g5 len0 len1 _ _ _ _ S U R45.out R5.out e0.out e1.out (Nat.le_refl _) (Nat.le_refl _) l0 l1 (Nat.le_refl _) (Nat.le_refl _)).mono ?_
      rintro en w6 ⟨rfl, b6⟩
      have B6 := Lib.hid (B5.out.trans (b6.mono B5.out.size))
      have R46 := Lib.hid (R45.out.below b6 R45.out.lt)
      have R56 := Lib.hid (R5.out.below b6 R5.out.lt)
      clear b6 R45 R5 B5
      have hrr : ((len0 == len1 && sameAll S U len0) != (len0 == len1 && sameAll S U len0)) = false := by simp
      generalize (len0 == len1 && sameAll S U len0) = r at *
      go_wp2_with fail
      refine (toTapS_any _ a0 len0 cap0 S (H0.out.stays B6.out (Nat.le_refl _)) l0).mono ?_
      rintro en w7 ⟨g7, rfl, hg7, r7, b7⟩
      have B7 := Lib.hid (B6.out.trans (b7.mono B6.out.size))
      have R47 := Lib.hid (R46.out.below b7 R46.out.lt)
      have R57 := Lib.hid (R56.out.below b7 R56.out.lt)
      have R7 := Lib.hid r7
      clear b7 r7 R46 R56 B6
      go_wp2_with fail
      refine (eqTapS_any _ g4 g7 len0 _ _ _ _ S R47.out R7.out (Nat.le_refl _) (Nat.le_refl _) l0 (Nat.le_refl _) (Nat.le_refl _)).mono ?_
      rintro en w8 ⟨rfl, b8⟩
      have B8 := Lib.hid (B7.out.trans (b8.mono B7.out.size))
      have R58 := Lib.hid (R57.out.below b8 R57.out.lt)
      clear b8 R47 R57 R7 B7
      go_wp2_with fail
      refine (toTapS_any _ a1 len1 cap1 U (H1.out.stays B8.out (Nat.le_refl _)) l1).mono ?_
      rintro en w9 ⟨g9, rfl, hg9, r9, b9⟩
      have B9 := Lib.hid (B8.out.trans (b9.mono B8.out.size))
      have R59 := Lib.hid (R58.out.below b9 R58.out.lt)
      have R9 := Lib.hid r9
      clear b9 r9 R58 B8
      go_wp2_with fail
      refine (eqTapS_any _ g5 g9 len1 _ _ _ _ U R59.out R9.out (Nat.le_refl _) (Nat.le_refl _) l1 (Nat.le_refl _) (Nat.le_refl _)).mono ?_
      rintro en w10 ⟨rfl, b10⟩
      have B10 := Lib.hid (B9.out.trans (b10.mono B9.out.size))
      clear b10
      go_wp2
      go_ret
      exact ⟨rfl, B10.out⟩
end Go.Proofs.Ytbcjgjdkapdihaa.fnExactSameTaps
