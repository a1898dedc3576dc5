/-
  Phasors: the walk in the program. No theorem of a claim stands here.
-/
import Derived.Test.YtljclagfplildaaPhas
import Derived.Deep.DeepCutAuto
set_option linter.unusedVariables false
namespace Go.Proofs.Ytljclagfplildaa.Fl
open Go Go.RowKit

set_option maxHeartbeats 1000000 in
theorem phasorOf_any (b : Nat) (hb : b < 2 ^ 64) (w : World) : Calls Try.prog 12 #[.float .f64 b] w (CRet .f32 (PhOf b) w) := by
  cases hfin : fin .f64 (vl .f64 b)
  · have Hf := Lib.hid hfin
    clear hfin
    go_enter Try.func12, Try.ntmps12
    go_wp2_with (first | (go_at_call 72; refine (isFiniteWide_any _ hb _).mono ?_; rintro e w' ⟨m, rfl, rfl⟩; rw [Hf.out]) | (go_at_call 74; refine (nan_any _).mono ?_; rintro e w' ⟨m1, rfl, rfl⟩) | (go_at_call 73; refine (narrowC_any _ _ (by decide) (by decide) (by rw [nan64]; rfl) (by rw [nan64]; rfl) _).mono ?_; rintro e w' ⟨q3, q4, m3, rfl, ⟨hq3, hq4⟩, l3, l4, rfl⟩; have Hq3 := Lib.hid hq3; have Hq4 := Lib.hid hq4; clear hq3 hq4))
    go_ret
    exact ⟨q3, q4, _, rfl, ph_not Hf.out (by rw [Hq3.out, nan64]; rfl) (by rw [Hq4.out, nan64]; rfl), l3, l4, rfl⟩
  · have hr := fin_iff.1 hfin
    obtain ⟨_, _, t3⟩ := lim_tests hr
    have Hf := Lib.hid hfin
    by_cases hs : rung .f64 b < (52 + 1023) * 4503599627370496
    · have hd : decide ((52 + 1023) * 4503599627370496 ≤ rung .f64 b) = false := by simp; omega
      rw [hd] at t3
      clear hd hr hfin
      have hbd := turn_bd hs
      have hsm := turn_some hs
      go_enter Try.func12, Try.ntmps12
      go_wp2_with (first | (go_at_call 72; refine (isFiniteWide_any _ hb _).mono ?_; rintro e w' ⟨m, rfl, rfl⟩; rw [Hf.out]) | (go_at_call 75; refine (abs_any _ hb _).mono ?_; rintro e w' ⟨m1, rfl, rfl⟩) | (go_at_call 76; refine (turnFraction_any _ hs _).mono ?_; rintro e w' ⟨r0, n0, rfl, hv0, hr0, rfl⟩; have V0 := Lib.hid hv0; clear hv0))
      go_loopw [3, 4] (fun f q wr => ∃ n r k : Nat, n ≤ 8 ∧ f = .float .f64 r ∧ q = .int .i64 n ∧ r < 2 ^ 64 ∧ Hid (vl .f64 r = itQ n (turnV b)) ∧ Hid (∀ i, i < n → geB (itQ i (turnV b)) (vl .f64 quarter64) = true) ∧ wr = w.drewN k) (fun _ q _ => 9 - (intOf q).toNat)
      case atStart => exact ⟨0, r0, _, by omega, rfl, rfl, hr0, V0, Lib.hid (fun i hi => absurd hi (Nat.not_lt_zero i)), by first | rfl | (rw [World.drewN_drewN])⟩
      case round =>
        obtain ⟨n, r, k, hn, rfl, rfl, hr, V, Hall, rfl⟩ := hrel
        have Hge := Lib.hid (show (FloatKind.f64.format.order r 4598175219545276416 == some .gt || FloatKind.f64.format.order r 4598175219545276416 == some .eq) = geB (itQ n (turnV b)) (vl .f64 quarter64) from ge_of quarter64 V.out)
        obtain ⟨hr1, hr2⟩ := q_small hbd hsm Hall.out V.out
        have Hs1 := Lib.hid (show ∀ q, vl .f64 q = fop .sub .f64 (vl .f64 quarter64) (vl .f64 r) → sineV (turnV q) = cQ (turnV b) n from fun q hq => by
          rw [← sineW_small (hr2 q hq)]; unfold cQ; exact sineW_vl (by rw [hq, V.out]))
        have Hs2 := Lib.hid (show sineV (turnV r) = sQ (turnV b) n from by
          rw [← sineW_small hr1]; unfold sQ; exact sineW_vl V.out)
        have Hr2 := Lib.hid hr2
        clear hr2
        go_wp2_with (first | (refine wpList_fop (o := ⟨some 20, _, _, _, _, _⟩) (by rfl) _ _ _ _ _ (by rfl) (by rfl) _ _ _ (by rfl) (by rfl) ?_; intro f1 f2 f3 f4) | (refine wpList_fop (o := ⟨some 25, _, _, _, _, _⟩) (by rfl) _ _ _ _ _ (by rfl) (by rfl) _ _ _ (by rfl) (by rfl) ?_; intro g1 g2 g3 g4; have hg5 := Hr2.out g1 g4.out; have Hs3 := Lib.hid (Hs1.out g1 g4.out)) | (have h_ := Hq1; clear h_; go_at_call 78; refine (sineOf_any r hr1 _).mono ?_; rintro e w' ⟨q2, m2, rfl, hq2, l2, rfl⟩; have Hq2 := Lib.hid hq2; clear hq2) | (go_at_call 78; refine (sineOf_any g1 hg5 _).mono ?_; rintro e w' ⟨q1, m1, rfl, hq1, l1, rfl⟩; have Hq1 := Lib.hid hq1; clear hq1) | (go_at_call 77; refine (quarterPoint_any n hn _ _ l1 l2 _).mono ?_; rintro e w' ⟨p1, p2, m3, rfl, ⟨hp1, hp2⟩, l3, l4, rfl⟩; rw [Hq1.out, Hq2.out, Hs3.out, Hs2.out] at hp1 hp2; have Hp1 := Lib.hid hp1; have Hp2 := Lib.hid hp2; clear hp1 hp2) | (go_at_call 73; refine (narrowC_any _ _ l3 l4 (by rw [Hp1.out]; exact reP_over n (sineW_bd _) (sineW_bd _)) (by rw [Hp2.out]; exact imP_over n (sineW_bd _) (sineW_bd _)) _).mono ?_; rintro e w' ⟨q3, q4, m4, rfl, ⟨hq3, hq4⟩, l5, l6, rfl⟩; have Hq3 := Lib.hid hq3; have Hq4 := Lib.hid hq4; clear hq3 hq4))
        · have hc : geB (itQ n (turnV b)) (vl .f64 quarter64) = true := by rw [← Hge.out, Bool.or_eq_true]; assumption
          have hlt := itQ_lt hbd Hall.out hc
          have Hall2 := Lib.hid (show ∀ i, i < n + 1 → geB (itQ i (turnV b)) (vl .f64 quarter64) = true from fun i hi => by
            rcases (by omega : i < n ∨ i = n) with h | rfl
            · exact Hall.out i h
            · exact hc)
          go_roundw
          case rel => exact ⟨n + 1, _, _, by omega, rfl, by go_num, f3, Lib.hid (by rw [f4.out, V.out]; rfl), Hall2, by first | rfl | (rw [World.drewN_drewN])⟩
          case measure => simp only [intOf]; omega
        · have hc : geB (itQ n (turnV b)) (vl .f64 quarter64) = false := by rw [← Hge.out, Bool.or_eq_false_iff]; assumption
          go_ret
          exact ⟨q3, q4, _, rfl, ph_at hs ⟨Hall.out, hc⟩ (by rw [Hq3.out, Hp1.out]) (by rw [Hq4.out, Hp2.out]), l5, l6, rfl⟩
    · have hd : decide ((52 + 1023) * 4503599627370496 ≤ rung .f64 b) = true := by simp; omega
      rw [hd] at t3
      have Hp := Lib.hid (ph_big hfin hs)
      clear hfin hr hd hs
      go_enter Try.func12, Try.ntmps12
      go_wp2_with (first | (go_at_call 72; refine (isFiniteWide_any _ hb _).mono ?_; rintro e w' ⟨m, rfl, rfl⟩; rw [Hf.out]) | (go_at_call 75; refine (abs_any _ hb _).mono ?_; rintro e w' ⟨m1, rfl, rfl⟩))
      go_ret
      exact ⟨_, _, _, rfl, Hp.out, by decide, by decide, rfl⟩
end Go.Proofs.Ytljclagfplildaa.Fl
