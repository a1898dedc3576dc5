/-
  The walk of the law on the time at a current.
-/
import Derived.Test.YthkjikennlaelaaCurL
import Derived.Test.YthkjikennlaelaaCurW
set_option linter.unusedVariables false
set_option linter.unusedSimpArgs false
set_option maxRecDepth 8000
namespace Go.Proofs.Ythkjikennlaelaa.fnExactTimeAt
open Go Go.RowKit Go.Deep Go.Proofs.Ythkjikennlaelaa.Fl Go.Proofs.Ythkjikennlaelaa

set_option maxHeartbeats 4000000 in
theorem walk (a : Option Addr) (n c : Nat) (C : List Nat) (b : Option Addr) (m e : Nat) (T : List Nat) (x : Nat) (w : World) (ha : FRd w a n c C) (hb : FRd w b m e T) (hn : n ≤ 9223372036854775807) (hm : m ≤ 9223372036854775807) (lx : x < 2 ^ 32) :
    Calls Try.prog 7 #[.agg #[.slice a n c, .slice b m e], .float .f32 x] w fun en w' => en = .returned (.bool true) ∧ Below w.heap.size w w' := by
  have K := bx1 w [.slice a n c, .slice b m e] 45
  have hZ := fun w : World => szC_any a n c b m e 1048576 w hn hm ⟨by omega, by omega⟩
  have hC : C.length = n := ha.1
  have hT : T.length = m := hb.1
  have HlC := Lib.hid ha.2.2.2
  have HlT := Lib.hid hb.2.2.2
  have Ha := Lib.hid ha
  have Hb := Lib.hid hb
  clear ha hb
  unfold RB7 CV at hZ
  go_enter Try.func7, Try.ntmps7
  go_upto_region 1 with fail
  generalize (w.alloc (.cells [Value.slice a n c, .slice b m e].toArray 45)) = W at *
  have K0 := Lib.hid K.1
  have B0 := Lib.hid K.2
  clear K
  have q0 := K0.out.cell 0 (by simp)
  have q1 := K0.out.cell 1 (by simp)
  simp only [List.getD_cons_zero, List.getD_cons_succ] at q0 q1
  go_wp2_with fail
  refine (hZ _).mono ?_
  rintro en w1 ⟨rfl, hb1⟩
  have K1 := Lib.hid (K0.out.below hb1 K0.out.lt)
  have B1 := Lib.hid (B0.out.trans (hb1.mono B0.out.size))
  clear hb1 K0 B0 q0 q1 hZ
  have q0 := K1.out.cell 0 (by simp)
  have q1 := K1.out.cell 1 (by simp)
  simp only [List.getD_cons_zero, List.getD_cons_succ] at q0 q1
  by_cases hz : szI n m 1048576 < 0
  · go_wp2_with fail
    go_ret
    exact ⟨rfl, B1.out⟩
  · obtain ⟨hs, _⟩ := szI_pos hz
    have hn' : n ≤ 1048576 := by omega
    have hm' : m ≤ 1048576 := by omega
    have HT := Lib.hid (fun (w' : World) (hB : Below w.heap.size w w') => (toC_any a n c C b m e T w' (Ha.out.stays hB (Nat.le_refl _)) (Hb.out.stays hB (Nat.le_refl _)) hn' hm').mono fun en w'' h => h.out hC hT HlC.out HlT.out)
    have Hn := Lib.hid (And.intro hn' hm')
    unfold CV at HT
    clear hs hn hm hn' hm' hC hT HlC HlT
    go_wp2_with fail
    refine (HT.out _ B1.out).mono ?_
    rintro en w2 ⟨g2, rfl, hg2, hs2, hF2, hG2, hb2⟩
    have K2 := Lib.hid (K1.out.below hb2 K1.out.lt)
    have B2 := Lib.hid (B1.out.trans (hb2.mono B1.out.size))
    have F2 := Lib.hid (And.intro hF2 hG2)
    clear hF2 hG2 hb2 K1 B1 q0 q1 hs2 hg2
    have hS := specTime_any _ n n C _ m m T x w2 F2.out.1 F2.out.2
    unfold CV TimeP at hS
    go_wp2_with fail
    refine hS.mono ?_
    rintro en w3 ⟨r3, rfl, hr3, hv3, hb3⟩
    have HV3 := Lib.hid hv3
    clear hv3
    have K3 := Lib.hid (K2.out.below hb3 K2.out.lt)
    have B3 := Lib.hid (B2.out.trans (hb3.mono B2.out.size))
    clear hS hb3 K2 B2 F2
    have q0 := K3.out.cell 0 (by simp)
    have q1 := K3.out.cell 1 (by simp)
    simp only [List.getD_cons_zero, List.getD_cons_succ] at q0 q1
    go_wp2_with fail
    refine (HT.out _ B3.out).mono ?_
    rintro en w4 ⟨g4, rfl, hg4, hs4, hF4, hG4, hb4⟩
    have K4 := Lib.hid (K3.out.below hb4 K3.out.lt)
    have B4 := Lib.hid (B3.out.trans (hb4.mono B3.out.size))
    have F4 := Lib.hid (And.intro hF4 hG4)
    clear hF4 hG4 hb4 K3 B3 q0 q1 hs4 hg4
    go_upto_region 7 with fail
    have aw := (Below.refl w4.heap.size w4).alloc (Nat.le_refl _) (.cells [Value.slice (some ⟨g4, 0, none⟩) n n, .slice (some ⟨g4 + 1, 0, none⟩) m m].toArray 26)
    have K5 := Lib.hid (K4.out.below aw K4.out.lt)
    have B5 := Lib.hid (B4.out.trans (aw.mono B4.out.size))
    have F5 := Lib.hid (And.intro (F4.out.1.stays aw (Nat.le_refl _)) (F4.out.2.stays aw (Nat.le_refl _)))
    have N5 := Lib.hid (RL.new w4 [Value.slice (some ⟨g4, 0, none⟩) n n, .slice (some ⟨g4 + 1, 0, none⟩) m m] 26)
    clear K4 B4 F4 aw
    generalize hG : w4.heap.size = G at *
    generalize (w4.alloc (.cells [Value.slice (some ⟨g4, 0, none⟩) n n, .slice (some ⟨g4 + 1, 0, none⟩) m m].toArray 26)) = W5 at *
    have n0 := N5.out.cell 0 (by simp)
    have n1 := N5.out.cell 1 (by simp)
    simp only [List.getD_cons_zero, List.getD_cons_succ] at n0 n1
    have hI := implTime_any _ n n C _ m m T x W5 F5.out.1 F5.out.2
    unfold CV TimeP at hI
    go_wp2_with fail
    refine hI.mono ?_
    rintro en w6 ⟨r6, rfl, hr6, hv6, hb6⟩
    have HV6 := Lib.hid hv6
    clear hv6
    have K6 := Lib.hid (K5.out.below hb6 K5.out.lt)
    have B6 := Lib.hid (B5.out.trans (hb6.mono B5.out.size))
    have F6 := Lib.hid (And.intro (F5.out.1.stays hb6 (Nat.le_refl _)) (F5.out.2.stays hb6 (Nat.le_refl _)))
    have N6 := Lib.hid (N5.out.below hb6 N5.out.lt)
    clear hI hb6 K5 B5 F5 N5 n0 n1
    have hrr : ((timeR C T x).isSome != (timeR C T x).isSome) = false := by simp
    have hcv := run_cv
    go_upto_region 8 with fail
    go_wp2_with (go_at_call 33; refine (sameFloat_any _ _ (by rw [vl_cvv, vl_cvv, HV3.out, HV6.out]) _).mono ?_; rintro ee w' ⟨m8, rfl, rfl⟩)
    have K9 := Lib.hid (K6.out.drewN (cvn r6 + cvn r3 + m8))
    have B9 := Lib.hid (B6.out.trans ((below_drawn w6 (cvn r6 + cvn r3 + m8)).mono B6.out.size))
    have F9 := Lib.hid (And.intro (F6.out.1.stays (below_drawn w6 (cvn r6 + cvn r3 + m8)) (Nat.le_refl _)) (F6.out.2.stays (below_drawn w6 (cvn r6 + cvn r3 + m8)) (Nat.le_refl _)))
    have N9 := Lib.hid (N6.out.drewN (cvn r6 + cvn r3 + m8))
    clear K6 B6 F6 N6 HV3 HV6 hcv hrr
    generalize w6.drewN (cvn r6 + cvn r3 + m8) = w9 at *
    have q0 := K9.out.cell 0 (by simp)
    have q1 := K9.out.cell 1 (by simp)
    have n0 := N9.out.cell 0 (by simp)
    have n1 := N9.out.cell 1 (by simp)
    simp only [List.getD_cons_zero, List.getD_cons_succ] at q0 q1 n0 n1
    have aw := below_drawn w9 1
    have HE := Lib.hid (fun (w' : World) (g : Nat) (hB : Below w9.heap.size w9 w') (h1 : FRd w' (some ⟨g, 0, none⟩) n n C) (h2 : FRd w' (some ⟨g + 1, 0, none⟩) m m T) => eqC_any (some ⟨g4, 0, none⟩) (some ⟨g, 0, none⟩) n n n C (some ⟨g4 + 1, 0, none⟩) (some ⟨g + 1, 0, none⟩) m m m T w' (F9.out.1.stays hB (Nat.le_refl _)) h1 (F9.out.2.stays hB (Nat.le_refl _)) h2 Hn.out.1 Hn.out.2)
    unfold CV RB7 at HE
    have Aw := Lib.hid aw
    clear aw
    go_region_with (first
      | (go_at_call 29
         refine (HT.out _ (B9.out.trans ((below_drawn w9 1).mono B9.out.size))).mono ?_
         rintro en w7 ⟨g7, rfl, hg7, hs7, hF7, hG7, hb7⟩
         have N7 := (show RL w9.drew G 26 [Value.slice (some ⟨g4, 0, none⟩) n n, .slice (some ⟨g4 + 1, 0, none⟩) m m] from N9.out.drewN 1).below hb7 (show G < w9.drew.heap.size from N9.out.lt)
         have p0 := N7.cell 0 (by simp)
         have p1 := N7.cell 1 (by simp)
         simp only [List.getD_cons_zero, List.getD_cons_succ] at p0 p1
         have HX := Lib.hid (And.intro hF7 (And.intro hG7 hb7))
         clear hF7 hG7 hb7 N7)
      | (go_at_call 30
         refine (HE.out _ _ ((below_drawn w9 1).trans HX.out.2.2) HX.out.1 HX.out.2.1).mono ?_
         rintro en w8 ⟨rfl, hb8⟩
         have B8 := Lib.hid ((B9.out.trans ((below_drawn w9 1).mono B9.out.size)).trans ((HX.out.2.2.trans (hb8.mono HX.out.2.2.size)).mono (B9.out.trans ((below_drawn w9 1).mono B9.out.size)).size))
         clear hb8))
    all_goals go_wp2_with fail
    all_goals go_ret
    all_goals exact ⟨rfl, B8.out⟩
end Go.Proofs.Ythkjikennlaelaa.fnExactTimeAt
