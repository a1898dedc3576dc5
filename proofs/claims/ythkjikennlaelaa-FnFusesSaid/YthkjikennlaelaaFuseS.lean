/-
  Fuses in the reference: what one is behind some ticks; fuses held against one another. No theorem of a claim stands here.
-/
import Derived.Test.YthkjikennlaelaaFuseH
set_option linter.unusedVariables false
set_option linter.unusedSimpArgs false
set_option maxRecDepth 8000
namespace Go.Proofs.Ythkjikennlaelaa
open Go Go.RowKit Go.Deep Go.Proofs.Ythkjikennlaelaa.Fl

set_option maxHeartbeats 4000000 in
theorem l07Heat_any (h l c x t : Nat) (ll : l < 2 ^ 32) (lc : c < 2 ^ 32) (hc : amtB c = true) (hl : posB l = true) (w : World) : Calls Try.prog 66 #[UV h l c, .float .f32 x, .float .f32 t] w (RB7 (heatV h l c x t) w) := by
  have hst := fun (a : Addr) (v : Nat) (m : Mode) (w : World) => run_store Try.prog w a (.float .f32 v) m rfl
  have T := bx2 w [.float .f32 h, .float .f32 l, .float .f32 c] [.float .f32 0, .float .f32 0, .float .f32 0] 39 39
  have hadd := fun x y w => run_fov (P := Try.prog) .add rfl 28 .f32 x y w
  have hsub := fun x y w => run_fov (P := Try.prog) .sub rfl 28 .f32 x y w
  have hmul := fun x y w => run_fov (P := Try.prog) .mul rfl 28 .f32 x y w
  have Hc := Lib.hid (And.intro hc hl)
  clear hc hl
  unfold RB7 UV at *
  go_enter Try.func66, Try.ntmps66
  have P1 := Lib.hid T.1
  have P2 := Lib.hid T.2.1
  have PB := Lib.hid T.2.2
  clear T
  go_upto_region 1 with fail
  generalize ((w.alloc (.cells #[.float .f32 h, .float .f32 l, .float .f32 c] 39)).alloc (.cells #[.float .f32 0, .float .f32 0, .float .f32 0] 39)) = W at *
  have c0 := P1.out.cell 0 (by simp)
  have c2 := P1.out.cell 2 (by simp)
  simp only [List.getD_cons_zero, List.getD_cons_succ] at c0 c2
  go_upto_region 2 with fail
  go_cut [9] from 10 (fun s9 wx => ∃ q, s9 = .float .f32 q ∧ Hid (q < 2 ^ 32 ∧ vl .f32 q = warm h c x t ∧ RL wx w.heap.size 39 [.float .f32 h, .float .f32 l, .float .f32 c] ∧ RL wx (w.heap.size + 1) 39 [.float .f32 0, .float .f32 0, .float .f32 0] ∧ Below w.heap.size w wx))
  case first =>
    go_wp2_with fail
    go_meet
    case rel => exact ⟨_, rfl, Lib.hid ⟨fov_lt _ _ _ _ _, by simp only [vl_fov]; rfl, P1.out.drewN _, P2.out.drewN _, PB.out.trans ((below_drawn _ _).mono PB.out.size)⟩⟩
  case rest =>
  obtain ⟨q, rfl, hcut'⟩ := hcut
  have hql := hcut'.out.1
  have Hh := Lib.hid (heat_of hcut'.out.2.1)
  have P1 := Lib.hid hcut'.out.2.2.1
  have P2 := Lib.hid hcut'.out.2.2.2.1
  have PB := Lib.hid hcut'.out.2.2.2.2
  clear hcut' c0 c2 hadd hsub hmul
  generalize wc = W3 at *
  have c0 := P1.out.cell 0 (by simp)
  simp only [List.getD_cons_zero, List.getD_cons_succ] at c0
  have y0 := P1.out.frozen 0
  cases hlt : ltF .f32 q 0
  · have hlt' : (FloatKind.f32.format.order q 0 == some .lt) = false := hlt
    have Hf := Lib.hid (show flat0 q = q by unfold flat0; rw [hlt]; rfl)
    clear hlt
    have U1 := Lib.hid (show RL (W3.setCell ⟨w.heap.size, 0, none⟩ (.float .f32 q)) w.heap.size 39 [.float .f32 q, .float .f32 l, .float .f32 c] from P1.out.set 0 (.float .f32 q))
    have U2 := Lib.hid (P2.out.other (b := w.heap.size) (by omega) 0 (.float .f32 q))
    have UB := Lib.hid (PB.out.setCell (p := ⟨w.heap.size, 0, none⟩) (Nat.le_refl _) (.float .f32 q))
    have c0' := U1.out.cell 0 (by simp)
    have c1' := U1.out.cell 1 (by simp)
    have c2' := U1.out.cell 2 (by simp)
    simp only [List.getD_cons_zero, List.getD_cons_succ] at c0' c1' c2'
    clear P1 P2 PB
    go_wp2_with fail
    clear c0 y0 hlt'
    refine (l07Fuse_any q l c hql ll lc _ _ c0' c1' c2').mono ?_
    rintro en w4 ⟨m, rfl, rfl⟩
    have V1 := Lib.hid (U1.out.drewN m)
    have V2 := Lib.hid (U2.out.drewN m)
    have VB := Lib.hid (UB.out.trans ((below_drawn _ m).mono UB.out.size))
    generalize hW4 : World.drewN _ m = w4 at *
    clear U1 U2 UB c0' c1' c2' hW4
    have c0 := V1.out.cell 0 (by simp)
    have c1 := V1.out.cell 1 (by simp)
    have c2 := V1.out.cell 2 (by simp)
    have d0 := V2.out.cell 0 (by simp)
    have d1 := V2.out.cell 1 (by simp)
    have d2 := V2.out.cell 2 (by simp)
    simp only [List.set_cons_zero, List.set_cons_succ, List.getD_cons_zero, List.getD_cons_succ] at c0 c1 c2 d0 d1 d2
    have z0 := V2.out.frozen 0
    have z1 := V2.out.frozen 1
    have z2 := V2.out.frozen 2
    cases hv : amtB q
    · have hk : okU q l c = false := by unfold okU; rw [hv]; rfl
      have Hr := Lib.hid (show heatV h l c x t = noU by unfold heatV; rw [Hh.out, Hf.out, hv]; rfl)
      clear hv
      go_wp2_with fail
      have RR := ((V2.out.set 0 (.float .f32 0)).set 1 (.float .f32 0)).set 2 (.float .f32 0)
      have e0 := RR.cell 0 (by simp)
      have e1 := RR.cell 1 (by simp)
      have e2 := RR.cell 2 (by simp)
      simp only [List.set_cons_zero, List.set_cons_succ, List.getD_cons_zero, List.getD_cons_succ] at e0 e1 e2
      try simp only [Exit.inBlock, Exit.then]
      refine bodyPost_ret (by simp [results, Try.results66, go_sem, e0, e1, e2]; try rfl) rfl ?_
      exact ⟨by rw [Hr.out]; rfl, ((VB.out.setCell (by simp) _).setCell (by simp) _).setCell (by simp) _⟩
    · have hk : okU q l c = true := by unfold okU; rw [hv, Hc.out.1, Hc.out.2]; rfl
      have Hr := Lib.hid (show heatV h l c x t = .tuple #[UV q l c, .bool (geF .f32 q l), .bool true] by unfold heatV; rw [Hh.out, Hf.out, hv]; rfl)
      clear hv
      go_wp2_with fail
      go_region
      all_goals go_wp2_with fail
      all_goals
        have RR := ((V2.out.set 0 (.float .f32 q)).set 1 (.float .f32 l)).set 2 (.float .f32 c)
        have e0 := RR.cell 0 (by simp)
        have e1 := RR.cell 1 (by simp)
        have e2 := RR.cell 2 (by simp)
        simp only [List.set_cons_zero, List.set_cons_succ, List.getD_cons_zero, List.getD_cons_succ] at e0 e1 e2
        try simp only [Exit.inBlock, Exit.then]
        refine bodyPost_ret (by simp [results, Try.results66, go_sem, e0, e1, e2]; try rfl) rfl ?_
        have BB := ((VB.out.setCell (p := ⟨w.heap.size + 1, 0, none⟩) (by simp) (.float .f32 q)).setCell (p := ⟨w.heap.size + 1, 1, none⟩) (by simp) (.float .f32 l)).setCell (p := ⟨w.heap.size + 1, 2, none⟩) (by simp) (.float .f32 c)
        exact ⟨by rw [Hr.out]; rfl, BB.trans ((below_drawn _ 1).mono BB.size)⟩
  · have hlt' : (FloatKind.f32.format.order q 0 == some .lt) = true := hlt
    have Hf := Lib.hid (show flat0 q = 0 by unfold flat0; rw [hlt]; rfl)
    clear hlt
    have U1 := Lib.hid (show RL (W3.setCell ⟨w.heap.size, 0, none⟩ (.float .f32 0)) w.heap.size 39 [.float .f32 0, .float .f32 l, .float .f32 c] from P1.out.set 0 (.float .f32 0))
    have U2 := Lib.hid (P2.out.other (b := w.heap.size) (by omega) 0 (.float .f32 0))
    have UB := Lib.hid (PB.out.setCell (p := ⟨w.heap.size, 0, none⟩) (Nat.le_refl _) (.float .f32 0))
    have c0' := U1.out.cell 0 (by simp)
    have c1' := U1.out.cell 1 (by simp)
    have c2' := U1.out.cell 2 (by simp)
    simp only [List.getD_cons_zero, List.getD_cons_succ] at c0' c1' c2'
    clear P1 P2 PB
    go_wp2_with fail
    clear c0 y0 hlt'
    refine (l07Fuse_any 0 l c (by decide) ll lc _ _ c0' c1' c2').mono ?_
    rintro en w4 ⟨m, rfl, rfl⟩
    have V1 := Lib.hid (U1.out.drewN m)
    have V2 := Lib.hid (U2.out.drewN m)
    have VB := Lib.hid (UB.out.trans ((below_drawn _ m).mono UB.out.size))
    generalize hW4 : World.drewN _ m = w4 at *
    clear U1 U2 UB c0' c1' c2' hW4
    have c0 := V1.out.cell 0 (by simp)
    have c1 := V1.out.cell 1 (by simp)
    have c2 := V1.out.cell 2 (by simp)
    have d0 := V2.out.cell 0 (by simp)
    have d1 := V2.out.cell 1 (by simp)
    have d2 := V2.out.cell 2 (by simp)
    simp only [List.set_cons_zero, List.set_cons_succ, List.getD_cons_zero, List.getD_cons_succ] at c0 c1 c2 d0 d1 d2
    have z0 := V2.out.frozen 0
    have z1 := V2.out.frozen 1
    have z2 := V2.out.frozen 2
    cases hv : amtB 0
    · have hk : okU 0 l c = false := by unfold okU; rw [hv]; rfl
      have Hr := Lib.hid (show heatV h l c x t = noU by unfold heatV; rw [Hh.out, Hf.out, hv]; rfl)
      clear hv
      go_wp2_with fail
      have RR := ((V2.out.set 0 (.float .f32 0)).set 1 (.float .f32 0)).set 2 (.float .f32 0)
      have e0 := RR.cell 0 (by simp)
      have e1 := RR.cell 1 (by simp)
      have e2 := RR.cell 2 (by simp)
      simp only [List.set_cons_zero, List.set_cons_succ, List.getD_cons_zero, List.getD_cons_succ] at e0 e1 e2
      try simp only [Exit.inBlock, Exit.then]
      refine bodyPost_ret (by simp [results, Try.results66, go_sem, e0, e1, e2]; try rfl) rfl ?_
      exact ⟨by rw [Hr.out]; rfl, ((VB.out.setCell (by simp) _).setCell (by simp) _).setCell (by simp) _⟩
    · have hk : okU 0 l c = true := by unfold okU; rw [hv, Hc.out.1, Hc.out.2]; rfl
      have Hr := Lib.hid (show heatV h l c x t = .tuple #[UV 0 l c, .bool (geF .f32 0 l), .bool true] by unfold heatV; rw [Hh.out, Hf.out, hv]; rfl)
      clear hv
      go_wp2_with fail
      go_region
      all_goals go_wp2_with fail
      all_goals
        have RR := ((V2.out.set 0 (.float .f32 0)).set 1 (.float .f32 l)).set 2 (.float .f32 c)
        have e0 := RR.cell 0 (by simp)
        have e1 := RR.cell 1 (by simp)
        have e2 := RR.cell 2 (by simp)
        simp only [List.set_cons_zero, List.set_cons_succ, List.getD_cons_zero, List.getD_cons_succ] at e0 e1 e2
        try simp only [Exit.inBlock, Exit.then]
        refine bodyPost_ret (by simp [results, Try.results66, go_sem, e0, e1, e2]; try rfl) rfl ?_
        have BB := ((VB.out.setCell (p := ⟨w.heap.size + 1, 0, none⟩) (by simp) (.float .f32 0)).setCell (p := ⟨w.heap.size + 1, 1, none⟩) (by simp) (.float .f32 l)).setCell (p := ⟨w.heap.size + 1, 2, none⟩) (by simp) (.float .f32 c)
        exact ⟨by rw [Hr.out]; rfl, BB.trans ((below_drawn _ 1).mono BB.size)⟩
theorem heatV_form (h l c x t : Nat) (ll : l < 2 ^ 32) (lc : c < 2 ^ 32) : ∃ a b d p q, heatV h l c x t = .tuple #[.agg #[.float .f32 a, .float .f32 b, .float .f32 d], .bool p, .bool q] ∧ a < 2 ^ 32 ∧ b < 2 ^ 32 ∧ d < 2 ^ 32 := by
  unfold heatV
  cases hh : heat h c x t with
  | none => exact ⟨0, 0, 0, false, false, rfl, by decide, by decide, by decide⟩
  | some r => exact ⟨r, l, c, geF .f32 r l, true, rfl, (heat_some hh).2.1, ll, lc⟩
theorem heatR_form (h l c x t : Nat) (ll : l < 2 ^ 32) (lc : c < 2 ^ 32) : ∃ a b d p q, heatR h l c x t = .tuple #[.agg #[.float .f32 a, .float .f32 b, .float .f32 d], .bool p, .bool q] ∧ a < 2 ^ 32 ∧ b < 2 ^ 32 ∧ d < 2 ^ 32 := by
  unfold heatR
  split
  · exact heatV_form h l c x t ll lc
  · exact ⟨0, 0, 0, false, false, rfl, by decide, by decide, by decide⟩
set_option maxHeartbeats 4000000 in
theorem specHeat_any (h l c x t : Nat) (lh : h < 2 ^ 32) (ll : l < 2 ^ 32) (lc : c < 2 ^ 32) (lx : x < 2 ^ 32) (lt : t < 2 ^ 32) (w : World) : Calls Try.prog 40 #[UV h l c, .float .f32 x, .float .f32 t] w (RB7 (heatR h l c x t) w) := by
  have hst := fun (a : Addr) (v : Nat) (m : Mode) (w : World) => run_store Try.prog w a (.float .f32 v) m rfl
  have T := bx2 w [.float .f32 h, .float .f32 l, .float .f32 c] [.float .f32 0, .float .f32 0, .float .f32 0] 39 39
  have P1 := Lib.hid T.1
  have P2 := Lib.hid T.2.1
  have PB := Lib.hid T.2.2
  clear T
  have hL := fun (hc : amtB c = true) (hl : posB l = true) (w : World) => l07Heat_any h l c x t ll lc hc hl w
  unfold RB7 UV at *
  go_enter Try.func40, Try.ntmps40
  go_upto_region 1 with fail
  generalize ((w.alloc (.cells #[.float .f32 h, .float .f32 l, .float .f32 c] 39)).alloc (.cells #[.float .f32 0, .float .f32 0, .float .f32 0] 39)) = W at *
  have c0 := P1.out.cell 0 (by simp)
  have c1 := P1.out.cell 1 (by simp)
  have c2 := P1.out.cell 2 (by simp)
  have d0 := P2.out.cell 0 (by simp)
  have d1 := P2.out.cell 1 (by simp)
  have d2 := P2.out.cell 2 (by simp)
  simp only [List.getD_cons_zero, List.getD_cons_succ] at c0 c1 c2 d0 d1 d2
  have z0 := P2.out.frozen 0
  have z1 := P2.out.frozen 1
  have z2 := P2.out.frozen 2
  cases hb : okU h l c && amtB t
  · have He := Lib.hid (show heatR h l c x t = noU by unfold heatR; rw [hb]; rfl)
    have Hb := Lib.hid hb
    clear hb hL
    have fin : ∀ (k : Nat), Below w.heap.size w ((((W.drewN k).setCell ⟨w.heap.size + 1, 0, none⟩ (.float .f32 0)).setCell ⟨w.heap.size + 1, 1, none⟩ (.float .f32 0)).setCell ⟨w.heap.size + 1, 2, none⟩ (.float .f32 0)) := fun k =>
      (((PB.out.trans ((below_drawn W k).mono PB.out.size)).setCell (by simp) _).setCell (by simp) _).setCell (by simp) _
    have Fin := Lib.hid fin
    clear fin
    cases hok : okU h l c
    · have Hok := Lib.hid hok
      clear hok
      go_wp2_with (go_at_call 64; refine (l07Fuse_any h l c lh ll lc _ _ c0 c1 c2).mono ?_; rintro e w' ⟨m, rfl, rfl⟩; rw [Hok.out])
      have RR := (((P2.out.drewN m).set 0 (.float .f32 0)).set 1 (.float .f32 0)).set 2 (.float .f32 0)
      have e0 := RR.cell 0 (by simp)
      have e1 := RR.cell 1 (by simp)
      have e2 := RR.cell 2 (by simp)
      simp only [List.set_cons_zero, List.set_cons_succ, List.getD_cons_zero, List.getD_cons_succ] at e0 e1 e2
      try simp only [Exit.inBlock, Exit.then]
      refine bodyPost_ret (by simp [results, Try.results40, go_sem, e0, e1, e2]; try rfl) rfl ?_
      exact ⟨by rw [He.out]; rfl, Fin.out m⟩
    · have Hta := Lib.hid (show amtB t = false by have := Hb.out; rw [hok] at this; simpa using this)
      have Hok := Lib.hid hok
      clear hok
      go_wp2_with (first | (go_at_call 64; refine (l07Fuse_any h l c lh ll lc _ _ c0 c1 c2).mono ?_; rintro e w' ⟨m, rfl, rfl⟩; rw [Hok.out]) | (go_at_call 65; refine (l03Near_any _ lt _).mono ?_; rintro e w' ⟨m2, rfl, rfl⟩; rw [Hta.out]))
      have RR := (((P2.out.drewN (m + m2)).set 0 (.float .f32 0)).set 1 (.float .f32 0)).set 2 (.float .f32 0)
      have e0 := RR.cell 0 (by simp)
      have e1 := RR.cell 1 (by simp)
      have e2 := RR.cell 2 (by simp)
      simp only [List.set_cons_zero, List.set_cons_succ, List.getD_cons_zero, List.getD_cons_succ] at e0 e1 e2
      try simp only [Exit.inBlock, Exit.then]
      refine bodyPost_ret (by simp [results, Try.results40, go_sem, e0, e1, e2]; try rfl) rfl ?_
      exact ⟨by rw [He.out]; rfl, Fin.out _⟩
  · have He := Lib.hid (show heatR h l c x t = heatV h l c x t by unfold heatR; rw [hb]; rfl)
    simp only [Bool.and_eq_true] at hb
    have Hok := Lib.hid hb.1
    have Hta := Lib.hid hb.2
    have hlc : amtB c = true ∧ posB l = true := by have := hb.1; unfold okU at this; simp only [Bool.and_eq_true] at this; exact this.2
    have HL := Lib.hid (hL hlc.1 hlc.2)
    clear hb hL hlc
    obtain ⟨a, b, d, p, q, hF, la, lb, ld⟩ := heatV_form h l c x t ll lc
    rw [hF] at HL He
    clear hF
    go_wp2_with (first | (go_at_call 64; refine (l07Fuse_any h l c lh ll lc _ _ c0 c1 c2).mono ?_; rintro e w' ⟨m, rfl, rfl⟩; rw [Hok.out]) | (go_at_call 65; refine (l03Near_any _ lt _).mono ?_; rintro e w' ⟨m2, rfl, rfl⟩; rw [Hta.out]) | (go_at_call 66; fail))
    refine (HL.out _).mono ?_
    rintro en w4 ⟨rfl, hb4⟩
    have V2 := Lib.hid ((P2.out.drewN (m + m2)).below hb4 (P2.out.drewN (m + m2)).lt)
    have VB := Lib.hid ((PB.out.trans ((below_drawn W (m + m2)).mono PB.out.size)).trans (hb4.mono (PB.out.trans ((below_drawn W (m + m2)).mono PB.out.size)).size))
    clear P1 P2 PB c0 c1 c2 d0 d1 d2 z0 z1 z2 hb4 HL
    have d0 := V2.out.cell 0 (by simp)
    have d1 := V2.out.cell 1 (by simp)
    have d2 := V2.out.cell 2 (by simp)
    simp only [List.getD_cons_zero, List.getD_cons_succ] at d0 d1 d2
    have z0 := V2.out.frozen 0
    have z1 := V2.out.frozen 1
    have z2 := V2.out.frozen 2
    go_wp2_with fail
    have RR := ((V2.out.set 0 (.float .f32 a)).set 1 (.float .f32 b)).set 2 (.float .f32 d)
    have e0 := RR.cell 0 (by simp)
    have e1 := RR.cell 1 (by simp)
    have e2 := RR.cell 2 (by simp)
    simp only [List.set_cons_zero, List.set_cons_succ, List.getD_cons_zero, List.getD_cons_succ] at e0 e1 e2
    try simp only [Exit.inBlock, Exit.then]
    refine bodyPost_ret (by simp [results, Try.results40, go_sem, e0, e1, e2]; try rfl) rfl ?_
    exact ⟨by rw [He.out], ((VB.out.setCell (by simp) _).setCell (by simp) _).setCell (by simp) _⟩
set_option maxHeartbeats 4000000 in
theorem eqU_any (a b d : Nat) (w : World) : Calls Try.prog 41 #[.agg #[.float .f32 a, .float .f32 b, .float .f32 d], .agg #[.float .f32 a, .float .f32 b, .float .f32 d]] w (RB7 (.bool true) w) := by
  have T := bx2 w [.float .f32 a, .float .f32 b, .float .f32 d] [.float .f32 a, .float .f32 b, .float .f32 d] 39 39
  have c0 := T.1.cell 0 (by simp)
  have c1 := T.1.cell 1 (by simp)
  have c2 := T.1.cell 2 (by simp)
  have d0 := T.2.1.cell 0 (by simp)
  have d1 := T.2.1.cell 1 (by simp)
  have d2 := T.2.1.cell 2 (by simp)
  simp only [List.getD_cons_zero, List.getD_cons_succ] at c0 c1 c2 d0 d1 d2
  have TB := Lib.hid T.2.2
  clear T
  have hcv := run_cv
  go_enter Try.func41, Try.ntmps41
  go_upto_region 1 with fail
  generalize ((w.alloc (.cells #[.float .f32 a, .float .f32 b, .float .f32 d] 39)).alloc (.cells #[.float .f32 a, .float .f32 b, .float .f32 d] 39)) = W at *
  go_wp2_with (go_at_call 33; refine (sameFloat_any _ _ (same_cvv _ _ _) _).mono ?_; rintro e w' ⟨m, rfl, rfl⟩)
  go_ret
  exact ⟨rfl, TB.out.trans ((below_drawn W _).mono TB.out.size)⟩
end Go.Proofs.Ythkjikennlaelaa
