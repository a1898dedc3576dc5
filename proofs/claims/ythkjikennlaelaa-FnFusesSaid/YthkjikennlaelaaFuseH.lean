/-
  Fuses in the program: what one is behind some ticks. No theorem of a claim stands here.
-/
import Derived.Test.YthkjikennlaelaaFuseQ
import Derived.Deep.Cut
import Derived.Deep.CutRange
import Derived.Deep.RegionWith
set_option linter.unusedVariables false
set_option linter.unusedSimpArgs false
set_option maxRecDepth 8000
namespace Go.Proofs.Ythkjikennlaelaa
open Go Go.RowKit Go.Deep Go.Proofs.Ythkjikennlaelaa.Fl

/-- No fuse. -/
def noU : Value := .tuple #[.agg #[.float .f32 0, .float .f32 0, .float .f32 0], .bool false, .bool false]
def heatR (h l c x t : Nat) : Value := if okU h l c && amtB t then heatV h l c x t else noU
theorem heat_of {h c x t r : Nat} (hv : vl .f32 r = warm h c x t) : heat h c x t = if amtB (flat0 r) then some (flat0 r) else none := by
  unfold heat
  cases hw : warm h c x t with
  | some q =>
    rw [hw] at hv
    obtain rfl := vl_some hv
    rfl
  | none =>
    rw [hw] at hv
    have h1 : flat0 r = r := by unfold flat0; rw [ltF_nan (.inl hv)]; rfl
    have h2 : amtB r = false := by unfold amtB; rw [hv]; rfl
    rw [h1, h2]; rfl
theorem flat0_lt {r : Nat} (h : r < 2 ^ 32) : flat0 r < 2 ^ 32 := by unfold flat0; split <;> omega
/-- The two boxes of HeatFuse: the fuse, its heat being v, and the result. -/
def HSt (w wr : World) (l c : Nat) (v : Option Nat) : Prop := ∃ r, vl .f32 r = v ∧ r < 2 ^ 32 ∧ RL wr w.heap.size 39 [.float .f32 r, .float .f32 l, .float .f32 c] ∧
  RL wr (w.heap.size + 1) 39 [.float .f32 0, .float .f32 0, .float .f32 0] ∧ Below w.heap.size w wr
theorem fdv {x y : Option Nat} {a b : Nat} (op : BinOp) (w : World) (h1 : vl .f32 a = x) (h2 : vl .f32 b = y) : vl .f32 (fov op .f32 a b w) = fop op .f32 x y := by rw [vl_fov, h1, h2]
set_option maxHeartbeats 4000000 in
theorem implHeat_any (h l c x t : Nat) (lh : h < 2 ^ 32) (ll : l < 2 ^ 32) (lc : c < 2 ^ 32) (lx : x < 2 ^ 32) (lt : t < 2 ^ 32) (w : World) : Calls Try.prog 26 #[UV h l c, .float .f32 x, .float .f32 t] w (RB7 (heatR h l c x t) w) := by
  have hst := fun (a : Addr) (v : Nat) (m : Mode) (w : World) => run_store Try.prog w a (.float .f32 v) m rfl
  have T := bx2 w [.float .f32 h, .float .f32 l, .float .f32 c] [.float .f32 0, .float .f32 0, .float .f32 0] 39 39
  have hV := fun w : World => validU_any h l c lh ll lc w
  unfold RB7 UV at *
  go_enter Try.func26, Try.ntmps26
  go_wp2_with fail
  have hsz : ((w.alloc (.cells #[.float .f32 h, .float .f32 l, .float .f32 c] 39)).alloc (.cells #[.float .f32 0, .float .f32 0, .float .f32 0] 39)).heap.size = w.heap.size + 1 + 1 := by simp
  generalize ((w.alloc (.cells #[.float .f32 h, .float .f32 l, .float .f32 c] 39)).alloc (.cells #[.float .f32 0, .float .f32 0, .float .f32 0] 39)) = W at *
  refine (hV _).mono ?_
  rintro en w1 ⟨rfl, hb1⟩
  rw [hsz] at hb1
  have R1 := Lib.hid (T.1.below hb1 (by omega))
  have R2 := Lib.hid (T.2.1.below hb1 (by omega))
  have B1 := Lib.hid (T.2.2.trans (hb1.mono (by omega)))
  clear T hb1 hsz hV
  have z0 := R2.out.frozen 0
  have z1 := R2.out.frozen 1
  have z2 := R2.out.frozen 2
  have d0 := R2.out.cell 0 (by simp)
  have d1 := R2.out.cell 1 (by simp)
  have d2 := R2.out.cell 2 (by simp)
  simp only [List.getD_cons_zero, List.getD_cons_succ] at d0 d1 d2
  have hno : (okU h l c && amtB t) = false → heatR h l c x t = noU := fun e => by unfold heatR; rw [e]; rfl
  have Hno := Lib.hid hno
  clear hno
  cases hok : okU h l c
  · have He := Lib.hid (Hno.out (by rw [hok]; rfl))
    clear Hno
    go_wp2_with fail
    have RR := ((R2.out.set 0 (.float .f32 0)).set 1 (.float .f32 0)).set 2 (.float .f32 0)
    have e0 := RR.cell 0 (by simp)
    have e1 := RR.cell 1 (by simp)
    have e2 := RR.cell 2 (by simp)
    simp only [List.set_cons_zero, List.set_cons_succ, List.getD_cons_zero, List.getD_cons_succ] at e0 e1 e2
    try simp only [Exit.inBlock, Exit.then]
    refine bodyPost_ret (by simp [results, Try.results26, go_sem, e0, e1, e2]; try rfl) rfl ?_
    exact ⟨by rw [He.out]; rfl, ((B1.out.setCell (by simp) _).setCell (by simp) _).setCell (by simp) _⟩
  cases hta : amtB t
  · have He := Lib.hid (Hno.out (by rw [hta, Bool.and_false]))
    have Hta := Lib.hid hta
    clear Hno hta
    go_wp2_with (go_at_call 57; refine (isAmount_any _ lt _).mono ?_; rintro e w' ⟨m, rfl, rfl⟩; rw [Hta.out])
    have RR := (((R2.out.drewN m).set 0 (.float .f32 0)).set 1 (.float .f32 0)).set 2 (.float .f32 0)
    have e0 := RR.cell 0 (by simp)
    have e1 := RR.cell 1 (by simp)
    have e2 := RR.cell 2 (by simp)
    simp only [List.set_cons_zero, List.set_cons_succ, List.getD_cons_zero, List.getD_cons_succ] at e0 e1 e2
    try simp only [Exit.inBlock, Exit.then]
    refine bodyPost_ret (by simp [results, Try.results26, go_sem, e0, e1, e2]; try rfl) rfl ?_
    exact ⟨by rw [He.out]; rfl, (((B1.out.trans ((below_drawn w1 m).mono B1.out.size)).setCell (by simp) _).setCell (by simp) _).setCell (by simp) _⟩
  · have He := Lib.hid (show heatR h l c x t = heatV h l c x t by unfold heatR; rw [hok, hta]; rfl)
    have Hta := Lib.hid hta
    have Hok := Lib.hid hok
    clear Hno hta hok
    go_wp2_with (go_at_call 57; refine (isAmount_any _ lt _).mono ?_; rintro e w' ⟨m, rfl, rfl⟩; rw [Hta.out])
    have Q1 := Lib.hid (R1.out.drewN m)
    have Q2 := Lib.hid (R2.out.drewN m)
    have QB := Lib.hid (B1.out.trans ((below_drawn w1 m).mono B1.out.size))
    clear R1 R2 B1 z0 z1 z2 d0 d1 d2
    generalize w1.drewN m = w2 at *
    have c0 := Q1.out.cell 0 (by simp)
    have c1 := Q1.out.cell 1 (by simp)
    have c2 := Q1.out.cell 2 (by simp)
    simp only [List.getD_cons_zero, List.getD_cons_succ] at c0 c1 c2
    have y0 := Q1.out.frozen 0
    have hadd := fun x y w => run_fov (P := Try.prog) .add rfl 28 .f32 x y w
    go_cut [] from 18 (fun wx => Hid (HSt w wx l c (fop .add .f32 (vl .f32 h) (fop .mul .f32 (fop .mul .f32 (vl .f32 x) (vl .f32 x)) (vl .f32 t)))))
    case first =>
      go_region_with (first | (go_at_call_of 50 (Value.float .f32 x); refine (mulF_any _ _ _).mono ?_; rintro e w' ⟨r1, n1, rfl, hv1, hl1, rfl⟩) | (go_at_call 50; refine (mulF_any _ _ _).mono ?_; rintro e w' ⟨r2, n2, rfl, hv2, hl2, rfl⟩))
      all_goals go_wp2_with fail
      all_goals go_meet
      all_goals exact Lib.hid ⟨_, by rw [vl_fov, hv2, hv1], fov_lt _ _ _ _ _, (Q1.out.drewN _).set 0 _, (Q2.out.drewN _).other (by omega) _ _, (QB.out.trans ((below_drawn w2 _).mono QB.out.size)).setCell (Nat.le_refl _) _⟩
    case rest =>
      obtain ⟨r, hv, hr, P1, P2, PB⟩ := hcut.out
      have Hv := Lib.hid hv
      have P1 := Lib.hid P1
      have P2 := Lib.hid P2
      have PB := Lib.hid PB
      clear hcut Q1 Q2 QB c0 c1 c2 y0 hadd hv
      have c0 := P1.out.cell 0 (by simp)
      have c1 := P1.out.cell 1 (by simp)
      have c2 := P1.out.cell 2 (by simp)
      simp only [List.getD_cons_zero, List.getD_cons_succ] at c0 c1 c2
      have y0 := P1.out.frozen 0
      have hsub := fun x y w => run_fov (P := Try.prog) .sub rfl 28 .f32 x y w
      go_wp2_with fail
      go_cut [] from 27 (fun wx => Hid (HSt w wx l c (warm h c x t)))
      case first =>
        go_region_with (go_at_call 50; refine (mulF_any _ _ _).mono ?_; rintro e w' ⟨r2, n2, rfl, hv2, hl2, rfl⟩)
        all_goals go_wp2_with fail
        all_goals go_meet
        all_goals exact Lib.hid ⟨_, by rw [vl_fov, hv2, Hv.out]; rfl, fov_lt _ _ _ _ _, (P1.out.drewN _).set 0 _, (P2.out.drewN _).other (by omega) _ _, (PB.out.trans ((below_drawn _ _).mono PB.out.size)).setCell (Nat.le_refl _) _⟩
      case rest =>
        obtain ⟨q, hq, hql, S1, S2, SB⟩ := hcut.out
        have Hh := Lib.hid (heat_of hq)
        have S1 := Lib.hid S1
        have S2 := Lib.hid S2
        have SB := Lib.hid SB
        clear hcut P1 P2 PB c0 c1 c2 y0 hsub hq Hv hr
        have c0 := S1.out.cell 0 (by simp)
        have c1 := S1.out.cell 1 (by simp)
        have c2 := S1.out.cell 2 (by simp)
        simp only [List.getD_cons_zero, List.getD_cons_succ] at c0 c1 c2
        have y0 := S1.out.frozen 0
        have Hc := Lib.hid (show amtB c = true ∧ posB l = true by have := Hok.out; unfold okU at this; simp only [Bool.and_eq_true] at this; exact this.2)
        cases hlt : ltF .f32 q 0
        · have hlt' : (FloatKind.f32.format.order q 0 == some .lt) = false := hlt
          have Hf := Lib.hid (show flat0 q = q by unfold flat0; rw [hlt]; rfl)
          clear hlt
          go_wp2_with fail
          have U1 := S1
          have U2 := S2
          have UB := SB
          clear S1 S2 SB c0 c1 c2 y0 hlt'
          refine (validU_any q l c hql ll lc _).mono ?_
          rintro en w4 ⟨rfl, hb4⟩
          have V1 := Lib.hid (show RL w4 w.heap.size 39 [.float .f32 q, .float .f32 l, .float .f32 c] from U1.out.below hb4 U1.out.lt)
          have V2 := Lib.hid (U2.out.below hb4 U2.out.lt)
          have VB := Lib.hid (UB.out.trans (hb4.mono UB.out.size))
          clear hb4 U1 U2 UB
          have c0 := V1.out.cell 0 (by simp)
          have c1 := V1.out.cell 1 (by simp)
          have c2 := V1.out.cell 2 (by simp)
          have d0 := V2.out.cell 0 (by simp)
          have d1 := V2.out.cell 1 (by simp)
          have d2 := V2.out.cell 2 (by simp)
          simp only [List.getD_cons_zero, List.getD_cons_succ] at c0 c1 c2 d0 d1 d2
          have z0 := V2.out.frozen 0
          have z1 := V2.out.frozen 1
          have z2 := V2.out.frozen 2
          cases hv : amtB q
          · have hk : okU q l c = false := by unfold okU; rw [hv]; rfl
            have Hr := Lib.hid (show heatV h l c x t = noU by unfold heatV; rw [Hh.out, Hf.out, hv]; rfl)
            clear hv
            go_wp2_with fail
            have RR := ((V2.out.set 0 (.float .f32 0)).set 1 (.float .f32 0)).set 2 (.float .f32 0)
            have e0 := RR.cell 0 (by simp)
            have e1 := RR.cell 1 (by simp)
            have e2 := RR.cell 2 (by simp)
            simp only [List.set_cons_zero, List.set_cons_succ, List.getD_cons_zero, List.getD_cons_succ] at e0 e1 e2
            try simp only [Exit.inBlock, Exit.then]
            refine bodyPost_ret (by simp [results, Try.results26, go_sem, e0, e1, e2]; try rfl) rfl ?_
            exact ⟨by rw [He.out, Hr.out]; rfl, ((VB.out.setCell (by simp) _).setCell (by simp) _).setCell (by simp) _⟩
          · have hk : okU q l c = true := by unfold okU; rw [hv, Hc.out.1, Hc.out.2]; rfl
            have Hr := Lib.hid (show heatV h l c x t = .tuple #[UV q l c, .bool (geF .f32 q l), .bool true] by unfold heatV; rw [Hh.out, Hf.out, hv]; rfl)
            clear hv
            go_wp2_with fail
            go_region
            all_goals go_wp2_with fail
            all_goals
              have RR := ((V2.out.set 0 (.float .f32 q)).set 1 (.float .f32 l)).set 2 (.float .f32 c)
              have e0 := RR.cell 0 (by simp)
              have e1 := RR.cell 1 (by simp)
              have e2 := RR.cell 2 (by simp)
              simp only [List.set_cons_zero, List.set_cons_succ, List.getD_cons_zero, List.getD_cons_succ] at e0 e1 e2
              try simp only [Exit.inBlock, Exit.then]
              refine bodyPost_ret (by simp [results, Try.results26, go_sem, e0, e1, e2]; try rfl) rfl ?_
              have BB := ((VB.out.setCell (p := ⟨w.heap.size + 1, 0, none⟩) (by simp) (.float .f32 q)).setCell (p := ⟨w.heap.size + 1, 1, none⟩) (by simp) (.float .f32 l)).setCell (p := ⟨w.heap.size + 1, 2, none⟩) (by simp) (.float .f32 c)
              exact ⟨by rw [He.out, Hr.out]; rfl, BB.trans ((below_drawn _ 1).mono BB.size)⟩
        · have hlt' : (FloatKind.f32.format.order q 0 == some .lt) = true := hlt
          have Hf := Lib.hid (show flat0 q = 0 by unfold flat0; rw [hlt]; rfl)
          clear hlt
          go_wp2_with fail
          have U1 := Lib.hid (S1.out.set 0 (.float .f32 0))
          have U2 := Lib.hid (S2.out.other (b := w.heap.size) (by omega) 0 (.float .f32 0))
          have UB := Lib.hid (SB.out.setCell (p := ⟨w.heap.size, 0, none⟩) (Nat.le_refl _) (.float .f32 0))
          clear S1 S2 SB c0 c1 c2 y0 hlt'
          refine (validU_any 0 l c (by decide) ll lc _).mono ?_
          rintro en w4 ⟨rfl, hb4⟩
          have V1 := Lib.hid (show RL w4 w.heap.size 39 [.float .f32 0, .float .f32 l, .float .f32 c] from U1.out.below hb4 U1.out.lt)
          have V2 := Lib.hid (U2.out.below hb4 U2.out.lt)
          have VB := Lib.hid (UB.out.trans (hb4.mono UB.out.size))
          clear hb4 U1 U2 UB
          have c0 := V1.out.cell 0 (by simp)
          have c1 := V1.out.cell 1 (by simp)
          have c2 := V1.out.cell 2 (by simp)
          have d0 := V2.out.cell 0 (by simp)
          have d1 := V2.out.cell 1 (by simp)
          have d2 := V2.out.cell 2 (by simp)
          simp only [List.getD_cons_zero, List.getD_cons_succ] at c0 c1 c2 d0 d1 d2
          have z0 := V2.out.frozen 0
          have z1 := V2.out.frozen 1
          have z2 := V2.out.frozen 2
          cases hv : amtB 0
          · have hk : okU 0 l c = false := by unfold okU; rw [hv]; rfl
            have Hr := Lib.hid (show heatV h l c x t = noU by unfold heatV; rw [Hh.out, Hf.out, hv]; rfl)
            clear hv
            go_wp2_with fail
            have RR := ((V2.out.set 0 (.float .f32 0)).set 1 (.float .f32 0)).set 2 (.float .f32 0)
            have e0 := RR.cell 0 (by simp)
            have e1 := RR.cell 1 (by simp)
            have e2 := RR.cell 2 (by simp)
            simp only [List.set_cons_zero, List.set_cons_succ, List.getD_cons_zero, List.getD_cons_succ] at e0 e1 e2
            try simp only [Exit.inBlock, Exit.then]
            refine bodyPost_ret (by simp [results, Try.results26, go_sem, e0, e1, e2]; try rfl) rfl ?_
            exact ⟨by rw [He.out, Hr.out]; rfl, ((VB.out.setCell (by simp) _).setCell (by simp) _).setCell (by simp) _⟩
          · have hk : okU 0 l c = true := by unfold okU; rw [hv, Hc.out.1, Hc.out.2]; rfl
            have Hr := Lib.hid (show heatV h l c x t = .tuple #[UV 0 l c, .bool (geF .f32 0 l), .bool true] by unfold heatV; rw [Hh.out, Hf.out, hv]; rfl)
            clear hv
            go_wp2_with fail
            go_region
            all_goals go_wp2_with fail
            all_goals
              have RR := ((V2.out.set 0 (.float .f32 0)).set 1 (.float .f32 l)).set 2 (.float .f32 c)
              have e0 := RR.cell 0 (by simp)
              have e1 := RR.cell 1 (by simp)
              have e2 := RR.cell 2 (by simp)
              simp only [List.set_cons_zero, List.set_cons_succ, List.getD_cons_zero, List.getD_cons_succ] at e0 e1 e2
              try simp only [Exit.inBlock, Exit.then]
              refine bodyPost_ret (by simp [results, Try.results26, go_sem, e0, e1, e2]; try rfl) rfl ?_
              have BB := ((VB.out.setCell (p := ⟨w.heap.size + 1, 0, none⟩) (by simp) (.float .f32 0)).setCell (p := ⟨w.heap.size + 1, 1, none⟩) (by simp) (.float .f32 l)).setCell (p := ⟨w.heap.size + 1, 2, none⟩) (by simp) (.float .f32 c)
              exact ⟨by rw [He.out, Hr.out]; rfl, BB.trans ((below_drawn _ 1).mono BB.size)⟩
end Go.Proofs.Ythkjikennlaelaa
