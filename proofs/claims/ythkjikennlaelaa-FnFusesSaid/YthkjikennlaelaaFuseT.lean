/-
  Fuses in the reference: a run over a list of currents. No theorem of a claim stands here.
-/
import Derived.Test.YthkjikennlaelaaFuseR
import Derived.Deep.RegionHeld3
set_option linter.unusedVariables false
set_option linter.unusedSimpArgs false
set_option maxRecDepth 8000
namespace Go.Proofs.Ythkjikennlaelaa
open Go Go.RowKit Go.Deep Go.Proofs.Ythkjikennlaelaa.Fl

theorem heatV_cases (h l c x t : Nat) : ∃ a b d p q, heatV h l c x t = .tuple #[.agg #[.float .f32 a, .float .f32 b, .float .f32 d], .bool p, .bool q] ∧
    ((heat h c x t = none ∧ 0 = a ∧ 0 = b ∧ 0 = d ∧ false = p ∧ false = q) ∨ ∃ r, heat h c x t = some r ∧ r = a ∧ l = b ∧ c = d ∧ geF .f32 r l = p ∧ true = q) := by
  unfold heatV
  cases hh : heat h c x t with
  | none => exact ⟨0, 0, 0, false, false, rfl, .inl ⟨rfl, rfl, rfl, rfl, rfl, rfl⟩⟩
  | some r => exact ⟨r, l, c, geF .f32 r l, true, rfl, .inr ⟨r, rfl, rfl, rfl, rfl, rfl, rfl⟩⟩
theorem zbx {w w' : World} (h : Below (w.alloc (.cells #[.float .f32 0, .float .f32 0, .float .f32 0] 39)).drew.heap.size (w.alloc (.cells #[.float .f32 0, .float .f32 0, .float .f32 0] 39)).drew w') : RL w' w.heap.size 39 [.float .f32 0, .float .f32 0, .float .f32 0] :=
  have a : RL (w.alloc (.cells [Value.float .f32 0, .float .f32 0, .float .f32 0].toArray 39)) w.heap.size 39 [.float .f32 0, .float .f32 0, .float .f32 0] := RL.new w _ _
  have b : RL (w.alloc (.cells [Value.float .f32 0, .float .f32 0, .float .f32 0].toArray 39)).drew w.heap.size 39 [.float .f32 0, .float .f32 0, .float .f32 0] := a
  b.below h a.lt
theorem zbx3 {w : World} {g : Nat} (h : RL w g 39 [.float .f32 0, .float .f32 0, .float .f32 0]) : (w.cell? ⟨g, 0, none⟩ = some (.float .f32 0) ∧ w.cell? ⟨g, 1, none⟩ = some (.float .f32 0) ∧ w.cell? ⟨g, 2, none⟩ = some (.float .f32 0)) ∧ w.frozen? ⟨g, 0, none⟩ = false ∧ w.frozen? ⟨g, 1, none⟩ = false ∧ w.frozen? ⟨g, 2, none⟩ = false :=
  ⟨⟨h.cell 0 (by simp), h.cell 1 (by simp), h.cell 2 (by simp)⟩, h.frozen 0, h.frozen 1, h.frozen 2⟩
theorem RSt.other3 {w wr : World} {h l c : Nat} (s : RSt w wr h l c) {g : Nat} (hg : w.heap.size + 1 < g) (x y z : Nat) :
    RSt w (((wr.setCell ⟨g, 0, none⟩ (.float .f32 x)).setCell ⟨g, 1, none⟩ (.float .f32 y)).setCell ⟨g, 2, none⟩ (.float .f32 z)) h l c :=
  ⟨((s.fuse.other (by omega) _ _).other (by omega) _ _).other (by omega) _ _, ((s.res.other (by omega) _ _).other (by omega) _ _).other (by omega) _ _, ((s.below.setCell (by simp; omega) _).setCell (by simp; omega) _).setCell (by simp; omega) _⟩
set_option maxHeartbeats 4000000 in
theorem specRun_any (h l c t : Nat) (a : Option Addr) (len cap : Nat) (zs : List Nat) (lh : h < 2 ^ 32) (ll : l < 2 ^ 32) (lc : c < 2 ^ 32) (lt : t < 2 ^ 32) (w : World) (ha : FRd w a len cap zs) (hlen : len ≤ 1048576) :
    Calls Try.prog 42 #[UV h l c, .slice a len cap, .float .f32 t] w (RB7 (runR h l c t zs) w) := by
  have hst := fun (a : Addr) (v : Nat) (m : Mode) (w : World) => run_store Try.prog w a (.float .f32 v) m rfl
  have T := bx2 w [.float .f32 h, .float .f32 l, .float .f32 c] [.float .f32 0, .float .f32 0, .float .f32 0] 39 39
  have R0 := Lib.hid (show RSt w _ h l c from ⟨T.1, T.2.1, T.2.2⟩)
  have Ha := Lib.hid ha
  have hz : zs.length = len := ha.1
  clear T ha
  have HI := Lib.hid (fun (hc : amtB c = true) (hl : posB l = true) (h x : Nat) (w : World) => l07Heat_any h l c x t ll lc hc hl w)
  unfold RB7 UV at *
  go_enter Try.func42, Try.ntmps42
  go_upto_region 1 with fail
  generalize ((w.alloc (.cells #[.float .f32 h, .float .f32 l, .float .f32 c] 39)).alloc (.cells #[.float .f32 0, .float .f32 0, .float .f32 0] 39)) = W at *
  have R0 : Hid (RSt w W h l c) := R0
  have c0 := R0.out.fuse.cell 0 (by simp)
  have c1 := R0.out.fuse.cell 1 (by simp)
  have c2 := R0.out.fuse.cell 2 (by simp)
  simp only [List.getD_cons_zero, List.getD_cons_succ] at c0 c1 c2
  have Hl := Lib.hid hlen
  go_wp2_with fail
  refine (l07Fuse_any h l c lh ll lc _ _ c0 c1 c2).mono ?_
  rintro en w1 ⟨m1, rfl, rfl⟩
  have R1 := Lib.hid (R0.out.drew m1)
  clear R0 c0 c1 c2
  generalize hw1 : W.drewN m1 = w1 at *
  clear hw1
  have d0 := R1.out.res.cell 0 (by simp)
  have d1 := R1.out.res.cell 1 (by simp)
  have d2 := R1.out.res.cell 2 (by simp)
  simp only [List.getD_cons_zero, List.getD_cons_succ] at d0 d1 d2
  have z0 := R1.out.res.frozen 0
  have z1 := R1.out.res.frozen 1
  have z2 := R1.out.res.frozen 2
  cases hb : runOk h l c t len
  · have He := Lib.hid (show runR h l c t zs = noR by unfold runR; rw [hz, hb]; rfl)
    cases hok : okU h l c
    · clear hb
      go_wp2_with fail
      obtain ⟨RR, BB⟩ := R1.out.fin 0 0 0
      have e0 := RR.cell 0 (by simp)
      have e1 := RR.cell 1 (by simp)
      have e2 := RR.cell 2 (by simp)
      simp only [List.getD_cons_zero, List.getD_cons_succ] at e0 e1 e2
      try simp only [Exit.inBlock, Exit.then]
      refine bodyPost_ret (by simp [results, Try.results42, go_sem, e0, e1, e2]; try rfl) rfl ?_
      exact ⟨by rw [He.out]; rfl, BB⟩
    cases hta : amtB t
    · have Hta := Lib.hid hta
      clear hb hta
      go_wp2_with (go_at_call 65; refine (l03Near_any _ lt _).mono ?_; rintro e w' ⟨m, rfl, rfl⟩; rw [Hta.out])
      obtain ⟨RR, BB⟩ := (R1.out.drew m).fin 0 0 0
      have e0 := RR.cell 0 (by simp)
      have e1 := RR.cell 1 (by simp)
      have e2 := RR.cell 2 (by simp)
      simp only [List.getD_cons_zero, List.getD_cons_succ] at e0 e1 e2
      try simp only [Exit.inBlock, Exit.then]
      refine bodyPost_ret (by simp [results, Try.results42, go_sem, e0, e1, e2]; try rfl) rfl ?_
      exact ⟨by rw [He.out]; rfl, BB⟩
    · have Hta := Lib.hid hta
      have hn : (256 : Int) < len := by
        unfold runOk at hb
        rw [hok, hta] at hb
        simp at hb
        omega
      clear hb hta
      go_wp2_with (go_at_call 65; refine (l03Near_any _ lt _).mono ?_; rintro e w' ⟨m, rfl, rfl⟩; rw [Hta.out])
      obtain ⟨RR, BB⟩ := (R1.out.drew m).fin 0 0 0
      have e0 := RR.cell 0 (by simp)
      have e1 := RR.cell 1 (by simp)
      have e2 := RR.cell 2 (by simp)
      simp only [List.getD_cons_zero, List.getD_cons_succ] at e0 e1 e2
      try simp only [Exit.inBlock, Exit.then]
      refine bodyPost_ret (by simp [results, Try.results42, go_sem, e0, e1, e2]; try rfl) rfl ?_
      exact ⟨by rw [He.out]; rfl, BB⟩
  · have He := Lib.hid (show runR h l c t zs = runV l c (runU l c t h zs 0) by unfold runR; rw [hz, hb]; rfl)
    unfold runOk at hb
    simp only [Bool.and_eq_true, decide_eq_true_eq] at hb
    have hok := hb.1
    have Hta := Lib.hid hb.2.1
    have hn : ¬ (256 : Int) < len := by omega
    have Hc := Lib.hid (show amtB c = true ∧ posB l = true by have := hb.1; unfold okU at this; simp only [Bool.and_eq_true] at this; exact this.2)
    have Hh0 := Lib.hid (show amtB h = true by have := hb.1; unfold okU at this; simp only [Bool.and_eq_true] at this; exact this.1)
    clear hb
    go_wp2_with (go_at_call 65; refine (l03Near_any _ lt _).mono ?_; rintro e w' ⟨m, rfl, rfl⟩; rw [Hta.out])
    have R2 := Lib.hid (R1.out.drew m)
    clear R1 d0 d1 d2 z0 z1 z2
    generalize w1.drewN m = w2 at *
    clear hok hn
    go_loopw [28] (fun I wr => ∃ (k hk : Nat), k ≤ len ∧ I = .int .i64 k ∧ hk < 2 ^ 32 ∧ Hid (amtB hk = true) ∧ Hid (RSt w wr hk l c) ∧ Hid (runU l c t h zs 0 = runU l c t hk (zs.drop k) k)) (fun I _ => len - (intOf I).toNat)
    case atStart => exact ⟨0, h, Nat.zero_le _, rfl, lh, Hh0, R2, Lib.hid (by rw [List.drop_zero])⟩
    case round =>
      clear R2 Hh0
      obtain ⟨k, hk, hkl, rfl, lhk, Hk, Hr, Hu⟩ := hrel
      have c0 := Hr.out.fuse.cell 0 (by simp)
      have c1 := Hr.out.fuse.cell 1 (by simp)
      have c2 := Hr.out.fuse.cell 2 (by simp)
      have d0 := Hr.out.res.cell 0 (by simp)
      have d1 := Hr.out.res.cell 1 (by simp)
      have d2 := Hr.out.res.cell 2 (by simp)
      simp only [List.getD_cons_zero, List.getD_cons_succ] at c0 c1 c2 d0 d1 d2
      have z0 := Hr.out.res.frozen 0
      have z1 := Hr.out.res.frozen 1
      have z2 := Hr.out.res.frozen 2
      by_cases hlt : k < len
      · obtain ⟨bb, oo, rfl, hcx, hbs⟩ := (Ha.out.stays Hr.out.below (Nat.le_refl _)).2.2.1 k hlt
        have hcap := Ha.out.2.1
        have Hs := Lib.hid (runU_step l c t hk (show k < zs.length by omega))
        have hI := fun w => HI.out Hc.out.1 Hc.out.2 hk (zs.getD k 0) w
        have Hz := Lib.hid hz
        clear hz c0 c1 c2 d0 d1 d2 z0 z1 z2
        generalize zs.getD k 0 = x at *
        obtain ⟨a', b', d', p', q', hF, hcs⟩ := heatV_cases hk l c x t
        rw [hF] at hI
        clear hF
        have HCS := Lib.hid hcs
        clear hcs
        go_wp2_with fail
        have SS : ∀ w' : World, Below wr.heap.size wr w' → w'.cell? ⟨w.heap.size, 0, none⟩ = some (.float .f32 hk) ∧ w'.cell? ⟨w.heap.size, 1, none⟩ = some (.float .f32 l) ∧ w'.cell? ⟨w.heap.size, 2, none⟩ = some (.float .f32 c) ∧ w'.cell? ⟨bb, oo + k, none⟩ = some (.float .f32 x) ∧ Below wr.heap.size wr w' := by
          intro w' hV
          have c0 := (Hr.out.fuse.below hV Hr.out.fuse.lt).cell 0 (by simp)
          have c1 := (Hr.out.fuse.below hV Hr.out.fuse.lt).cell 1 (by simp)
          have c2 := (Hr.out.fuse.below hV Hr.out.fuse.lt).cell 2 (by simp)
          simp only [List.getD_cons_zero, List.getD_cons_succ] at c0 c1 c2
          exact ⟨c0, c1, c2, (hV.cell (show (⟨bb, oo + k, none⟩ : Addr).block < _ from hbs)).trans hcx, hV⟩
        clear hcx
        go_region_held3 (fun w' => w'.cell? ⟨w.heap.size, 0, none⟩ = some (.float .f32 hk) ∧ w'.cell? ⟨w.heap.size, 1, none⟩ = some (.float .f32 l) ∧ w'.cell? ⟨w.heap.size, 2, none⟩ = some (.float .f32 c) ∧ w'.cell? ⟨bb, oo + k, none⟩ = some (.float .f32 x) ∧ Below wr.heap.size wr w')
          (first
            | exact SS _ hbw
            | exact SS _ (Below.alloc hbw (Below.size hbw) _)
            | exact SS _ (Below.setCell (Below.setCell (Below.setCell hbw (Nat.le_refl _) _) (Nat.le_refl _) _) (Nat.le_refl _) _)
            | exact SS _ ⟨rfl, rfl, rfl, Nat.le_refl _, fun _ _ => rfl⟩
            | (go_split_ands; exact SS _ (Below.alloc (by assumption) (Below.size (by assumption)) _)))
          (first
            | (go_at_call 66
               refine (hI _).mono ?_
               rintro e w10 ⟨rfl, hb10⟩
               have hbw : Below wr.heap.size wr w10 := by
                 go_split_ands
                 exact Below.trans (by assumption) (Below.mono hb10 (Below.size (by assumption)))
               first
                 | (have RZ := zbx hb10
                    obtain ⟨⟨u0, u1, u2⟩, v0, v1, v2⟩ := zbx3 RZ)
                 | skip))
        · skip
          have R5 := Lib.hid (show RSt w (w10.alloc (.cells [Value.float .f32 a', .float .f32 b', .float .f32 d'].toArray 39)) hk l c from (Hr.out.call hbw).alloc _)
          have N5 := Lib.hid (show RL (w10.alloc (.cells [Value.float .f32 a', .float .f32 b', .float .f32 d'].toArray 39)) w10.heap.size 39 [.float .f32 a', .float .f32 b', .float .f32 d'] from RL.new w10 _ _)
          generalize w10.heap.size = g8 at *
          generalize (w10.alloc (.cells [Value.float .f32 a', .float .f32 b', .float .f32 d'].toArray 39)) = W5 at *
          clear hbw Hr SS hI hbs
          have n0 := N5.out.cell 0 (by simp)
          have n1 := N5.out.cell 1 (by simp)
          have n2 := N5.out.cell 2 (by simp)
          have c0 := R5.out.fuse.cell 0 (by simp)
          have c1 := R5.out.fuse.cell 1 (by simp)
          have c2 := R5.out.fuse.cell 2 (by simp)
          have d0 := R5.out.res.cell 0 (by simp)
          have d1 := R5.out.res.cell 1 (by simp)
          have d2 := R5.out.res.cell 2 (by simp)
          simp only [List.getD_cons_zero, List.getD_cons_succ] at n0 n1 n2 c0 c1 c2 d0 d1 d2
          have z0 := R5.out.res.frozen 0
          have z1 := R5.out.res.frozen 1
          have z2 := R5.out.res.frozen 2
          have y0 := R5.out.fuse.frozen 0
          have y1 := R5.out.fuse.frozen 1
          have y2 := R5.out.fuse.frozen 2
          rcases HCS.out with ⟨hh, rfl, rfl, rfl, rfl, rfl⟩ | ⟨r, hh, rfl, rfl, rfl, hg, rfl⟩
          · have Hf := Lib.hid (show runR h l c t zs = noR by rw [He.out, Hu.out, Hs.out, hh]; rfl)
            clear hh Hs Hu He HCS
            go_wp2_with fail
            obtain ⟨RR, BB⟩ := R5.out.fin 0 0 0
            have e0 := RR.cell 0 (by simp)
            have e1 := RR.cell 1 (by simp)
            have e2 := RR.cell 2 (by simp)
            simp only [List.getD_cons_zero, List.getD_cons_succ] at e0 e1 e2
            try simp only [Exit.inBlock, Exit.then]
            refine bodyPost_ret (by simp [results, Try.results42, go_sem, e0, e1, e2]; try rfl) rfl ?_
            exact ⟨by rw [Hf.out]; rfl, BB⟩
          · obtain ⟨hr1, hr2, hr3⟩ := heat_some hh
            have Hr1 := Lib.hid hr1
            cases p'
            · have Hf := Lib.hid (show runU l c t h zs 0 = runU l c t r (zs.drop (k + 1)) (k + 1) by rw [Hu.out, Hs.out, hh]; simp [hg])
              clear hh Hs Hu hr1 hr3 HCS hg
              have R6 := Lib.hid (R5.out.next r l c)
              go_wp2_with fail
              go_roundw
              case rel => exact ⟨k + 1, r, by omega, by go_num, hr2, Hr1, R6, Hf⟩
              case measure => go_light; simp [intOf]; omega
            · have Hf := Lib.hid (show runR h l c t zs = .tuple #[.int .i64 k, .agg #[.float .f32 r, .float .f32 l, .float .f32 c], .bool true] by rw [He.out, Hu.out, Hs.out, hh]; simp [hg, runV, UV])
              clear hh Hs Hu hr1 hr3 HCS hg
              have R6 := Lib.hid (R5.out.next r l c)
              go_upto_region 10 with fail
              generalize (((W5.setCell ⟨w.heap.size, 0, none⟩ (.float .f32 r)).setCell ⟨w.heap.size, 1, none⟩ (.float .f32 l)).setCell ⟨w.heap.size, 2, none⟩ (.float .f32 c)) = W6 at *
              clear c0 c1 c2 d0 d1 d2 z0 z1 z2 n0 n1 n2 y0 y1 y2
              have c0 := R6.out.fuse.cell 0 (by simp)
              have c1 := R6.out.fuse.cell 1 (by simp)
              have c2 := R6.out.fuse.cell 2 (by simp)
              have d0 := R6.out.res.cell 0 (by simp)
              have d1 := R6.out.res.cell 1 (by simp)
              have d2 := R6.out.res.cell 2 (by simp)
              simp only [List.getD_cons_zero, List.getD_cons_succ] at c0 c1 c2 d0 d1 d2
              have z0 := R6.out.res.frozen 0
              have z1 := R6.out.res.frozen 1
              have z2 := R6.out.res.frozen 2
              go_wp2_with fail
              go_region
              all_goals go_wp2_with fail
              all_goals
                obtain ⟨RR, BB⟩ := R6.out.fin r l c
                have e0 := RR.cell 0 (by simp)
                have e1 := RR.cell 1 (by simp)
                have e2 := RR.cell 2 (by simp)
                simp only [List.getD_cons_zero, List.getD_cons_succ] at e0 e1 e2
                try simp only [Exit.inBlock, Exit.then]
                refine bodyPost_ret (by simp [results, Try.results42, go_sem, e0, e1, e2]; try rfl) rfl ?_
                exact ⟨by rw [Hf.out], BB.trans ((below_drawn _ 1).mono BB.size)⟩
        · have hge : w.heap.size + 1 < wr.heap.size := Hr.out.res.lt
          have R5 := Lib.hid (show RSt w (((w10.setCell ⟨wr.heap.size, 0, none⟩ (.float .f32 a')).setCell ⟨wr.heap.size, 1, none⟩ (.float .f32 b')).setCell ⟨wr.heap.size, 2, none⟩ (.float .f32 d')) hk l c from (Hr.out.call hbw).other3 hge a' b' d')
          have N5 := Lib.hid (show RL (((w10.setCell ⟨wr.heap.size, 0, none⟩ (.float .f32 a')).setCell ⟨wr.heap.size, 1, none⟩ (.float .f32 b')).setCell ⟨wr.heap.size, 2, none⟩ (.float .f32 d')) wr.heap.size 39 [.float .f32 a', .float .f32 b', .float .f32 d'] from ((RZ.set 0 (.float .f32 a')).set 1 (.float .f32 b')).set 2 (.float .f32 d'))
          generalize wr.heap.size = g8 at *
          generalize (((w10.setCell ⟨g8, 0, none⟩ (.float .f32 a')).setCell ⟨g8, 1, none⟩ (.float .f32 b')).setCell ⟨g8, 2, none⟩ (.float .f32 d')) = W5 at *
          clear hbw Hr SS hI hbs
          have n0 := N5.out.cell 0 (by simp)
          have n1 := N5.out.cell 1 (by simp)
          have n2 := N5.out.cell 2 (by simp)
          have c0 := R5.out.fuse.cell 0 (by simp)
          have c1 := R5.out.fuse.cell 1 (by simp)
          have c2 := R5.out.fuse.cell 2 (by simp)
          have d0 := R5.out.res.cell 0 (by simp)
          have d1 := R5.out.res.cell 1 (by simp)
          have d2 := R5.out.res.cell 2 (by simp)
          simp only [List.getD_cons_zero, List.getD_cons_succ] at n0 n1 n2 c0 c1 c2 d0 d1 d2
          have z0 := R5.out.res.frozen 0
          have z1 := R5.out.res.frozen 1
          have z2 := R5.out.res.frozen 2
          have y0 := R5.out.fuse.frozen 0
          have y1 := R5.out.fuse.frozen 1
          have y2 := R5.out.fuse.frozen 2
          rcases HCS.out with ⟨hh, rfl, rfl, rfl, rfl, rfl⟩ | ⟨r, hh, rfl, rfl, rfl, hg, rfl⟩
          · have Hf := Lib.hid (show runR h l c t zs = noR by rw [He.out, Hu.out, Hs.out, hh]; rfl)
            clear hh Hs Hu He HCS
            go_wp2_with fail
            obtain ⟨RR, BB⟩ := R5.out.fin 0 0 0
            have e0 := RR.cell 0 (by simp)
            have e1 := RR.cell 1 (by simp)
            have e2 := RR.cell 2 (by simp)
            simp only [List.getD_cons_zero, List.getD_cons_succ] at e0 e1 e2
            try simp only [Exit.inBlock, Exit.then]
            refine bodyPost_ret (by simp [results, Try.results42, go_sem, e0, e1, e2]; try rfl) rfl ?_
            exact ⟨by rw [Hf.out]; rfl, BB⟩
          · obtain ⟨hr1, hr2, hr3⟩ := heat_some hh
            have Hr1 := Lib.hid hr1
            cases p'
            · have Hf := Lib.hid (show runU l c t h zs 0 = runU l c t r (zs.drop (k + 1)) (k + 1) by rw [Hu.out, Hs.out, hh]; simp [hg])
              clear hh Hs Hu hr1 hr3 HCS hg
              have R6 := Lib.hid (R5.out.next r l c)
              go_wp2_with fail
              go_roundw
              case rel => exact ⟨k + 1, r, by omega, by go_num, hr2, Hr1, R6, Hf⟩
              case measure => go_light; simp [intOf]; omega
            · have Hf := Lib.hid (show runR h l c t zs = .tuple #[.int .i64 k, .agg #[.float .f32 r, .float .f32 l, .float .f32 c], .bool true] by rw [He.out, Hu.out, Hs.out, hh]; simp [hg, runV, UV])
              clear hh Hs Hu hr1 hr3 HCS hg
              have R6 := Lib.hid (R5.out.next r l c)
              go_upto_region 10 with fail
              generalize (((W5.setCell ⟨w.heap.size, 0, none⟩ (.float .f32 r)).setCell ⟨w.heap.size, 1, none⟩ (.float .f32 l)).setCell ⟨w.heap.size, 2, none⟩ (.float .f32 c)) = W6 at *
              clear c0 c1 c2 d0 d1 d2 z0 z1 z2 n0 n1 n2 y0 y1 y2
              have c0 := R6.out.fuse.cell 0 (by simp)
              have c1 := R6.out.fuse.cell 1 (by simp)
              have c2 := R6.out.fuse.cell 2 (by simp)
              have d0 := R6.out.res.cell 0 (by simp)
              have d1 := R6.out.res.cell 1 (by simp)
              have d2 := R6.out.res.cell 2 (by simp)
              simp only [List.getD_cons_zero, List.getD_cons_succ] at c0 c1 c2 d0 d1 d2
              have z0 := R6.out.res.frozen 0
              have z1 := R6.out.res.frozen 1
              have z2 := R6.out.res.frozen 2
              go_wp2_with fail
              go_region
              all_goals go_wp2_with fail
              all_goals
                obtain ⟨RR, BB⟩ := R6.out.fin r l c
                have e0 := RR.cell 0 (by simp)
                have e1 := RR.cell 1 (by simp)
                have e2 := RR.cell 2 (by simp)
                simp only [List.getD_cons_zero, List.getD_cons_succ] at e0 e1 e2
                try simp only [Exit.inBlock, Exit.then]
                refine bodyPost_ret (by simp [results, Try.results42, go_sem, e0, e1, e2]; try rfl) rfl ?_
                exact ⟨by rw [Hf.out], BB.trans ((below_drawn _ 1).mono BB.size)⟩
      · obtain rfl : k = len := by omega
        have Hf := Lib.hid (show runR h l c t zs = .tuple #[.int .i64 (-1), .agg #[.float .f32 hk, .float .f32 l, .float .f32 c], .bool true] by rw [He.out, Hu.out]; subst hz; rw [runU_end]; rfl)
        go_wp2_with fail
        go_region
        all_goals go_wp2_with fail
        all_goals
          obtain ⟨RR, BB⟩ := Hr.out.fin hk l c
          have e0 := RR.cell 0 (by simp)
          have e1 := RR.cell 1 (by simp)
          have e2 := RR.cell 2 (by simp)
          simp only [List.getD_cons_zero, List.getD_cons_succ] at e0 e1 e2
          try simp only [Exit.inBlock, Exit.then]
          refine bodyPost_ret (by simp [results, Try.results42, go_sem, e0, e1, e2]; try rfl) rfl ?_
          exact ⟨by rw [Hf.out], BB.trans ((below_drawn _ 1).mono BB.size)⟩
end Go.Proofs.Ythkjikennlaelaa
