/-
  Fuses in the program: a run over a list of currents. No theorem of a claim stands here.
-/
import Derived.Test.YthkjikennlaelaaFuseS
import Derived.Test.YthkjikennlaelaaRowF
import Derived.Deep.Light
set_option linter.unusedVariables false
set_option linter.unusedSimpArgs false
set_option maxRecDepth 8000
namespace Go.Proofs.Ythkjikennlaelaa
open Go Go.RowKit Go.Deep Go.Proofs.Ythkjikennlaelaa.Fl

theorem runU_step (l c t h : Nat) {zs : List Nat} {k : Nat} (hk : k < zs.length) : runU l c t h (zs.drop k) k = match heat h c (zs.getD k 0) t with
    | none => none
    | some r => if geF .f32 r l then some ((k : Int), r) else runU l c t r (zs.drop (k + 1)) (k + 1) := by
  have e : zs.drop k = zs.getD k 0 :: zs.drop (k + 1) := by
    rw [List.drop_eq_getElem_cons hk]
    simp [List.getD, hk]
  rw [e]
  rfl
theorem runU_end (l c t h : Nat) {zs : List Nat} : runU l c t h (zs.drop zs.length) zs.length = some (-1, h) := by rw [List.drop_length]; rfl
def noR : Value := .tuple #[.int .i64 0, .agg #[.float .f32 0, .float .f32 0, .float .f32 0], .bool false]
def runOk (h l c t n : Nat) : Bool := okU h l c && (amtB t && decide (n ≤ 256))
def runR (h l c t : Nat) (zs : List Nat) : Value := if runOk h l c t zs.length then runV l c (runU l c t h zs 0) else noR
/-- The boxes of RunFuse: the fuse, and the result. -/
structure RSt (w wr : World) (h l c : Nat) : Prop where
  fuse : RL wr w.heap.size 39 [.float .f32 h, .float .f32 l, .float .f32 c]
  res : RL wr (w.heap.size + 1) 39 [.float .f32 0, .float .f32 0, .float .f32 0]
  below : Below w.heap.size w wr
theorem RSt.call {w wr w' : World} {h l c : Nat} (s : RSt w wr h l c) (hb : Below wr.heap.size wr w') : RSt w w' h l c :=
  ⟨s.fuse.below hb s.fuse.lt, s.res.below hb s.res.lt, s.below.trans (hb.mono s.below.size)⟩
theorem RSt.alloc {w wr : World} {h l c : Nat} (s : RSt w wr h l c) (o : Obj) : RSt w (wr.alloc o) h l c :=
  ⟨s.fuse.allocd o, s.res.allocd o, s.below.alloc s.below.size o⟩
theorem RSt.drew {w wr : World} {h l c : Nat} (s : RSt w wr h l c) (n : Nat) : RSt w (wr.drewN n) h l c := s.call (below_drawn wr n)
theorem RSt.fin {w wr : World} {h l c : Nat} (s : RSt w wr h l c) (x y z : Nat) :
    RL (((wr.setCell ⟨w.heap.size + 1, 0, none⟩ (.float .f32 x)).setCell ⟨w.heap.size + 1, 1, none⟩ (.float .f32 y)).setCell ⟨w.heap.size + 1, 2, none⟩ (.float .f32 z)) (w.heap.size + 1) 39 [.float .f32 x, .float .f32 y, .float .f32 z] ∧
    Below w.heap.size w (((wr.setCell ⟨w.heap.size + 1, 0, none⟩ (.float .f32 x)).setCell ⟨w.heap.size + 1, 1, none⟩ (.float .f32 y)).setCell ⟨w.heap.size + 1, 2, none⟩ (.float .f32 z)) :=
  ⟨((s.res.set 0 (.float .f32 x)).set 1 (.float .f32 y)).set 2 (.float .f32 z), ((s.below.setCell (by simp) _).setCell (by simp) _).setCell (by simp) _⟩
theorem RSt.next {w wr : World} {h l c : Nat} (s : RSt w wr h l c) (x y z : Nat) :
    RSt w (((wr.setCell ⟨w.heap.size, 0, none⟩ (.float .f32 x)).setCell ⟨w.heap.size, 1, none⟩ (.float .f32 y)).setCell ⟨w.heap.size, 2, none⟩ (.float .f32 z)) x y z :=
  ⟨((s.fuse.set 0 (.float .f32 x)).set 1 (.float .f32 y)).set 2 (.float .f32 z), ((s.res.other (by omega) _ _).other (by omega) _ _).other (by omega) _ _, ((s.below.setCell (by simp) _).setCell (by simp) _).setCell (by simp) _⟩
set_option maxHeartbeats 4000000 in
theorem implRun_any (h l c t : Nat) (a : Option Addr) (len cap : Nat) (zs : List Nat) (lh : h < 2 ^ 32) (ll : l < 2 ^ 32) (lc : c < 2 ^ 32) (lt : t < 2 ^ 32) (w : World) (ha : FRd w a len cap zs) (hlen : len ≤ 1048576) :
    Calls Try.prog 24 #[UV h l c, .slice a len cap, .float .f32 t] w (RB7 (runR h l c t zs) w) := by
  have hst := fun (a : Addr) (v : Nat) (m : Mode) (w : World) => run_store Try.prog w a (.float .f32 v) m rfl
  have T := bx2 w [.float .f32 h, .float .f32 l, .float .f32 c] [.float .f32 0, .float .f32 0, .float .f32 0] 39 39
  have R0 := Lib.hid (show RSt w _ h l c from ⟨T.1, T.2.1, T.2.2⟩)
  have Ha := Lib.hid ha
  have hz : zs.length = len := ha.1
  clear T ha
  have hV := fun w : World => validU_any h l c lh ll lc w
  have HI := Lib.hid (fun (h x : Nat) (lh : h < 2 ^ 32) (lx : x < 2 ^ 32) (w : World) => implHeat_any h l c x t lh ll lc lx lt w)
  unfold RB7 UV at *
  go_enter Try.func24, Try.ntmps24
  go_upto_region 1 with fail
  generalize ((w.alloc (.cells #[.float .f32 h, .float .f32 l, .float .f32 c] 39)).alloc (.cells #[.float .f32 0, .float .f32 0, .float .f32 0] 39)) = W at *
  have R0 : Hid (RSt w W h l c) := R0
  have c0 := R0.out.fuse.cell 0 (by simp)
  have c1 := R0.out.fuse.cell 1 (by simp)
  have c2 := R0.out.fuse.cell 2 (by simp)
  simp only [List.getD_cons_zero, List.getD_cons_succ] at c0 c1 c2
  have Hl := Lib.hid hlen
  go_wp2_with fail
  refine (hV _).mono ?_
  rintro en w1 ⟨rfl, hb1⟩
  have R1 := Lib.hid (R0.out.call hb1)
  clear hb1 R0 c0 c1 c2 hV
  have d0 := R1.out.res.cell 0 (by simp)
  have d1 := R1.out.res.cell 1 (by simp)
  have d2 := R1.out.res.cell 2 (by simp)
  simp only [List.getD_cons_zero, List.getD_cons_succ] at d0 d1 d2
  have z0 := R1.out.res.frozen 0
  have z1 := R1.out.res.frozen 1
  have z2 := R1.out.res.frozen 2
  cases hb : runOk h l c t len
  · have He := Lib.hid (show runR h l c t zs = noR by unfold runR; rw [hz, hb]; rfl)
    cases hok : okU h l c
    · clear hb
      go_wp2_with fail
      obtain ⟨RR, BB⟩ := R1.out.fin 0 0 0
      have e0 := RR.cell 0 (by simp)
      have e1 := RR.cell 1 (by simp)
      have e2 := RR.cell 2 (by simp)
      simp only [List.getD_cons_zero, List.getD_cons_succ] at e0 e1 e2
      try simp only [Exit.inBlock, Exit.then]
      refine bodyPost_ret (by simp [results, Try.results24, go_sem, e0, e1, e2]; try rfl) rfl ?_
      exact ⟨by rw [He.out]; rfl, BB⟩
    cases hta : amtB t
    · have Hta := Lib.hid hta
      clear hb hta
      go_wp2_with (go_at_call 57; refine (isAmount_any _ lt _).mono ?_; rintro e w' ⟨m, rfl, rfl⟩; rw [Hta.out])
      obtain ⟨RR, BB⟩ := (R1.out.drew m).fin 0 0 0
      have e0 := RR.cell 0 (by simp)
      have e1 := RR.cell 1 (by simp)
      have e2 := RR.cell 2 (by simp)
      simp only [List.getD_cons_zero, List.getD_cons_succ] at e0 e1 e2
      try simp only [Exit.inBlock, Exit.then]
      refine bodyPost_ret (by simp [results, Try.results24, go_sem, e0, e1, e2]; try rfl) rfl ?_
      exact ⟨by rw [He.out]; rfl, BB⟩
    · have Hta := Lib.hid hta
      have hn : (256 : Int) < len := by
        unfold runOk at hb
        rw [hok, hta] at hb
        simp at hb
        omega
      clear hb hta
      go_wp2_with (go_at_call 57; refine (isAmount_any _ lt _).mono ?_; rintro e w' ⟨m, rfl, rfl⟩; rw [Hta.out])
      obtain ⟨RR, BB⟩ := (R1.out.drew m).fin 0 0 0
      have e0 := RR.cell 0 (by simp)
      have e1 := RR.cell 1 (by simp)
      have e2 := RR.cell 2 (by simp)
      simp only [List.getD_cons_zero, List.getD_cons_succ] at e0 e1 e2
      try simp only [Exit.inBlock, Exit.then]
      refine bodyPost_ret (by simp [results, Try.results24, go_sem, e0, e1, e2]; try rfl) rfl ?_
      exact ⟨by rw [He.out]; rfl, BB⟩
  · have He := Lib.hid (show runR h l c t zs = runV l c (runU l c t h zs 0) by unfold runR; rw [hz, hb]; rfl)
    unfold runOk at hb
    simp only [Bool.and_eq_true, decide_eq_true_eq] at hb
    have hok := hb.1
    have Hta := Lib.hid hb.2.1
    have hn : ¬ (256 : Int) < len := by omega
    have Hc := Lib.hid (show amtB c = true ∧ posB l = true by have := hb.1; unfold okU at this; simp only [Bool.and_eq_true] at this; exact this.2)
    have Hh0 := Lib.hid (show amtB h = true by have := hb.1; unfold okU at this; simp only [Bool.and_eq_true] at this; exact this.1)
    clear hb
    go_wp2_with (go_at_call 57; refine (isAmount_any _ lt _).mono ?_; rintro e w' ⟨m, rfl, rfl⟩; rw [Hta.out])
    have R2 := Lib.hid (R1.out.drew m)
    clear R1 d0 d1 d2 z0 z1 z2
    generalize w1.drewN m = w2 at *
    clear hok hn
    go_loopw [30] (fun I wr => ∃ (k hk : Nat), k ≤ len ∧ I = .int .i64 k ∧ hk < 2 ^ 32 ∧ Hid (amtB hk = true) ∧ Hid (RSt w wr hk l c) ∧ Hid (runU l c t h zs 0 = runU l c t hk (zs.drop k) k)) (fun I _ => len - (intOf I).toNat)
    case atStart => exact ⟨0, h, Nat.zero_le _, rfl, lh, Hh0, R2, Lib.hid (by rw [List.drop_zero])⟩
    case round =>
      clear R2 Hh0
      obtain ⟨k, hk, hkl, rfl, lhk, Hk, Hr, Hu⟩ := hrel
      have c0 := Hr.out.fuse.cell 0 (by simp)
      have c1 := Hr.out.fuse.cell 1 (by simp)
      have c2 := Hr.out.fuse.cell 2 (by simp)
      have d0 := Hr.out.res.cell 0 (by simp)
      have d1 := Hr.out.res.cell 1 (by simp)
      have d2 := Hr.out.res.cell 2 (by simp)
      simp only [List.getD_cons_zero, List.getD_cons_succ] at c0 c1 c2 d0 d1 d2
      have z0 := Hr.out.res.frozen 0
      have z1 := Hr.out.res.frozen 1
      have z2 := Hr.out.res.frozen 2
      by_cases hlt : k < len
      · obtain ⟨b, o, rfl, hcx, hbs⟩ := (Ha.out.stays Hr.out.below (Nat.le_refl _)).2.2.1 k hlt
        have lx := Ha.out.bound hlt
        have hcap := Ha.out.2.1
        have Hs := Lib.hid (runU_step l c t hk (show k < zs.length by omega))
        have hF : heatR hk l c (zs.getD k 0) t = heatV hk l c (zs.getD k 0) t := by
          unfold heatR okU
          rw [Hk.out, Hc.out.1, Hc.out.2, Hta.out]; rfl
        have hI := fun w => HI.out hk (zs.getD k 0) lhk lx w
        rw [hF] at hI
        clear hF
        have Hz := Lib.hid hz
        clear hz
        generalize zs.getD k 0 = x at *
        cases hh : heat hk c x t with
        | none =>
          have hV : heatV hk l c x t = .tuple #[.agg #[.float .f32 0, .float .f32 0, .float .f32 0], .bool false, .bool false] := by unfold heatV; rw [hh]; rfl
          rw [hV] at hI
          have Hf := Lib.hid (show runR h l c t zs = noR by rw [He.out, Hu.out, Hs.out, hh]; rfl)
          clear hV hh Hs Hu He
          go_wp2_with fail
          refine (hI _).mono ?_
          rintro en w4 ⟨rfl, hb4⟩
          have R4 := Lib.hid (Hr.out.call hb4)
          have HL := Lib.hid (Nat.lt_of_lt_of_le R4.out.res.lt (Nat.le_refl _))
          clear c0 c1 c2 d0 d1 d2 z0 z1 z2 hb4 Hr
          go_upto_region 7 with fail
          have R5 := Lib.hid (R4.out.alloc (.cells [Value.float .f32 0, .float .f32 0, .float .f32 0].toArray 39))
          have N5 := Lib.hid (RL.new w4 [Value.float .f32 0, .float .f32 0, .float .f32 0] 39)
          clear R4
          generalize hG : w4.heap.size = G at *
          generalize (w4.alloc (.cells [Value.float .f32 0, .float .f32 0, .float .f32 0].toArray 39)) = W5 at *
          have n0 := N5.out.cell 0 (by simp)
          have n1 := N5.out.cell 1 (by simp)
          have n2 := N5.out.cell 2 (by simp)
          have c0 := R5.out.fuse.cell 0 (by simp)
          have c1 := R5.out.fuse.cell 1 (by simp)
          have c2 := R5.out.fuse.cell 2 (by simp)
          have d0 := R5.out.res.cell 0 (by simp)
          have d1 := R5.out.res.cell 1 (by simp)
          have d2 := R5.out.res.cell 2 (by simp)
          simp only [List.getD_cons_zero, List.getD_cons_succ] at n0 n1 n2 c0 c1 c2 d0 d1 d2
          have z0 := R5.out.res.frozen 0
          have z1 := R5.out.res.frozen 1
          have z2 := R5.out.res.frozen 2
          have y0 := R5.out.fuse.frozen 0
          have y1 := R5.out.fuse.frozen 1
          have y2 := R5.out.fuse.frozen 2
          go_wp2_with fail
          obtain ⟨RR, BB⟩ := R5.out.fin 0 0 0
          have e0 := RR.cell 0 (by simp)
          have e1 := RR.cell 1 (by simp)
          have e2 := RR.cell 2 (by simp)
          simp only [List.getD_cons_zero, List.getD_cons_succ] at e0 e1 e2
          try simp only [Exit.inBlock, Exit.then]
          refine bodyPost_ret (by simp [results, Try.results24, go_sem, e0, e1, e2]; try rfl) rfl ?_
          exact ⟨by rw [Hf.out]; rfl, BB⟩
        | some r =>
          have hV : heatV hk l c x t = .tuple #[.agg #[.float .f32 r, .float .f32 l, .float .f32 c], .bool (geF .f32 r l), .bool true] := by unfold heatV; rw [hh]; rfl
          rw [hV] at hI
          obtain ⟨hr1, hr2, hr3⟩ := heat_some hh
          have Hr1 := Lib.hid hr1
          cases hg : geF .f32 r l
          · rw [hg] at hI
            have Hf := Lib.hid (show runU l c t h zs 0 = runU l c t r (zs.drop (k + 1)) (k + 1) by rw [Hu.out, Hs.out, hh]; simp [hg])
            clear hV hh Hs Hu hr1 hr3 hg
            go_wp2_with fail
            refine (hI _).mono ?_
            rintro en w4 ⟨rfl, hb4⟩
            have R4 := Lib.hid (Hr.out.call hb4)
            have HL := Lib.hid (Nat.lt_of_lt_of_le R4.out.res.lt (Nat.le_refl _))
            clear c0 c1 c2 d0 d1 d2 z0 z1 z2 hb4 Hr
            go_upto_region 7 with fail
            have R5 := Lib.hid (R4.out.alloc (.cells [Value.float .f32 r, .float .f32 l, .float .f32 c].toArray 39))
            have N5 := Lib.hid (RL.new w4 [Value.float .f32 r, .float .f32 l, .float .f32 c] 39)
            clear R4
            generalize hG : w4.heap.size = G at *
            generalize (w4.alloc (.cells [Value.float .f32 r, .float .f32 l, .float .f32 c].toArray 39)) = W5 at *
            have n0 := N5.out.cell 0 (by simp)
            have n1 := N5.out.cell 1 (by simp)
            have n2 := N5.out.cell 2 (by simp)
            have c0 := R5.out.fuse.cell 0 (by simp)
            have c1 := R5.out.fuse.cell 1 (by simp)
            have c2 := R5.out.fuse.cell 2 (by simp)
            have d0 := R5.out.res.cell 0 (by simp)
            have d1 := R5.out.res.cell 1 (by simp)
            have d2 := R5.out.res.cell 2 (by simp)
            simp only [List.getD_cons_zero, List.getD_cons_succ] at n0 n1 n2 c0 c1 c2 d0 d1 d2
            have z0 := R5.out.res.frozen 0
            have z1 := R5.out.res.frozen 1
            have z2 := R5.out.res.frozen 2
            have y0 := R5.out.fuse.frozen 0
            have y1 := R5.out.fuse.frozen 1
            have y2 := R5.out.fuse.frozen 2
            have R6 := Lib.hid (R5.out.next r l c)
            go_wp2_with fail
            go_roundw
            case rel => exact ⟨k + 1, r, by omega, by go_num, hr2, Hr1, R6, Hf⟩
            case measure => go_light; simp [intOf]; omega
          · rw [hg] at hI
            have Hf := Lib.hid (show runR h l c t zs = .tuple #[.int .i64 k, .agg #[.float .f32 r, .float .f32 l, .float .f32 c], .bool true] by rw [He.out, Hu.out, Hs.out, hh]; simp [hg, runV, UV])
            clear hV hh Hs Hu hr1 hr3 hg
            go_wp2_with fail
            refine (hI _).mono ?_
            rintro en w4 ⟨rfl, hb4⟩
            have R4 := Lib.hid (Hr.out.call hb4)
            have HL := Lib.hid (Nat.lt_of_lt_of_le R4.out.res.lt (Nat.le_refl _))
            clear c0 c1 c2 d0 d1 d2 z0 z1 z2 hb4 Hr
            go_upto_region 7 with fail
            have R5 := Lib.hid (R4.out.alloc (.cells [Value.float .f32 r, .float .f32 l, .float .f32 c].toArray 39))
            have N5 := Lib.hid (RL.new w4 [Value.float .f32 r, .float .f32 l, .float .f32 c] 39)
            clear R4
            generalize hG : w4.heap.size = G at *
            generalize (w4.alloc (.cells [Value.float .f32 r, .float .f32 l, .float .f32 c].toArray 39)) = W5 at *
            have n0 := N5.out.cell 0 (by simp)
            have n1 := N5.out.cell 1 (by simp)
            have n2 := N5.out.cell 2 (by simp)
            have c0 := R5.out.fuse.cell 0 (by simp)
            have c1 := R5.out.fuse.cell 1 (by simp)
            have c2 := R5.out.fuse.cell 2 (by simp)
            have d0 := R5.out.res.cell 0 (by simp)
            have d1 := R5.out.res.cell 1 (by simp)
            have d2 := R5.out.res.cell 2 (by simp)
            simp only [List.getD_cons_zero, List.getD_cons_succ] at n0 n1 n2 c0 c1 c2 d0 d1 d2
            have z0 := R5.out.res.frozen 0
            have z1 := R5.out.res.frozen 1
            have z2 := R5.out.res.frozen 2
            have y0 := R5.out.fuse.frozen 0
            have y1 := R5.out.fuse.frozen 1
            have y2 := R5.out.fuse.frozen 2
            go_wp2_with fail
            go_region
            all_goals go_wp2_with fail
            all_goals
              obtain ⟨RR, BB⟩ := R5.out.fin r l c
              have e0 := RR.cell 0 (by simp)
              have e1 := RR.cell 1 (by simp)
              have e2 := RR.cell 2 (by simp)
              simp only [List.getD_cons_zero, List.getD_cons_succ] at e0 e1 e2
              try simp only [Exit.inBlock, Exit.then]
              refine bodyPost_ret (by simp [results, Try.results24, go_sem, e0, e1, e2]; try rfl) rfl ?_
              exact ⟨by rw [Hf.out], BB.trans ((below_drawn _ 1).mono BB.size)⟩
      · obtain rfl : k = len := by omega
        have Hf := Lib.hid (show runR h l c t zs = .tuple #[.int .i64 (-1), .agg #[.float .f32 hk, .float .f32 l, .float .f32 c], .bool true] by rw [He.out, Hu.out]; subst hz; rw [runU_end]; rfl)
        go_wp2_with fail
        go_region
        all_goals go_wp2_with fail
        all_goals
          obtain ⟨RR, BB⟩ := Hr.out.fin hk l c
          have e0 := RR.cell 0 (by simp)
          have e1 := RR.cell 1 (by simp)
          have e2 := RR.cell 2 (by simp)
          simp only [List.getD_cons_zero, List.getD_cons_succ] at e0 e1 e2
          try simp only [Exit.inBlock, Exit.then]
          refine bodyPost_ret (by simp [results, Try.results24, go_sem, e0, e1, e2]; try rfl) rfl ?_
          exact ⟨by rw [Hf.out], BB.trans ((below_drawn _ 1).mono BB.size)⟩
end Go.Proofs.Ythkjikennlaelaa
