/-
  The walk of the law on runs of fuses.
-/
import Derived.Test.YthkjikennlaelaaFuseT
import Derived.Test.YthkjikennlaelaaRowC
set_option linter.unusedVariables false
set_option linter.unusedSimpArgs false
set_option maxRecDepth 8000
namespace Go.Proofs.Ythkjikennlaelaa.fnExactRunFuse
open Go Go.RowKit Go.Deep Go.Proofs.Ythkjikennlaelaa.Fl Go.Proofs.Ythkjikennlaelaa

theorem runR_form (h l c t : Nat) (zs : List Nat) : ∃ i a b d q, runR h l c t zs = .tuple #[.int .i64 i, .agg #[.float .f32 a, .float .f32 b, .float .f32 d], .bool q] := by
  unfold runR
  split
  · unfold runV
    cases runU l c t h zs 0 with
    | none => exact ⟨0, 0, 0, 0, false, rfl⟩
    | some p => exact ⟨p.1, p.2, l, c, true, rfl⟩
  · exact ⟨0, 0, 0, 0, false, rfl⟩
set_option maxHeartbeats 4000000 in
theorem walk (h l c : Nat) (a : Option Addr) (len cap : Nat) (zs : List Nat) (t : Nat) (w : World) (lh : h < 2 ^ 32) (ll : l < 2 ^ 32) (lc : c < 2 ^ 32) (ha : FRd w a len cap zs) (lt : t < 2 ^ 32) :
    Calls Try.prog 13 #[.agg #[.float .f32 h, .float .f32 l, .float .f32 c], .slice a len cap, .float .f32 t] w fun en w' => en = .returned (.bool true) ∧ Below w.heap.size w w' := by
  have hst := fun (a : Addr) (v : Nat) (m : Mode) (w : World) => run_store Try.prog w a (.float .f32 v) m rfl
  have T := bx1 w [.float .f32 h, .float .f32 l, .float .f32 c] 57
  have K0 := Lib.hid T.1
  have B0 := Lib.hid T.2
  have S0 := Lib.hid (show w.heap.size < (w.alloc (.cells [Value.float .f32 h, .float .f32 l, .float .f32 c].toArray 57)).heap.size by simp)
  clear T
  by_cases hl : len ≤ 1048576
  · have hl' : ¬ (1048576 : Int) < len := by omega
    have hlt := ha.2.2.2
    have Ha := Lib.hid ha
    have hz : zs.length = len := ha.1
    clear ha
    have hT := fun w : World => toFuse_any h l c w
    have hS := Lib.hid (fun (w : World) (b : Option Addr) (cap : Nat) (hb : FRd w b len cap zs) => specRun_any h l c t b len cap zs lh ll lc lt w hb hl)
    have hI := Lib.hid (fun (w : World) (b : Option Addr) (cap : Nat) (hb : FRd w b len cap zs) => implRun_any h l c t b len cap zs lh ll lc lt w hb hl)
    obtain ⟨i, x, y, z, q, hF⟩ := runR_form h l c t zs
    rw [hF] at hS hI
    clear hF lh ll lc lt
    unfold UV RB7 at *
    have hi : ((i : Int) != i) = false := by simp
    have hq : (q != q) = false := by simp
    have Hlt := Lib.hid hlt
    have Hl := Lib.hid hl
    have Hz := Lib.hid hz
    clear hlt hz
    go_enter Try.func13, Try.ntmps13
    go_upto_region 3 with fail
    generalize (w.alloc (.cells [Value.float .f32 h, .float .f32 l, .float .f32 c].toArray 57)) = W at *
    have q0 := K0.out.cell 0 (by simp)
    have q1 := K0.out.cell 1 (by simp)
    have q2 := K0.out.cell 2 (by simp)
    simp only [List.getD_cons_zero, List.getD_cons_succ] at q0 q1 q2
    go_wp2_with fail
    refine (hT _).mono ?_
    rintro en w1 ⟨rfl, hb1⟩
    have B1 := Lib.hid (B0.out.trans (hb1.mono B0.out.size))
    have K1 := Lib.hid (K0.out.below hb1 S0.out)
    have S1 := Lib.hid (Nat.lt_of_lt_of_le S0.out hb1.size)
    clear hb1 K0 S0 B0 q0 q1 q2
    go_wp2_with fail
    refine (copyF_any _ a len cap zs (Ha.out.stays B1.out (Nat.le_refl _)) Hl.out).mono ?_
    rintro en w2 ⟨rfl, hO2, hb2, _⟩
    have B2 := Lib.hid (B1.out.trans (hb2.mono B1.out.size))
    have K2 := Lib.hid (K1.out.below hb2 S1.out)
    have S2 := Lib.hid (Nat.lt_of_lt_of_le S1.out hb2.size)
    have F2 := Lib.hid (show FRd w2 (some ⟨w1.heap.size, 0, none⟩) len len zs by have := hO2; rw [← Hz.out] at this ⊢; exact this.reads Hlt.out)
    clear hb2 K1 S1 B1 hO2
    go_wp2_with fail
    refine (hS.out _ _ _ F2.out).mono ?_
    rintro en w3 ⟨rfl, hb3⟩
    have B3 := Lib.hid (B2.out.trans (hb3.mono B2.out.size))
    have K3 := Lib.hid (K2.out.below hb3 S2.out)
    have S3 := Lib.hid (Nat.lt_of_lt_of_le S2.out hb3.size)
    clear hb3 K2 S2 B2 F2 hS
    go_upto_region 4 with fail
    have K4 := Lib.hid (K3.out.allocd (.cells [Value.float .f32 x, .float .f32 y, .float .f32 z].toArray 39))
    have N4 := Lib.hid (RL.new w3 [Value.float .f32 x, .float .f32 y, .float .f32 z] 39)
    have B4 := Lib.hid (B3.out.alloc B3.out.size (.cells [Value.float .f32 x, .float .f32 y, .float .f32 z].toArray 39))
    clear K3 S3 B3
    generalize hG : w3.heap.size = G at *
    generalize (w3.alloc (.cells [Value.float .f32 x, .float .f32 y, .float .f32 z].toArray 39)) = W4 at *
    go_wp2_with fail
    refine (copyF_any _ a len cap zs (Ha.out.stays B4.out (Nat.le_refl _)) Hl.out).mono ?_
    rintro en w5 ⟨rfl, hO5, hb5, _⟩
    have B5 := Lib.hid (B4.out.trans (hb5.mono B4.out.size))
    have K5 := Lib.hid (K4.out.below hb5 K4.out.lt)
    have N5 := Lib.hid (N4.out.below hb5 N4.out.lt)
    have F5 := Lib.hid (show FRd w5 (some ⟨W4.heap.size, 0, none⟩) len len zs by have := hO5; rw [← Hz.out] at this ⊢; exact this.reads Hlt.out)
    clear hb5 K4 N4 B4 hO5
    generalize hJ : W4.heap.size = J at *
    have q0 := K5.out.cell 0 (by simp)
    have q1 := K5.out.cell 1 (by simp)
    have q2 := K5.out.cell 2 (by simp)
    simp only [List.getD_cons_zero, List.getD_cons_succ] at q0 q1 q2
    go_wp2_with fail
    refine (hT _).mono ?_
    rintro en w6 ⟨rfl, hb6⟩
    have B6 := Lib.hid (B5.out.trans (hb6.mono B5.out.size))
    have N6 := Lib.hid (N5.out.below hb6 N5.out.lt)
    have F6 := Lib.hid (F5.out.stays hb6 (Nat.le_refl _))
    clear hb6 K5 N5 B5 F5 q0 q1 q2
    go_wp2_with fail
    refine (hI.out _ _ _ F6.out).mono ?_
    rintro en w7 ⟨rfl, hb7⟩
    have B7 := Lib.hid (B6.out.trans (hb7.mono B6.out.size))
    have N7 := Lib.hid (N6.out.below hb7 N6.out.lt)
    have F7 := Lib.hid (F6.out.stays hb7 (Nat.le_refl _))
    clear hb7 N6 B6 F6 hI
    go_upto_region 6 with fail
    have N8 := Lib.hid (N7.out.allocd (.cells [Value.float .f32 x, .float .f32 y, .float .f32 z].toArray 39))
    have M8 := Lib.hid (RL.new w7 [Value.float .f32 x, .float .f32 y, .float .f32 z] 39)
    have B8 := Lib.hid (B7.out.alloc B7.out.size (.cells [Value.float .f32 x, .float .f32 y, .float .f32 z].toArray 39))
    have F8 := Lib.hid (F7.out.stays ((Below.refl _ w7).alloc (Nat.le_refl _) (.cells [Value.float .f32 x, .float .f32 y, .float .f32 z].toArray 39)) (Nat.le_refl _))
    clear N7 B7 F7
    generalize hH : w7.heap.size = H at *
    generalize (w7.alloc (.cells [Value.float .f32 x, .float .f32 y, .float .f32 z].toArray 39)) = W8 at *
    have n0 := N8.out.cell 0 (by simp)
    have n1 := N8.out.cell 1 (by simp)
    have n2 := N8.out.cell 2 (by simp)
    have m0 := M8.out.cell 0 (by simp)
    have m1 := M8.out.cell 1 (by simp)
    have m2 := M8.out.cell 2 (by simp)
    simp only [List.getD_cons_zero, List.getD_cons_succ] at n0 n1 n2 m0 m1 m2
    go_wp2_with fail
    refine (eqU_any x y z _).mono ?_
    rintro en w9 ⟨rfl, hb9⟩
    have B9 := Lib.hid (B8.out.trans (hb9.mono B8.out.size))
    have F9 := Lib.hid (F8.out.stays hb9 (Nat.le_refl _))
    clear hb9 N8 M8 B8 F8 n0 n1 n2 m0 m1 m2
    go_wp2_with fail
    refine (copyF_any _ a len cap zs (Ha.out.stays B9.out (Nat.le_refl _)) Hl.out).mono ?_
    rintro en w10 ⟨rfl, hO10, hb10, _⟩
    have B10 := Lib.hid (B9.out.trans (hb10.mono B9.out.size))
    have F10 := Lib.hid (F9.out.stays hb10 (Nat.le_refl _))
    have E10 := Lib.hid (show FRd w10 (some ⟨w9.heap.size, 0, none⟩) len len zs by have := hO10; rw [← Hz.out] at this ⊢; exact this.reads Hlt.out)
    clear hb10 hO10 B9 F9
    go_wp2_with fail
    refine (eqF_any _ _ _ _ _ _ _ F10.out E10.out Hl.out).mono ?_
    rintro en w11 ⟨m, rfl, rfl⟩
    go_wp2_with fail
    go_ret
    exact ⟨rfl, B10.out.trans ((below_drawn _ m).mono B10.out.size)⟩
  · have hl' : (1048576 : Int) < len := by omega
    go_enter Try.func13, Try.ntmps13
    go_wp2_with fail
    go_ret
    exact ⟨rfl, B0.out⟩
end Go.Proofs.Ythkjikennlaelaa.fnExactRunFuse
