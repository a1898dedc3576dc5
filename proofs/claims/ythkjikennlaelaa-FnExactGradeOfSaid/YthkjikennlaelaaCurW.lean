/-
  The time of a curve at a current, in the reference. No theorem of a claim stands here.
-/
import Derived.Test.YthkjikennlaelaaCurV
import Derived.Test.YthkjikennlaelaaCurS
set_option linter.unusedVariables false
set_option linter.unusedSimpArgs false
set_option maxRecDepth 8000
namespace Go.Proofs.Ythkjikennlaelaa
open Go Go.RowKit Go.Deep Go.Proofs.Ythkjikennlaelaa.Fl

def TimeQ (C T : List Nat) (x : Nat) (w : World) (en : Ending) (w' : World) : Prop := ∃ r, en = .returned (.tuple #[.float .f32 r, .bool (timeF C T x).isSome]) ∧ r < 2 ^ 32 ∧ vl .f32 r = (timeF C T x).getD (some 0) ∧ Below w.heap.size w w'
set_option maxHeartbeats 4000000 in
theorem l07Time_any (a : Option Addr) (n c : Nat) (C : List Nat) (b : Option Addr) (m e : Nat) (T : List Nat) (x : Nat) (w : World) (ha : FRd w a n c C) (hb : FRd w b m e T) (ok : OkC C T) (g : Nat) (c0 : w.cell? ⟨g, 0, none⟩ = some (.slice a n c)) (c1 : w.cell? ⟨g, 1, none⟩ = some (.slice b m e)) :
    Calls Try.prog 60 #[.pointer (some ⟨g, 0, none⟩), .float .f32 x] w (TimeQ C T x w) := by
  have hC : C.length = n := ha.1
  have hT : T.length = m := hb.1
  have h2 := ok.two
  have h16 := ok.most
  have h3 := ok.len
  obtain rfl : m = n := by omega
  have Ok := Lib.hid ok
  have Ha := Lib.hid ha
  have Hb := Lib.hid hb
  clear ok ha hb
  unfold TimeQ
  obtain ⟨X, hX⟩ : ∃ X : Nat → Nat, ∀ i, C.getD i 0 = X i := ⟨_, fun _ => rfl⟩
  obtain ⟨Y, hY⟩ : ∃ Y : Nat → Nat, ∀ i, T.getD i 0 = Y i := ⟨_, fun _ => rfl⟩
  have HX := Lib.hid (And.intro hX hY)
  have HR := Lib.hid (fun (i : Nat) (hi : i < m) => show ∃ bb oo b2 o2, a = some ⟨bb, oo, none⟩ ∧ b = some ⟨b2, o2, none⟩ ∧ w.cell? ⟨bb, oo + i, none⟩ = some (.float .f32 (X i)) ∧ w.cell? ⟨b2, o2 + i, none⟩ = some (.float .f32 (Y i)) ∧ Y i < 2 ^ 32 from by
    obtain ⟨bb, oo, e1, q1, _⟩ := Ha.out.2.2.1 i hi
    obtain ⟨b2, o2, e2, q2, _⟩ := Hb.out.2.2.1 i hi
    rw [hX] at q1
    rw [hY] at q2
    exact ⟨bb, oo, b2, o2, e1, e2, q1, q2, by rw [← hY]; exact Hb.out.bound hi⟩)
  clear hX hY
  obtain ⟨bb, oo, b2, o2, rfl, rfl, hc0, ht0, _⟩ := HR.out 0 (by omega)
  have hcap := Ha.out.2.1
  have hcap2 := Hb.out.2.1
  have HC := Lib.hid (fun (i : Nat) (hi : i < m) => show w.cell? ⟨bb, oo + i, none⟩ = some (.float .f32 (X i)) ∧ w.cell? ⟨b2, o2 + i, none⟩ = some (.float .f32 (Y i)) ∧ Y i < 2 ^ 32 from by
    obtain ⟨_, _, _, _, e1, e2, q1, q2, q3⟩ := HR.out i hi
    cases e1
    cases e2
    exact ⟨q1, q2, q3⟩)
  clear HR
  rw [Nat.add_zero] at hc0 ht0
  cases hg0 : geF .f32 x (X 0)
  · have hg' : (FloatKind.f32.format.order x (X 0) == some .gt || FloatKind.f32.format.order x (X 0) == some .eq) = false := hg0
    have He := Lib.hid (show timeF C T x = none from timeF_none Ok.out (by rw [HX.out.1]; exact hg0))
    clear hg0
    go_enter Try.func60, Try.ntmps60
    go_wp2_with fail
    go_ret2
    exact ⟨0, by rw [He.out]; rfl, by decide, by rw [He.out]; exact vl_zero _, Below.refl _ _⟩
  · have hg' : (FloatKind.f32.format.order x (X 0) == some .gt || FloatKind.f32.format.order x (X 0) == some .eq) = true := hg0
    have Hg0 := Lib.hid hg0
    clear hg0
    go_enter Try.func60, Try.ntmps60
    go_wp2_with fail
    clear hg' hc0 ht0
    go_loopw [7] (fun I wr => ∃ i : Nat, i < m ∧ I = .int .i64 ((i : Int) + 1) ∧ wr = w ∧ Hid (geF .f32 x (X i) = true)) (fun I _ => m + 1 - (intOf I).toNat)
    case atStart => exact ⟨0, by omega, by simp, rfl, Hg0⟩
    case round =>
      clear Hg0
      obtain ⟨j, hj, rfl, rfl, Hg⟩ := hrel
      obtain ⟨p1, t1, lt1⟩ := HC.out j hj
      by_cases hlt : j + 1 < m
      · obtain ⟨p2, t2, _⟩ := HC.out (j + 1) hlt
        have hlt' : (j : Int) + 1 < m := by omega
        cases hl : ltF .f32 x (X (j + 1))
        · have hl' : (FloatKind.f32.format.order x (X (j + 1)) == some .lt) = false := hl
          have Hn := Lib.hid (show geF .f32 x (X (j + 1)) = true by
            have hv := (geF_num Hg.out).1
            have hw : vl .f32 (X (j + 1)) = some (X (j + 1)) := by have := (Ok.out.cur (j + 1) (by omega)).2.1; rwa [HX.out.1] at this
            rw [ge_not_lt hv hw, hl]; rfl)
          clear hl
          go_wp2_with fail
          go_roundw
          case rel => exact ⟨j + 1, hlt, by go_num, by first | rfl | trivial, Hn⟩
          case measure => go_light; simp [intOf]; omega
        · have hl' : (FloatKind.f32.format.order x (X (j + 1)) == some .lt) = true := hl
          have He := Lib.hid (show timeF C T x = some (segT C T x j) from timeF_seg Ok.out (by omega) (by rw [HX.out.1]; exact Hg.out) (by rw [HX.out.1]; exact hl))
          have Hseg := Lib.hid (show segT C T x j = fop .add .f32 (vl .f32 (Y j)) (fop .mul .f32 (fop .sub .f32 (vl .f32 (Y (j + 1))) (vl .f32 (Y j))) (fop .quo .f32 (fop .sub .f32 (vl .f32 x) (vl .f32 (X j))) (fop .sub .f32 (vl .f32 (X (j + 1))) (vl .f32 (X j))))) by unfold segT; rw [HX.out.1, HX.out.1, HX.out.2, HX.out.2])
          have hadd := fun x y w => run_fov (P := Try.prog) .add rfl 28 .f32 x y w
          have hsub := fun x y w => run_fov (P := Try.prog) .sub rfl 28 .f32 x y w
          have hquo := fun x y w => run_fov (P := Try.prog) .quo rfl 28 .f32 x y w
          have hmul := fun x y w => run_fov (P := Try.prog) .mul rfl 28 .f32 x y w
          clear hl HC HX
          go_wp2_with fail
          go_region
          all_goals go_wp2_with fail
          all_goals go_ret2
          all_goals exact ⟨_, by rw [He.out]; rfl, fov_lt _ _ _ _ _, by rw [He.out, Hseg.out]; simp only [vl_fov]; rfl, (below_drawn _ _)⟩
      · obtain rfl : m = j + 1 := by omega
        have He := Lib.hid (show timeF C T x = some (vl .f32 (Y j)) by
          have h := timeF_last (C := C) (T := T) (x := x) Ok.out (by rw [hC, Nat.add_sub_cancel, HX.out.1]; exact Hg.out)
          rw [hC, Nat.add_sub_cancel, HX.out.2] at h
          exact h)
        clear HC HX
        go_wp2_with fail
        go_ret2
        exact ⟨Y j, by rw [He.out]; rfl, lt1, by rw [He.out]; rfl, Below.refl _ _⟩
set_option maxHeartbeats 4000000 in
theorem specTime_any (a : Option Addr) (n c : Nat) (C : List Nat) (b : Option Addr) (m e : Nat) (T : List Nat) (x : Nat) (w : World) (ha : FRd w a n c C) (hb : FRd w b m e T) :
    Calls Try.prog 32 #[CV a n c b m e, .float .f32 x] w (TimeP C T x w) := by
  have S0 := Lib.hid (cst_new w a n c b m e)
  have hV := fun (w' : World) (hB : Below w.heap.size w w') => l07Is_any a n c C b m e T w' (ha.stays hB (Nat.le_refl _)) (hb.stays hB (Nat.le_refl _))
  have hQ := fun (ok : OkC C T) (w' : World) (hB : Below w.heap.size w w') => l07Time_any a n c C b m e T x w' (ha.stays hB (Nat.le_refl _)) (hb.stays hB (Nat.le_refl _)) ok
  clear ha hb
  unfold RB7 at hV
  unfold TimeQ at hQ
  unfold CV TimeP
  have HV := Lib.hid hV
  have HQ := Lib.hid hQ
  clear hV hQ
  go_enter Try.func32, Try.ntmps32
  go_upto_region 1 with fail
  generalize (w.alloc (.cells #[.slice a n c, .slice b m e] 26)) = W at *
  have c0 := S0.out.box.cell 0 (by simp)
  have c1 := S0.out.box.cell 1 (by simp)
  simp only [List.getD_cons_zero, List.getD_cons_succ] at c0 c1
  go_wp2_with fail
  refine (HV.out _ S0.out.below _ c0 c1).mono ?_
  rintro en w1 ⟨rfl, hb1⟩
  have S1 := Lib.hid (S0.out.call hb1)
  clear hb1 c0 c1 S0 HV
  cases hok : okC C T
  · have He := Lib.hid (show timeR C T x = none by unfold timeR; rw [hok]; rfl)
    clear hok
    go_wp2_with fail
    go_ret2
    exact ⟨0, by rw [He.out]; rfl, by decide, by rw [He.out]; exact vl_zero _, S1.out.below⟩
  · have Ok := Lib.hid (okC_true hok)
    have He := Lib.hid (show timeR C T x = timeF C T x by unfold timeR; rw [hok]; rfl)
    have c0 := S1.out.box.cell 0 (by simp)
    have c1 := S1.out.box.cell 1 (by simp)
    simp only [List.getD_cons_zero, List.getD_cons_succ] at c0 c1
    go_wp2_with fail
    refine (HQ.out Ok.out _ S1.out.below _ c0 c1).mono ?_
    rintro en w2 ⟨r, rfl, hr, hv, hb2⟩
    have S2 := Lib.hid (S1.out.call hb2)
    have Hv := Lib.hid hv
    clear hb2 c0 c1 S1 HQ hok hv
    go_wp2_with fail
    go_ret2
    exact ⟨r, by rw [He.out]; rfl, hr, by rw [He.out]; exact Hv.out, S2.out.below⟩
end Go.Proofs.Ythkjikennlaelaa
