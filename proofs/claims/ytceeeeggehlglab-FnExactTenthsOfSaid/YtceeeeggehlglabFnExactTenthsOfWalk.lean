/-
  The walk of the law on tenths of decibels.
-/
import Derived.Test.YtceeeeggehlglabTenI
import Derived.Test.YtceeeeggehlglabTenS
set_option linter.unusedSimpArgs false
set_option linter.unusedVariables false
namespace Go.Proofs.Ytceeeeggehlglab.fnExactTenthsOf
open Go Go.RowKit Go.Proofs.Ytceeeeggehlglab.Fl

def okT (b : Nat) : Bool := fin .f32 (vl .f32 b) && !(FloatKind.f32.format.order b 0 == some .lt) && !(FloatKind.f32.format.order b 0 == some .eq)
def TV (b : Nat) (v : Int) : Prop := if okT b then ∀ r, vl .f64 r = fcv .f32 .f64 (vl .f32 b) → TenOf r v else v = 0
def TRet (b : Nat) (w : World) (e : Ending) (w' : World) : Prop := ∃ v k, e = .returned (.tuple #[.int .i64 v, .bool (okT b)]) ∧ w' = w.drewN k ∧ TV b v

theorem tv_unique {b : Nat} {v v' : Int} (w : World) (h : TV b v) (g : TV b v') : v = v' := by
  unfold TV at h g
  split at h
  · rename_i h1
    rw [if_pos h1] at g
    exact tenOf_unique (h _ (vl_cvv b w)) (g _ (vl_cvv b w))
  · rename_i h1
    rw [if_neg h1] at g
    rw [h, g]

theorem okT_true {b : Nat} (h : okT b = true) : fin .f32 (vl .f32 b) = true ∧ (FloatKind.f32.format.order b 0 == some .lt) = false ∧ (FloatKind.f32.format.order b 0 == some .eq) = false := by
  unfold okT at h
  cases h1 : fin .f32 (vl .f32 b) <;> cases h2 : (FloatKind.f32.format.order b 0 == some .lt) <;> cases h3 : (FloatKind.f32.format.order b 0 == some .eq) <;> simp_all

theorem pow_same {b r r' : Nat} (hP : Pow r) (hr : vl .f64 r = fcv .f32 .f64 (vl .f32 b)) (h : vl .f64 r' = fcv .f32 .f64 (vl .f32 b)) : r' = r := by
  rw [← hr, fin_vl hP.p.1] at h
  exact vl_some h

theorem spec_at (b : Nat) (hb : b < 2 ^ 32) (hok : okT b = true) (w : World) : Calls Try.prog 23 #[.float .f32 b] w fun e w' => ∃ v k, e = .returned (.int .i64 v) ∧ w' = w.drewN k ∧ TV b v := by
  obtain ⟨hf, hl, he⟩ := okT_true hok
  obtain ⟨r, hr⟩ : ∃ r, r = cvv b w := ⟨_, rfl⟩
  have hv := vl_cvv b w
  have lr := cvv_lt b w
  rw [← hr] at hv lr
  have hP := widen_pow hf hl he hv
  have hcv : ∀ w', (convert 28 22 (.float .f32 b)).run Try.prog w' = .ok (.float .f64 r) (w'.drewN (cvn b)) := fun w' => by
    rw [run_cv, pow_same hP hv (vl_cvv b w')]
  have HT := Lib.hid (show ∀ v, TenOf r v → TV b v from fun v h => by
    unfold TV; rw [if_pos hok]; intro r' h'; rw [pow_same hP hv h']; exact h)
  clear hf hl he hr hv hok
  have hadd := fun x y w => run_fov (P := Try.prog) .add rfl 22 .f64 x y w
  have hmul := fun x y w => run_fov (P := Try.prog) .mul rfl 22 .f64 x y w
  go_enter Try.func23, Try.ntmps23
  go_wp2_with (go_at_call 37; refine (logWide_any r lr hP _).mono ?_; rintro e w' ⟨q, kq, rfl, hq, lq, rfl⟩; obtain ⟨n, a1, m, a, hL, hx⟩ := hq; obtain ⟨Y, y1, y2, y3⟩ := y_facts hP hL; have hti := fun w => run_convert_float_int (P := Try.prog) w 22 2 .f64 .i64 (flr Y) (tz (flr Y)) isSome_f64 Try.underlying2 y3; have Ht := Lib.hid (HT.out (tz (flr Y)) ⟨n, a1, m, a, Y, hL, y1, rfl⟩); have Hx := Lib.hid hx; have Hy := Lib.hid y1; have Hy2 := Lib.hid y2; clear hL hx y1 y2 y3)
  go_wp2_with (go_at_call 26; refine (Floor_at Y _ (by simp only [vl_fov]; rw [Hx.out]; exact Hy.out) Hy2.out _).mono ?_; rintro e w' ⟨mf, rfl, rfl⟩)
  go_ret
  exact ⟨_, _, rfl, rfl, Ht.out⟩

theorem tv_zero {b : Nat} (h : okT b = false) : TV b 0 := by unfold TV; rw [h, if_neg (by decide)]

theorem spec_any (b : Nat) (hb : b < 2 ^ 32) (w : World) : Calls Try.prog 9 #[.float .f32 b] w (TRet b w) := by
  cases hok : okT b
  · have Hz := Lib.hid (tv_zero hok)
    have Ho := Lib.hid hok
    unfold okT at hok
    cases h1 : fin .f32 (vl .f32 b)
    · have H1 := Lib.hid h1
      clear h1 hok
      go_enter Try.func9, Try.ntmps9
      go_wp2_with (go_at_call 22; refine (l01Finite_any b hb _).mono ?_; rintro e w' ⟨m, rfl, rfl⟩; rw [H1.out])
      go_ret2
      exact ⟨0, _, by (rw [Ho.out]; first | done | rfl), rfl, Hz.out⟩
    · rw [h1] at hok
      have H1 := Lib.hid h1
      clear h1
      cases h2 : (FloatKind.f32.format.order b 0 == some .lt)
      · rw [h2] at hok
        have h3 : (FloatKind.f32.format.order b 0 == some .eq) = true := by simpa using hok
        clear hok
        go_enter Try.func9, Try.ntmps9
        go_wp2_with (go_at_call 22; refine (l01Finite_any b hb _).mono ?_; rintro e w' ⟨m, rfl, rfl⟩; rw [H1.out])
        go_ret2
        exact ⟨0, _, by (rw [Ho.out]; first | done | rfl), rfl, Hz.out⟩
      · clear hok
        go_enter Try.func9, Try.ntmps9
        go_wp2_with (go_at_call 22; refine (l01Finite_any b hb _).mono ?_; rintro e w' ⟨m, rfl, rfl⟩; rw [H1.out])
        go_ret2
        exact ⟨0, _, by (rw [Ho.out]; first | done | rfl), rfl, Hz.out⟩
  · obtain ⟨hf, hl, he⟩ := okT_true hok
    have H1 := Lib.hid hf
    have Ho := Lib.hid hok
    clear hf hok
    go_enter Try.func9, Try.ntmps9
    go_wp2_with (first | (go_at_call 22; refine (l01Finite_any b hb _).mono ?_; rintro e w' ⟨m, rfl, rfl⟩; rw [H1.out]) | (go_at_call 23; refine (spec_at b hb Ho.out _).mono ?_; rintro e w' ⟨v, k, rfl, rfl, hv⟩; have Hv := Lib.hid hv; clear hv))
    go_ret2
    exact ⟨_, _, by (rw [Ho.out]; first | done | rfl), rfl, Hv.out⟩

theorem impl_any (b : Nat) (hb : b < 2 ^ 32) (w : World) : Calls Try.prog 10 #[.float .f32 b] w (TRet b w) := by
  cases hok : okT b
  · have Hz := Lib.hid (tv_zero hok)
    have Ho := Lib.hid hok
    unfold okT at hok
    cases h1 : fin .f32 (vl .f32 b)
    · have H1 := Lib.hid h1
      clear h1 hok
      go_enter Try.func10, Try.ntmps10
      go_wp2_with (go_at_call 24; refine (isFinite_any b hb _).mono ?_; rintro e w' ⟨m, rfl, rfl⟩; rw [H1.out])
      go_ret2
      exact ⟨0, _, by (rw [Ho.out]; first | done | rfl), rfl, Hz.out⟩
    · rw [h1] at hok
      have H1 := Lib.hid h1
      clear h1
      cases h2 : (FloatKind.f32.format.order b 0 == some .lt)
      · rw [h2] at hok
        have h3 : (FloatKind.f32.format.order b 0 == some .eq) = true := by simpa using hok
        clear hok
        go_enter Try.func10, Try.ntmps10
        go_wp2_with (go_at_call 24; refine (isFinite_any b hb _).mono ?_; rintro e w' ⟨m, rfl, rfl⟩; rw [H1.out])
        go_ret2
        exact ⟨0, _, by (rw [Ho.out]; first | done | rfl), rfl, Hz.out⟩
      · clear hok
        go_enter Try.func10, Try.ntmps10
        go_wp2_with (go_at_call 24; refine (isFinite_any b hb _).mono ?_; rintro e w' ⟨m, rfl, rfl⟩; rw [H1.out])
        go_ret2
        exact ⟨0, _, by (rw [Ho.out]; first | done | rfl), rfl, Hz.out⟩
  · obtain ⟨hf, hl, he⟩ := okT_true hok
    have hv := vl_cvv b w
    have lr := cvv_lt b w
    have hP := widen_pow hf hl he hv
    have hcv : ∀ w', (convert 28 22 (.float .f32 b)).run Try.prog w' = .ok (.float .f64 (cvv b w)) (w'.drewN (cvn b)) := fun w' => by
      rw [run_cv, pow_same hP hv (vl_cvv b w')]
    refine (tenths_core b (cvv b w) hb lr hf hl he hP hcv w).mono ?_
    rintro e w' ⟨v, k, rfl, rfl, h⟩
    refine ⟨v, k, by rw [hok], rfl, ?_⟩
    unfold TV
    rw [if_pos hok]
    intro r' h'
    rw [pow_same hP hv h']
    exact h

theorem walk (a0 : Nat) (w0 : (Lit.float .f32 a0).wf = true) (w : World) :
    Calls Try.prog 4 #[.float .f32 a0] w fun e w' => e = .returned (.bool true) ∧ Below w.heap.size w w' := by
  have hb : a0 < 2 ^ 32 := lt_of_wf w0
  go_enter Try.func4, Try.ntmps4
  go_wp2_with (first | (go_at_call 9; refine (spec_any a0 hb _).mono ?_; rintro e w' ⟨v1, k1, rfl, rfl, ht1⟩; have H1 := Lib.hid ht1; clear ht1) | (go_at_call 10; refine (impl_any a0 hb _).mono ?_; rintro e w' ⟨v2, k2, rfl, rfl, ht2⟩; obtain rfl := tv_unique w H1.out ht2; clear ht2))
  go_ret
  exact ⟨rfl, below_drawn _ _⟩
end Go.Proofs.Ytceeeeggehlglab.fnExactTenthsOf
