/-
  Phasors: the walk in the model. No theorem of a claim stands here.
-/
import Derived.Test.YtljclagfplildaaPhas
import Derived.Deep.DeepCutAuto
set_option linter.unusedVariables false
set_option maxRecDepth 8000
namespace Go.Proofs.Ytljclagfplildaa.Fl
open Go Go.RowKit

theorem l01From_nan (w : World) : Calls Try.prog 207 #[.int .i64 2143289344] w (VRet (.float .f32 2143289344) w) := by
  have hf := run_f32frombits
  go_enter Try.func207, Try.ntmps207
  go_wp2
  go_ret
  exact ⟨0, rfl, rfl⟩

theorem nan32 : vl .f32 2143289344 = none := by
  have e3 : FloatKind.f32.format.signWeight = 2147483648 := by decide
  have e2 : FloatKind.f32.format.infRung = 2139095040 := by decide
  unfold vl
  rw [show (FloatKind.f32.decode 2143289344).isNaN = true from ?_]; rfl
  show (FloatKind.f32.format.read _).isNaN = true
  rw [isNaN_read, e2, e3]; simp

theorem over_z {z : Nat} {x : Option Nat} (h : vl .f64 z = fop .sub .f64 (vl .f64 0) x) (hx : Bd .f64 118 x) : over .f64 .f32 (vl .f64 z) = false := by
  rw [h]; exact over_zsub hx
theorem bd_of {q g : Nat} (h : vl .f64 q = sineW g) : Bd .f64 118 (vl .f64 q) := by rw [h]; exact sineW_bd (some g)

set_option maxHeartbeats 4000000 in
theorem l01Phasor_any (b : Nat) (hb : b < 2 ^ 64) (w : World) : Calls Try.prog 161 #[.float .f64 b] w (CRet .f32 (PhOf b) w) := by
  have hsub := fun x y w => run_fov (P := Try.prog) .sub rfl 27 .f64 x y w
  have hf0 : (FloatKind.f64.format.order (fov .sub .f64 b b w) 0 != some .eq) = !fin .f64 (vl .f64 b) := by
    rw [bne, order_vl, vl_fov, sub_self]
  cases hfin : fin .f64 (vl .f64 b)
  · rw [hfin] at hf0
    have Hf := Lib.hid hfin
    clear hfin
    go_enter Try.func161, Try.ntmps161
    go_wp2_with (go_at_call 207; refine (l01From_nan _).mono ?_; rintro e w' ⟨m, rfl, rfl⟩)
    go_ret
    exact ⟨_, _, _, rfl, ph_not Hf.out nan32 nan32, by decide, by decide, rfl⟩
  · have hr := fin_iff.1 hfin
    by_cases hs : rung .f64 b < (52 + 1023) * 4503599627370496
    · have hbd := turn_bd hs
      have hsm := turn_some hs
      have hadd := fun x y w => run_fov (P := Try.prog) .add rfl 27 .f64 x y w
      have hti := fun w => run_convert_float_int (P := Try.prog) w 27 2 .f64 .i64 b (tz b) isSome_f64 Try.underlying2 (toInt_small hs)
      have hit2 := fun w => run_convert_int_float (P := Try.prog) w 2 27 .i64 .f64 (tz b) (by rw [Try.underlying2]; rfl) Try.underlying27
      obtain ⟨t, ht⟩ : ∃ t, t = floatOfInt .f64 (tz b) := ⟨_, rfl⟩
      rw [← ht] at hit2
      have Ht := Lib.hid ht
      clear ht
      rw [hfin] at hf0
      obtain ⟨T1, T2⟩ := lim_small hs
      clear hr hfin
      go_enter Try.func161, Try.ntmps161
      go_upto_if 26 with (fail)
      have Hlt := Lib.hid (show (FloatKind.f64.format.order (fov .sub .f64 b t (w.drewN (fon .sub .f64 b b))) 0 == some .lt) = ltB (beyond b) (vl .f64 0) by rw [order_vl, vl_fov, Ht.out]; rfl)
      clear hf0 T1 T2
      go_cut [3] (fun f wx => ∃ r n : Nat, f = .float .f64 r ∧ r < 2 ^ 64 ∧ Hid (vl .f64 r = turnV b) ∧ wx = w.drewN n)
      case first =>
        go_wp2
        · have hc : ltB (beyond b) (vl .f64 0) = true := by rw [← Hlt.out]; assumption
          go_meet
          case rel => exact ⟨_, _, rfl, fov_lt _ _ _ _ _, by show vl .f64 _ = _; rw [vl_fov, vl_fov, Ht.out]; unfold turnV; rw [hc]; rfl, rfl⟩
        · have hc : ltB (beyond b) (vl .f64 0) = false := by rw [← Hlt.out]; assumption
          go_meet
          case rel => exact ⟨_, _, rfl, fov_lt _ _ _ _ _, by show vl .f64 _ = _; rw [vl_fov, Ht.out]; unfold turnV; rw [hc]; rfl, rfl⟩
      case rest =>
      obtain ⟨r0, n0, rfl, hr0, V0, rfl⟩ := hcut
      clear hsub hadd hti hit2 Ht Hlt
      go_wp2
      go_loopw [3, 4] (fun f q wr => ∃ n r k : Nat, n ≤ 8 ∧ f = .float .f64 r ∧ q = .int .i64 n ∧ r < 2 ^ 64 ∧ Hid (vl .f64 r = itQ n (turnV b)) ∧ Hid (∀ i, i < n → geB (itQ i (turnV b)) (vl .f64 quarter64) = true) ∧ wr = w.drewN k) (fun _ q _ => 9 - (intOf q).toNat)
      case atStart => exact ⟨0, r0, _, by omega, rfl, rfl, hr0, V0, Lib.hid (fun i hi => absurd hi (Nat.not_lt_zero i)), rfl⟩
      case round =>
        obtain ⟨n, r, k, hn, rfl, rfl, hr, V, Hall, rfl⟩ := hrel
        have Hge := Lib.hid (show (FloatKind.f64.format.order r 4598175219545276416 == some .gt || FloatKind.f64.format.order r 4598175219545276416 == some .eq) = geB (itQ n (turnV b)) (vl .f64 quarter64) from ge_of quarter64 V.out)
        have Hs1 := Lib.hid (show ∀ q, vl .f64 q = fop .sub .f64 (vl .f64 quarter64) (vl .f64 r) → sineW q = cQ (turnV b) n from fun q hq => by
          unfold cQ; exact sineW_vl (by rw [hq, V.out]))
        have Hs2 := Lib.hid (show sineW r = sQ (turnV b) n from by unfold sQ; exact sineW_vl V.out)
        go_upto_if 30 with (fail)
        by_cases hc : geB (itQ n (turnV b)) (vl .f64 quarter64) = true
        · have hlt := itQ_lt hbd Hall.out hc
          have Hall2 := Lib.hid (show ∀ i, i < n + 1 → geB (itQ i (turnV b)) (vl .f64 quarter64) = true from fun i hi => by
            rcases (by omega : i < n ∨ i = n) with h | rfl
            · exact Hall.out i h
            · exact hc)
          go_wp2_with (first | (refine wpList_fop (o := ⟨some 32, _, _, _, _, _⟩) (by rfl) _ _ _ _ _ (by rfl) (by rfl) _ _ _ (by rfl) (by rfl) ?_; intro f1 f2 f3 f4))
          · go_roundw
            case rel => exact ⟨n + 1, _, _, by omega, rfl, by go_num, f3, Lib.hid (by rw [f4.out, V.out]; rfl), Hall2, rfl⟩
            case measure => simp only [intOf]; omega
          · exfalso
            rw [← Hge.out, Bool.or_eq_true] at hc
            simp_all
        · have hc' : geB (itQ n (turnV b)) (vl .f64 quarter64) = false := by simpa using hc
          rcases (by omega : n = 0 ∨ n = 1 ∨ n = 2 ∨ n = 3 ∨ n = 4 ∨ n = 5 ∨ n = 6 ∨ n = 7 ∨ n = 8) with rfl | rfl | rfl | rfl | rfl | rfl | rfl | rfl | rfl
          · go_wp2_with (first | (refine wpList_fop (o := ⟨some 36, _, _, _, _, _⟩) (by rfl) _ _ _ _ _ (by rfl) (by rfl) _ _ _ (by rfl) (by rfl) ?_; intro g1 g2 g3 g4; have Hs3 := Lib.hid (Hs1.out g1 g4.out)) | (have h_ := Hq1; clear h_; go_at_call 208; refine (sineWide_any r hr _).mono ?_; rintro e w' ⟨q2, m2, rfl, hq2, l2, rfl⟩; have B2 := bd_of hq2; have O2 := over_118 B2; have Hq2 := Lib.hid hq2; clear hq2) | (go_at_call 208; refine (sineWide_any g1 g3 _).mono ?_; rintro e w' ⟨q1, m1, rfl, hq1, l1, rfl⟩; have B1 := bd_of hq1; have O1 := over_118 B1; have Hq1 := Lib.hid hq1; clear hq1) | (refine wpList_fop (o := ⟨some 44, _, _, _, _, _⟩) (by rfl) _ _ _ _ _ (by rfl) (by rfl) _ _ _ (by rfl) (by rfl) ?_; intro z1 zn1 zl1 zv1; have zo1 := over_z zv1.out B2) | (refine wpList_fop (o := ⟨some 52, _, _, _, _, _⟩) (by rfl) _ _ _ _ _ (by rfl) (by rfl) _ _ _ (by rfl) (by rfl) ?_; intro z2 zn2 zl2 zv2; have zo2 := over_z zv2.out B1) | (refine wpList_fop (o := ⟨some 55, _, _, _, _, _⟩) (by rfl) _ _ _ _ _ (by rfl) (by rfl) _ _ _ (by rfl) (by rfl) ?_; intro z3 zn3 zl3 zv3; have zo3 := over_z zv3.out B2) | (refine wpList_fop (o := ⟨some 63, _, _, _, _, _⟩) (by rfl) _ _ _ _ _ (by rfl) (by rfl) _ _ _ (by rfl) (by rfl) ?_; intro z4 zn4 zl4 zv4; have zo4 := over_z zv4.out B1) | (have h_ := HN1; clear h_; go_at_call 169; refine (l01Narrow_any _ (by assumption) (by assumption) _).mono ?_; rintro e w' ⟨y2, mm2, rfl, hy2, ly2, rfl⟩; have HN2 := Lib.hid hy2; clear hy2) | (go_at_call 169; refine (l01Narrow_any _ (by assumption) (by assumption) _).mono ?_; rintro e w' ⟨y1, mm1, rfl, hy1, ly1, rfl⟩; have HN1 := Lib.hid hy1; clear hy1))
            · exfalso
              rw [← Hge.out, Bool.or_eq_false_iff] at hc'
              simp_all
            · go_ret
              exact ⟨y1, y2, _, rfl, ph_at hs ⟨Hall.out, hc'⟩ (by rw [HN1.out, Hq1.out, Hs3.out]; rfl) (by rw [HN2.out, Hq2.out, Hs2.out]; rfl), ly1, ly2, rfl⟩
          · go_wp2_with (first | (refine wpList_fop (o := ⟨some 36, _, _, _, _, _⟩) (by rfl) _ _ _ _ _ (by rfl) (by rfl) _ _ _ (by rfl) (by rfl) ?_; intro g1 g2 g3 g4; have Hs3 := Lib.hid (Hs1.out g1 g4.out)) | (have h_ := Hq1; clear h_; go_at_call 208; refine (sineWide_any r hr _).mono ?_; rintro e w' ⟨q2, m2, rfl, hq2, l2, rfl⟩; have B2 := bd_of hq2; have O2 := over_118 B2; have Hq2 := Lib.hid hq2; clear hq2) | (go_at_call 208; refine (sineWide_any g1 g3 _).mono ?_; rintro e w' ⟨q1, m1, rfl, hq1, l1, rfl⟩; have B1 := bd_of hq1; have O1 := over_118 B1; have Hq1 := Lib.hid hq1; clear hq1) | (refine wpList_fop (o := ⟨some 44, _, _, _, _, _⟩) (by rfl) _ _ _ _ _ (by rfl) (by rfl) _ _ _ (by rfl) (by rfl) ?_; intro z1 zn1 zl1 zv1; have zo1 := over_z zv1.out B2) | (refine wpList_fop (o := ⟨some 52, _, _, _, _, _⟩) (by rfl) _ _ _ _ _ (by rfl) (by rfl) _ _ _ (by rfl) (by rfl) ?_; intro z2 zn2 zl2 zv2; have zo2 := over_z zv2.out B1) | (refine wpList_fop (o := ⟨some 55, _, _, _, _, _⟩) (by rfl) _ _ _ _ _ (by rfl) (by rfl) _ _ _ (by rfl) (by rfl) ?_; intro z3 zn3 zl3 zv3; have zo3 := over_z zv3.out B2) | (refine wpList_fop (o := ⟨some 63, _, _, _, _, _⟩) (by rfl) _ _ _ _ _ (by rfl) (by rfl) _ _ _ (by rfl) (by rfl) ?_; intro z4 zn4 zl4 zv4; have zo4 := over_z zv4.out B1) | (have h_ := HN1; clear h_; go_at_call 169; refine (l01Narrow_any _ (by assumption) (by assumption) _).mono ?_; rintro e w' ⟨y2, mm2, rfl, hy2, ly2, rfl⟩; have HN2 := Lib.hid hy2; clear hy2) | (go_at_call 169; refine (l01Narrow_any _ (by assumption) (by assumption) _).mono ?_; rintro e w' ⟨y1, mm1, rfl, hy1, ly1, rfl⟩; have HN1 := Lib.hid hy1; clear hy1))
            · exfalso
              rw [← Hge.out, Bool.or_eq_false_iff] at hc'
              simp_all
            · go_ret
              exact ⟨y1, y2, _, rfl, ph_at hs ⟨Hall.out, hc'⟩ (by rw [HN1.out, zv1.out, Hq2.out, Hs2.out]; rfl) (by rw [HN2.out, Hq1.out, Hs3.out]; rfl), ly1, ly2, rfl⟩
          · go_wp2_with (first | (refine wpList_fop (o := ⟨some 36, _, _, _, _, _⟩) (by rfl) _ _ _ _ _ (by rfl) (by rfl) _ _ _ (by rfl) (by rfl) ?_; intro g1 g2 g3 g4; have Hs3 := Lib.hid (Hs1.out g1 g4.out)) | (have h_ := Hq1; clear h_; go_at_call 208; refine (sineWide_any r hr _).mono ?_; rintro e w' ⟨q2, m2, rfl, hq2, l2, rfl⟩; have B2 := bd_of hq2; have O2 := over_118 B2; have Hq2 := Lib.hid hq2; clear hq2) | (go_at_call 208; refine (sineWide_any g1 g3 _).mono ?_; rintro e w' ⟨q1, m1, rfl, hq1, l1, rfl⟩; have B1 := bd_of hq1; have O1 := over_118 B1; have Hq1 := Lib.hid hq1; clear hq1) | (refine wpList_fop (o := ⟨some 44, _, _, _, _, _⟩) (by rfl) _ _ _ _ _ (by rfl) (by rfl) _ _ _ (by rfl) (by rfl) ?_; intro z1 zn1 zl1 zv1; have zo1 := over_z zv1.out B2) | (refine wpList_fop (o := ⟨some 52, _, _, _, _, _⟩) (by rfl) _ _ _ _ _ (by rfl) (by rfl) _ _ _ (by rfl) (by rfl) ?_; intro z2 zn2 zl2 zv2; have zo2 := over_z zv2.out B1) | (refine wpList_fop (o := ⟨some 55, _, _, _, _, _⟩) (by rfl) _ _ _ _ _ (by rfl) (by rfl) _ _ _ (by rfl) (by rfl) ?_; intro z3 zn3 zl3 zv3; have zo3 := over_z zv3.out B2) | (refine wpList_fop (o := ⟨some 63, _, _, _, _, _⟩) (by rfl) _ _ _ _ _ (by rfl) (by rfl) _ _ _ (by rfl) (by rfl) ?_; intro z4 zn4 zl4 zv4; have zo4 := over_z zv4.out B1) | (have h_ := HN1; clear h_; go_at_call 169; refine (l01Narrow_any _ (by assumption) (by assumption) _).mono ?_; rintro e w' ⟨y2, mm2, rfl, hy2, ly2, rfl⟩; have HN2 := Lib.hid hy2; clear hy2) | (go_at_call 169; refine (l01Narrow_any _ (by assumption) (by assumption) _).mono ?_; rintro e w' ⟨y1, mm1, rfl, hy1, ly1, rfl⟩; have HN1 := Lib.hid hy1; clear hy1))
            · exfalso
              rw [← Hge.out, Bool.or_eq_false_iff] at hc'
              simp_all
            · go_ret
              exact ⟨y1, y2, _, rfl, ph_at hs ⟨Hall.out, hc'⟩ (by rw [HN1.out, zv2.out, Hq1.out, Hs3.out]; rfl) (by rw [HN2.out, zv3.out, Hq2.out, Hs2.out]; rfl), ly1, ly2, rfl⟩
          · go_wp2_with (first | (refine wpList_fop (o := ⟨some 36, _, _, _, _, _⟩) (by rfl) _ _ _ _ _ (by rfl) (by rfl) _ _ _ (by rfl) (by rfl) ?_; intro g1 g2 g3 g4; have Hs3 := Lib.hid (Hs1.out g1 g4.out)) | (have h_ := Hq1; clear h_; go_at_call 208; refine (sineWide_any r hr _).mono ?_; rintro e w' ⟨q2, m2, rfl, hq2, l2, rfl⟩; have B2 := bd_of hq2; have O2 := over_118 B2; have Hq2 := Lib.hid hq2; clear hq2) | (go_at_call 208; refine (sineWide_any g1 g3 _).mono ?_; rintro e w' ⟨q1, m1, rfl, hq1, l1, rfl⟩; have B1 := bd_of hq1; have O1 := over_118 B1; have Hq1 := Lib.hid hq1; clear hq1) | (refine wpList_fop (o := ⟨some 44, _, _, _, _, _⟩) (by rfl) _ _ _ _ _ (by rfl) (by rfl) _ _ _ (by rfl) (by rfl) ?_; intro z1 zn1 zl1 zv1; have zo1 := over_z zv1.out B2) | (refine wpList_fop (o := ⟨some 52, _, _, _, _, _⟩) (by rfl) _ _ _ _ _ (by rfl) (by rfl) _ _ _ (by rfl) (by rfl) ?_; intro z2 zn2 zl2 zv2; have zo2 := over_z zv2.out B1) | (refine wpList_fop (o := ⟨some 55, _, _, _, _, _⟩) (by rfl) _ _ _ _ _ (by rfl) (by rfl) _ _ _ (by rfl) (by rfl) ?_; intro z3 zn3 zl3 zv3; have zo3 := over_z zv3.out B2) | (refine wpList_fop (o := ⟨some 63, _, _, _, _, _⟩) (by rfl) _ _ _ _ _ (by rfl) (by rfl) _ _ _ (by rfl) (by rfl) ?_; intro z4 zn4 zl4 zv4; have zo4 := over_z zv4.out B1) | (have h_ := HN1; clear h_; go_at_call 169; refine (l01Narrow_any _ (by assumption) (by assumption) _).mono ?_; rintro e w' ⟨y2, mm2, rfl, hy2, ly2, rfl⟩; have HN2 := Lib.hid hy2; clear hy2) | (go_at_call 169; refine (l01Narrow_any _ (by assumption) (by assumption) _).mono ?_; rintro e w' ⟨y1, mm1, rfl, hy1, ly1, rfl⟩; have HN1 := Lib.hid hy1; clear hy1))
            · exfalso
              rw [← Hge.out, Bool.or_eq_false_iff] at hc'
              simp_all
            · go_ret
              exact ⟨y1, y2, _, rfl, ph_at hs ⟨Hall.out, hc'⟩ (by rw [HN1.out, Hq2.out, Hs2.out]; rfl) (by rw [HN2.out, zv4.out, Hq1.out, Hs3.out]; rfl), ly1, ly2, rfl⟩
          · go_wp2_with (first | (refine wpList_fop (o := ⟨some 36, _, _, _, _, _⟩) (by rfl) _ _ _ _ _ (by rfl) (by rfl) _ _ _ (by rfl) (by rfl) ?_; intro g1 g2 g3 g4; have Hs3 := Lib.hid (Hs1.out g1 g4.out)) | (have h_ := Hq1; clear h_; go_at_call 208; refine (sineWide_any r hr _).mono ?_; rintro e w' ⟨q2, m2, rfl, hq2, l2, rfl⟩; have B2 := bd_of hq2; have O2 := over_118 B2; have Hq2 := Lib.hid hq2; clear hq2) | (go_at_call 208; refine (sineWide_any g1 g3 _).mono ?_; rintro e w' ⟨q1, m1, rfl, hq1, l1, rfl⟩; have B1 := bd_of hq1; have O1 := over_118 B1; have Hq1 := Lib.hid hq1; clear hq1) | (refine wpList_fop (o := ⟨some 44, _, _, _, _, _⟩) (by rfl) _ _ _ _ _ (by rfl) (by rfl) _ _ _ (by rfl) (by rfl) ?_; intro z1 zn1 zl1 zv1; have zo1 := over_z zv1.out B2) | (refine wpList_fop (o := ⟨some 52, _, _, _, _, _⟩) (by rfl) _ _ _ _ _ (by rfl) (by rfl) _ _ _ (by rfl) (by rfl) ?_; intro z2 zn2 zl2 zv2; have zo2 := over_z zv2.out B1) | (refine wpList_fop (o := ⟨some 55, _, _, _, _, _⟩) (by rfl) _ _ _ _ _ (by rfl) (by rfl) _ _ _ (by rfl) (by rfl) ?_; intro z3 zn3 zl3 zv3; have zo3 := over_z zv3.out B2) | (refine wpList_fop (o := ⟨some 63, _, _, _, _, _⟩) (by rfl) _ _ _ _ _ (by rfl) (by rfl) _ _ _ (by rfl) (by rfl) ?_; intro z4 zn4 zl4 zv4; have zo4 := over_z zv4.out B1) | (have h_ := HN1; clear h_; go_at_call 169; refine (l01Narrow_any _ (by assumption) (by assumption) _).mono ?_; rintro e w' ⟨y2, mm2, rfl, hy2, ly2, rfl⟩; have HN2 := Lib.hid hy2; clear hy2) | (go_at_call 169; refine (l01Narrow_any _ (by assumption) (by assumption) _).mono ?_; rintro e w' ⟨y1, mm1, rfl, hy1, ly1, rfl⟩; have HN1 := Lib.hid hy1; clear hy1))
            · exfalso
              rw [← Hge.out, Bool.or_eq_false_iff] at hc'
              simp_all
            · go_ret
              exact ⟨y1, y2, _, rfl, ph_at hs ⟨Hall.out, hc'⟩ (by rw [HN1.out, Hq1.out, Hs3.out]; rfl) (by rw [HN2.out, Hq2.out, Hs2.out]; rfl), ly1, ly2, rfl⟩
          · go_wp2_with (first | (refine wpList_fop (o := ⟨some 36, _, _, _, _, _⟩) (by rfl) _ _ _ _ _ (by rfl) (by rfl) _ _ _ (by rfl) (by rfl) ?_; intro g1 g2 g3 g4; have Hs3 := Lib.hid (Hs1.out g1 g4.out)) | (have h_ := Hq1; clear h_; go_at_call 208; refine (sineWide_any r hr _).mono ?_; rintro e w' ⟨q2, m2, rfl, hq2, l2, rfl⟩; have B2 := bd_of hq2; have O2 := over_118 B2; have Hq2 := Lib.hid hq2; clear hq2) | (go_at_call 208; refine (sineWide_any g1 g3 _).mono ?_; rintro e w' ⟨q1, m1, rfl, hq1, l1, rfl⟩; have B1 := bd_of hq1; have O1 := over_118 B1; have Hq1 := Lib.hid hq1; clear hq1) | (refine wpList_fop (o := ⟨some 44, _, _, _, _, _⟩) (by rfl) _ _ _ _ _ (by rfl) (by rfl) _ _ _ (by rfl) (by rfl) ?_; intro z1 zn1 zl1 zv1; have zo1 := over_z zv1.out B2) | (refine wpList_fop (o := ⟨some 52, _, _, _, _, _⟩) (by rfl) _ _ _ _ _ (by rfl) (by rfl) _ _ _ (by rfl) (by rfl) ?_; intro z2 zn2 zl2 zv2; have zo2 := over_z zv2.out B1) | (refine wpList_fop (o := ⟨some 55, _, _, _, _, _⟩) (by rfl) _ _ _ _ _ (by rfl) (by rfl) _ _ _ (by rfl) (by rfl) ?_; intro z3 zn3 zl3 zv3; have zo3 := over_z zv3.out B2) | (refine wpList_fop (o := ⟨some 63, _, _, _, _, _⟩) (by rfl) _ _ _ _ _ (by rfl) (by rfl) _ _ _ (by rfl) (by rfl) ?_; intro z4 zn4 zl4 zv4; have zo4 := over_z zv4.out B1) | (have h_ := HN1; clear h_; go_at_call 169; refine (l01Narrow_any _ (by assumption) (by assumption) _).mono ?_; rintro e w' ⟨y2, mm2, rfl, hy2, ly2, rfl⟩; have HN2 := Lib.hid hy2; clear hy2) | (go_at_call 169; refine (l01Narrow_any _ (by assumption) (by assumption) _).mono ?_; rintro e w' ⟨y1, mm1, rfl, hy1, ly1, rfl⟩; have HN1 := Lib.hid hy1; clear hy1))
            · exfalso
              rw [← Hge.out, Bool.or_eq_false_iff] at hc'
              simp_all
            · go_ret
              exact ⟨y1, y2, _, rfl, ph_at hs ⟨Hall.out, hc'⟩ (by rw [HN1.out, Hq1.out, Hs3.out]; rfl) (by rw [HN2.out, Hq2.out, Hs2.out]; rfl), ly1, ly2, rfl⟩
          · go_wp2_with (first | (refine wpList_fop (o := ⟨some 36, _, _, _, _, _⟩) (by rfl) _ _ _ _ _ (by rfl) (by rfl) _ _ _ (by rfl) (by rfl) ?_; intro g1 g2 g3 g4; have Hs3 := Lib.hid (Hs1.out g1 g4.out)) | (have h_ := Hq1; clear h_; go_at_call 208; refine (sineWide_any r hr _).mono ?_; rintro e w' ⟨q2, m2, rfl, hq2, l2, rfl⟩; have B2 := bd_of hq2; have O2 := over_118 B2; have Hq2 := Lib.hid hq2; clear hq2) | (go_at_call 208; refine (sineWide_any g1 g3 _).mono ?_; rintro e w' ⟨q1, m1, rfl, hq1, l1, rfl⟩; have B1 := bd_of hq1; have O1 := over_118 B1; have Hq1 := Lib.hid hq1; clear hq1) | (refine wpList_fop (o := ⟨some 44, _, _, _, _, _⟩) (by rfl) _ _ _ _ _ (by rfl) (by rfl) _ _ _ (by rfl) (by rfl) ?_; intro z1 zn1 zl1 zv1; have zo1 := over_z zv1.out B2) | (refine wpList_fop (o := ⟨some 52, _, _, _, _, _⟩) (by rfl) _ _ _ _ _ (by rfl) (by rfl) _ _ _ (by rfl) (by rfl) ?_; intro z2 zn2 zl2 zv2; have zo2 := over_z zv2.out B1) | (refine wpList_fop (o := ⟨some 55, _, _, _, _, _⟩) (by rfl) _ _ _ _ _ (by rfl) (by rfl) _ _ _ (by rfl) (by rfl) ?_; intro z3 zn3 zl3 zv3; have zo3 := over_z zv3.out B2) | (refine wpList_fop (o := ⟨some 63, _, _, _, _, _⟩) (by rfl) _ _ _ _ _ (by rfl) (by rfl) _ _ _ (by rfl) (by rfl) ?_; intro z4 zn4 zl4 zv4; have zo4 := over_z zv4.out B1) | (have h_ := HN1; clear h_; go_at_call 169; refine (l01Narrow_any _ (by assumption) (by assumption) _).mono ?_; rintro e w' ⟨y2, mm2, rfl, hy2, ly2, rfl⟩; have HN2 := Lib.hid hy2; clear hy2) | (go_at_call 169; refine (l01Narrow_any _ (by assumption) (by assumption) _).mono ?_; rintro e w' ⟨y1, mm1, rfl, hy1, ly1, rfl⟩; have HN1 := Lib.hid hy1; clear hy1))
            · exfalso
              rw [← Hge.out, Bool.or_eq_false_iff] at hc'
              simp_all
            · go_ret
              exact ⟨y1, y2, _, rfl, ph_at hs ⟨Hall.out, hc'⟩ (by rw [HN1.out, Hq1.out, Hs3.out]; rfl) (by rw [HN2.out, Hq2.out, Hs2.out]; rfl), ly1, ly2, rfl⟩
          · go_wp2_with (first | (refine wpList_fop (o := ⟨some 36, _, _, _, _, _⟩) (by rfl) _ _ _ _ _ (by rfl) (by rfl) _ _ _ (by rfl) (by rfl) ?_; intro g1 g2 g3 g4; have Hs3 := Lib.hid (Hs1.out g1 g4.out)) | (have h_ := Hq1; clear h_; go_at_call 208; refine (sineWide_any r hr _).mono ?_; rintro e w' ⟨q2, m2, rfl, hq2, l2, rfl⟩; have B2 := bd_of hq2; have O2 := over_118 B2; have Hq2 := Lib.hid hq2; clear hq2) | (go_at_call 208; refine (sineWide_any g1 g3 _).mono ?_; rintro e w' ⟨q1, m1, rfl, hq1, l1, rfl⟩; have B1 := bd_of hq1; have O1 := over_118 B1; have Hq1 := Lib.hid hq1; clear hq1) | (refine wpList_fop (o := ⟨some 44, _, _, _, _, _⟩) (by rfl) _ _ _ _ _ (by rfl) (by rfl) _ _ _ (by rfl) (by rfl) ?_; intro z1 zn1 zl1 zv1; have zo1 := over_z zv1.out B2) | (refine wpList_fop (o := ⟨some 52, _, _, _, _, _⟩) (by rfl) _ _ _ _ _ (by rfl) (by rfl) _ _ _ (by rfl) (by rfl) ?_; intro z2 zn2 zl2 zv2; have zo2 := over_z zv2.out B1) | (refine wpList_fop (o := ⟨some 55, _, _, _, _, _⟩) (by rfl) _ _ _ _ _ (by rfl) (by rfl) _ _ _ (by rfl) (by rfl) ?_; intro z3 zn3 zl3 zv3; have zo3 := over_z zv3.out B2) | (refine wpList_fop (o := ⟨some 63, _, _, _, _, _⟩) (by rfl) _ _ _ _ _ (by rfl) (by rfl) _ _ _ (by rfl) (by rfl) ?_; intro z4 zn4 zl4 zv4; have zo4 := over_z zv4.out B1) | (have h_ := HN1; clear h_; go_at_call 169; refine (l01Narrow_any _ (by assumption) (by assumption) _).mono ?_; rintro e w' ⟨y2, mm2, rfl, hy2, ly2, rfl⟩; have HN2 := Lib.hid hy2; clear hy2) | (go_at_call 169; refine (l01Narrow_any _ (by assumption) (by assumption) _).mono ?_; rintro e w' ⟨y1, mm1, rfl, hy1, ly1, rfl⟩; have HN1 := Lib.hid hy1; clear hy1))
            · exfalso
              rw [← Hge.out, Bool.or_eq_false_iff] at hc'
              simp_all
            · go_ret
              exact ⟨y1, y2, _, rfl, ph_at hs ⟨Hall.out, hc'⟩ (by rw [HN1.out, Hq1.out, Hs3.out]; rfl) (by rw [HN2.out, Hq2.out, Hs2.out]; rfl), ly1, ly2, rfl⟩
          · go_wp2_with (first | (refine wpList_fop (o := ⟨some 36, _, _, _, _, _⟩) (by rfl) _ _ _ _ _ (by rfl) (by rfl) _ _ _ (by rfl) (by rfl) ?_; intro g1 g2 g3 g4; have Hs3 := Lib.hid (Hs1.out g1 g4.out)) | (have h_ := Hq1; clear h_; go_at_call 208; refine (sineWide_any r hr _).mono ?_; rintro e w' ⟨q2, m2, rfl, hq2, l2, rfl⟩; have B2 := bd_of hq2; have O2 := over_118 B2; have Hq2 := Lib.hid hq2; clear hq2) | (go_at_call 208; refine (sineWide_any g1 g3 _).mono ?_; rintro e w' ⟨q1, m1, rfl, hq1, l1, rfl⟩; have B1 := bd_of hq1; have O1 := over_118 B1; have Hq1 := Lib.hid hq1; clear hq1) | (refine wpList_fop (o := ⟨some 44, _, _, _, _, _⟩) (by rfl) _ _ _ _ _ (by rfl) (by rfl) _ _ _ (by rfl) (by rfl) ?_; intro z1 zn1 zl1 zv1; have zo1 := over_z zv1.out B2) | (refine wpList_fop (o := ⟨some 52, _, _, _, _, _⟩) (by rfl) _ _ _ _ _ (by rfl) (by rfl) _ _ _ (by rfl) (by rfl) ?_; intro z2 zn2 zl2 zv2; have zo2 := over_z zv2.out B1) | (refine wpList_fop (o := ⟨some 55, _, _, _, _, _⟩) (by rfl) _ _ _ _ _ (by rfl) (by rfl) _ _ _ (by rfl) (by rfl) ?_; intro z3 zn3 zl3 zv3; have zo3 := over_z zv3.out B2) | (refine wpList_fop (o := ⟨some 63, _, _, _, _, _⟩) (by rfl) _ _ _ _ _ (by rfl) (by rfl) _ _ _ (by rfl) (by rfl) ?_; intro z4 zn4 zl4 zv4; have zo4 := over_z zv4.out B1) | (have h_ := HN1; clear h_; go_at_call 169; refine (l01Narrow_any _ (by assumption) (by assumption) _).mono ?_; rintro e w' ⟨y2, mm2, rfl, hy2, ly2, rfl⟩; have HN2 := Lib.hid hy2; clear hy2) | (go_at_call 169; refine (l01Narrow_any _ (by assumption) (by assumption) _).mono ?_; rintro e w' ⟨y1, mm1, rfl, hy1, ly1, rfl⟩; have HN1 := Lib.hid hy1; clear hy1))
            · exfalso
              rw [← Hge.out, Bool.or_eq_false_iff] at hc'
              simp_all
            · go_ret
              exact ⟨y1, y2, _, rfl, ph_at hs ⟨Hall.out, hc'⟩ (by rw [HN1.out, Hq1.out, Hs3.out]; rfl) (by rw [HN2.out, Hq2.out, Hs2.out]; rfl), ly1, ly2, rfl⟩
    · have Hp := Lib.hid (ph_big hfin hs)
      obtain ⟨t1, t2, _⟩ := lim_tests hr
      have hd : decide ((52 + 1023) * 4503599627370496 ≤ rung .f64 b) = true := by simp; omega
      rw [hd] at t1 t2
      rw [hfin] at hf0
      clear hd hr hs hfin
      cases hn : neg .f64 b
      · rw [hn] at t1 t2
        clear hn
        go_enter Try.func161, Try.ntmps161
        go_wp2
        go_ret
        exact ⟨_, _, _, rfl, Hp.out, by decide, by decide, rfl⟩
      · rw [hn] at t1 t2
        clear hn
        go_enter Try.func161, Try.ntmps161
        go_wp2
        go_ret
        exact ⟨_, _, _, rfl, Hp.out, by decide, by decide, rfl⟩
end Go.Proofs.Ytljclagfplildaa.Fl
