/-
  Tenths of decibels: the walk in the program. No theorem of a claim stands here.
-/
import Derived.Test.YtceeeeggehlglabTenA
import Derived.Deep.DeepCutAuto
set_option linter.unusedSimpArgs false
set_option linter.unusedVariables false
namespace Go.Proofs.Ytceeeeggehlglab.Fl
open Go Go.RowKit

set_option maxHeartbeats 4000000 in
theorem tenths_core (b r : Nat) (hb : b < 2 ^ 32) (lr : r < 2 ^ 64) (hf : fin .f32 (vl .f32 b) = true) (hl : (FloatKind.f32.format.order b 0 == some .lt) = false) (he : (FloatKind.f32.format.order b 0 == some .eq) = false) (hP : Pow r)
    (hcv : ∀ w', (convert 28 22 (.float .f32 b)).run Try.prog w' = .ok (.float .f64 r) (w'.drewN (cvn b))) (w : World) :
    Calls Try.prog 10 #[.float .f32 b] w fun e w' => ∃ v k, e = .returned (.tuple #[.int .i64 v, .bool true]) ∧ w' = w.drewN k ∧ TenOf r v := by
  have Hf := Lib.hid hf
  clear hf
  go_enter Try.func10, Try.ntmps10
  go_wp2_with (go_at_call 24; refine (isFinite_any b hb _).mono ?_; rintro e w' ⟨m, rfl, rfl⟩; rw [Hf.out])
  clear hcv hl he
  go_loopw [4, 5] (fun X Q wr => ∃ n a k : Nat, n ≤ 130 ∧ X = .float .f64 a ∧ Q = .int .i64 n ∧ a < 2 ^ 64 ∧ Hid (vl .f64 a = hV n (some r)) ∧ Hid (∀ i, i < n → geB (hV i (some r)) (vl .f64 c15) = true) ∧ wr = w.drewN k) (fun X Q _ => 130 - (intOf Q).toNat)
  case atStart => exact ⟨0, r, _, by omega, rfl, rfl, lr, Lib.hid (fin_vl hP.p.1), Lib.hid (fun i hi => absurd hi (Nat.not_lt_zero i)), rfl⟩
  case round =>
    obtain ⟨n, a, k, hn, rfl, rfl, ha, V, Hall, rfl⟩ := hrel
    have Hge := Lib.hid (show (FloatKind.f64.format.order a 4609434218613702656 == some .gt || FloatKind.f64.format.order a 4609434218613702656 == some .eq) = geB (hV n (some r)) (vl .f64 c15) from ge_of c15 V.out)
    by_cases hc : geB (hV n (some r)) (vl .f64 c15) = true
    · have hlt := hV_lt hP.p hP.l Hall.out hc
      have Hall2 := Lib.hid (show ∀ i, i < n + 1 → geB (hV i (some r)) (vl .f64 c15) = true from fun i hi => by
        rcases (by omega : i < n ∨ i = n) with h | rfl
        · exact Hall.out i h
        · exact hc)
      go_wp2_with (first | (refine wpList_fop (o := ⟨some 21, _, _, _, _, _⟩) (by rfl) _ _ _ _ _ (by rfl) (by rfl) _ _ _ (by rfl) (by rfl) ?_; intro f1 f2 f3 f4))
      · go_roundw
        case rel => exact ⟨n + 1, _, _, by omega, rfl, by go_num, f3, Lib.hid (by rw [f4.out, V.out, hV_succ]; rfl), Hall2, rfl⟩
        case measure => simp only [intOf]; omega
      · exfalso
        rw [← Hge.out, Bool.or_eq_true] at hc
        simp_all
    · have hc' : geB (hV n (some r)) (vl .f64 c15) = false := by simpa using hc
      obtain ⟨a1, q1, q2, _⟩ := hV_units hP.p n Hall.out
      have hE : EndH (some r) n := ⟨Hall.out, hc'⟩
      have B := Lib.hid (log_a1 hP hE q1)
      have V1 := V.out
      rw [q1] at V1
      obtain rfl := vl_some V1
      have Hf := Lib.hid (show (FloatKind.f64.format.order a 4609434218613702656 == some .gt) = false ∧ (FloatKind.f64.format.order a 4609434218613702656 == some .eq) = false by
        rw [← Bool.or_eq_false_iff, Hge.out, hc'])
      clear Hge hc
      obtain ⟨hf1, hf2⟩ := Hf.out
      go_wp2
      clear hf1 hf2
      go_loopw [4, 5] (fun X Q wr => ∃ m c k : Nat, m ≤ 1075 ∧ X = .float .f64 c ∧ Q = .int .i64 ((n : Int) - m) ∧ c < 2 ^ 64 ∧ Hid (vl .f64 c = dV m (some a)) ∧ Hid (∀ i, i < m → ltB (dV i (some a)) (vl .f64 c075) = true) ∧ wr = w.drewN k) (fun X Q _ => (intOf Q + 1075).toNat)
      case atStart => exact ⟨0, a, _, by omega, rfl, by simp, ha, Lib.hid V1, Lib.hid (fun i hi => absurd hi (Nat.not_lt_zero i)), rfl⟩
      case round =>
        obtain ⟨m, c, k', hm, rfl, rfl, hcl, V2, Hall3, rfl⟩ := hrel
        have Hlt := Lib.hid (show (FloatKind.f64.format.order c 4604930618986332160 == some .lt) = ltB (dV m (some a)) (vl .f64 c075) from lt_of c075 V2.out)
        by_cases hd : ltB (dV m (some a)) (vl .f64 c075) = true
        · have hlt := dV_lt B.out.1 B.out.2.1 B.out.2.2 Hall3.out hd
          have Hall4 := Lib.hid (show ∀ i, i < m + 1 → ltB (dV i (some a)) (vl .f64 c075) = true from fun i hi => by
            rcases (by omega : i < m ∨ i = m) with h | rfl
            · exact Hall3.out i h
            · exact hd)
          have hrun : (FloatKind.f64.format.order c 4604930618986332160 == some .lt) = true := by rw [Hlt.out, hd]
          go_wp2_with (first | (refine wpList_fop (o := ⟨some 27, _, _, _, _, _⟩) (by rfl) _ _ _ _ _ (by rfl) (by rfl) _ _ _ (by rfl) (by rfl) ?_; intro f1 f2 f3 f4))
          go_roundw
          case rel => exact ⟨m + 1, _, _, by omega, rfl, by go_num, f3, Lib.hid (by rw [f4.out, V2.out, dV_succ]; rfl), Hall4, rfl⟩
          case measure => simp only [intOf]; omega
        · have hd' : ltB (dV m (some a)) (vl .f64 c075) = false := by simpa using hd
          obtain ⟨a2, d1, d2, d3, d4⟩ := dV_units B.out.1 B.out.2.2 m Hall3.out
          have hL : LogOf r n a m a2 := ⟨hE, q1, ⟨Hall3.out, hd'⟩, d1, hn, hm⟩
          have V3 := V2.out
          rw [d1] at V3
          obtain rfl := vl_some V3
          have hrun : (FloatKind.f64.format.order c 4604930618986332160 == some .lt) = false := by rw [Hlt.out, hd']
          obtain ⟨Y, y1, y2, y3⟩ := y_facts hP hL
          have hTen : TenOf r (tz (flr Y)) := ⟨n, a, m, c, Y, hL, y1, rfl⟩
          have Hy := Lib.hid y1
          have hL2 := Lib.hid hL
          have Hy2 := Lib.hid y2
          have hti := fun w => run_convert_float_int (P := Try.prog) w 22 2 .f64 .i64 (flr Y) (tz (flr Y)) isSome_f64 Try.underlying2 y3
          have hadd := fun x y w => run_fov (P := Try.prog) .add rfl 22 .f64 x y w
          have hsub := fun x y w => run_fov (P := Try.prog) .sub rfl 22 .f64 x y w
          have hmul := fun x y w => run_fov (P := Try.prog) .mul rfl 22 .f64 x y w
          have hquo := fun x y w => run_fov (P := Try.prog) .quo rfl 22 .f64 x y w
          have hit := fun n w => run_convert_int_float (P := Try.prog) w 3 22 .i64 .f64 n (by rw [Try.underlying3]; rfl) Try.underlying22
          have Ht := Lib.hid hTen
          clear hTen hL y1 y2 y3 hn hm hd hE q1 q2 B d1 d2 d3 d4
          go_wp2_with (first | (go_at_call 25; refine (oddSeries25_any _ _).mono ?_; rintro e w' ⟨q, nq, rfl, hq, lq, rfl⟩; simp only [vl_fov] at hq; rw [V3] at hq; have Hq := Lib.hid hq; clear hq) | (go_at_call 26; refine (Floor_at Y _ (by simp only [vl_fov]; rw [Hq.out, V3]; exact Hy.out) Hy2.out _).mono ?_; rintro e w' ⟨mf, rfl, rfl⟩))
          go_ret2
          exact ⟨_, _, rfl, rfl, Ht.out⟩
end Go.Proofs.Ytceeeeggehlglab.Fl
