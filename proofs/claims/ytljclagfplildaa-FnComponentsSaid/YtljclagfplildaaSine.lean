/-
  The sine of turns: the value, up to NaN, as a plain function; its bounds; walks in the program and in the model. No theorem of a claim stands here.
-/
import Derived.Test.YtljclagfplildaaTight
import Derived.Test.YtljclagfplildaaTurn
import Derived.Test.YtljclagfplildaaMath
import Derived.Test.YtljclagfplildaaFin
import Derived.Test.YtljclagfplildaaCv
import Derived.Deep.DeepCutAuto
set_option linter.unusedVariables false
namespace Go.Proofs.Ytljclagfplildaa.Fl
open Go Go.RowKit

def one64 : Nat := 4607182418800017408
def half64 : Nat := 4602678819172646912
def quarter64 : Nat := 4598175219545276416
def circle64 : Nat := 4618760256179416344
def turnLim : Nat := 4841369599423283200

def ltB (x y : Option Nat) : Bool := ford .f64 x y == some .lt
def gtB (x y : Option Nat) : Bool := ford .f64 x y == some .gt
def geB (x y : Option Nat) : Bool := ford .f64 x y == some .gt || ford .f64 x y == some .eq

/-- What is beyond the whole turns, from 0 to 1. -/
def turnV (b : Nat) : Option Nat := if ltB (beyond b) (vl .f64 0) then fop .add .f64 (beyond b) (vl .f64 one64) else beyond b

/-- 'k' terms of the series that are still to come. -/
def serV (u : Option Nat) : Nat → Option Nat → Option Nat
  | 0, p => p
  | k + 1, p => serV u k (fop .sub .f64 (vl .f64 one64) (fop .quo .f64 (fop .mul .f64 u p) (vl .f64 (floatOfInt .f64 (2 * (k + 1) * (2 * (k + 1) + 1) : Nat)))))

def fold1 (f : Option Nat) : Option Nat := if geB f (vl .f64 half64) then fop .sub .f64 f (vl .f64 half64) else f
def fold2 (f : Option Nat) : Option Nat := if gtB f (vl .f64 quarter64) then fop .sub .f64 (vl .f64 half64) f else f
def zV (f : Option Nat) : Option Nat := fop .mul .f64 (fold2 (fold1 f)) (vl .f64 circle64)
def uV (f : Option Nat) : Option Nat := fop .mul .f64 (zV f) (zV f)
def rV (f : Option Nat) : Option Nat := fop .mul .f64 (zV f) (serV (uV f) 8 (vl .f64 one64))
def fneg (x : Option Nat) : Option Nat := x.map fun b => Op.negFloat .f64 b
/-- The sine of f, from 0 to 1. -/
def sineV (f : Option Nat) : Option Nat := if geB f (vl .f64 half64) then fneg (rV f) else rV f

theorem neg_mod (b : Nat) : Op.negFloat .f64 b % FloatKind.f64.format.signWeight = b % FloatKind.f64.format.signWeight := by
  have e3 : FloatKind.f64.format.signWeight = 2 ^ 63 := by decide
  unfold Op.negFloat
  rw [e3, show FloatKind.f64.format.exponentBits + FloatKind.f64.format.fractionBits = 63 from rfl, Nat.xor_mod_two_pow, Nat.mod_self, Nat.xor_zero]

theorem vl_neg (b : Nat) : vl .f64 (Op.negFloat .f64 b) = fneg (vl .f64 b) := by
  have h : (FloatKind.f64.decode (Op.negFloat .f64 b)).isNaN = (FloatKind.f64.decode b).isNaN := by
    show (FloatKind.f64.format.read _).isNaN = (FloatKind.f64.format.read _).isNaN
    rw [isNaN_read, isNaN_read, neg_mod]
  unfold vl
  rw [h]
  split <;> rfl

theorem neg_lt {b : Nat} (h : b < 2 ^ 64) : Op.negFloat .f64 b < 2 ^ 64 := Nat.xor_lt_two_pow h (by decide)

theorem bd_neg {E : Nat} {x : Option Nat} (h : Bd .f64 E x) : Bd .f64 E (fneg x) := by
  intro r hr
  cases x with
  | none => cases hr
  | some b =>
    simp only [fneg, Option.map_some, Option.some.injEq] at hr
    rw [← hr, neg_mod]
    exact h b rfl

theorem bd_one : Bd .f64 0 (vl .f64 one64) := by intro b hb; obtain rfl := vl_some hb; decide
theorem bd_half : Bd .f64 0 (vl .f64 half64) := by intro b hb; obtain rfl := vl_some hb; decide
theorem bd_circle : Bd .f64 3 (vl .f64 circle64) := by intro b hb; obtain rfl := vl_some hb; decide

theorem turn_bd {b : Nat} (h : rung .f64 b < (52 + 1023) * 4503599627370496) : Bd .f64 1 (turnV b) := by
  obtain ⟨r, _, h2⟩ := beyond_bd h
  unfold turnV
  split
  · exact bd_fadd' (by decide) h2 bd_one
  · exact bd_mono h2 (by omega)

theorem ser_ge (k : Nat) (hk : k < 8) : Ge .f64 0 (vl .f64 (floatOfInt .f64 (2 * (k + 1) * (2 * (k + 1) + 1) : Nat))) := by
  intro b hb
  obtain rfl := vl_some hb
  rcases (by omega : k = 0 ∨ k = 1 ∨ k = 2 ∨ k = 3 ∨ k = 4 ∨ k = 5 ∨ k = 6 ∨ k = 7) with rfl | rfl | rfl | rfl | rfl | rfl | rfl | rfl <;> decide +kernel

theorem ser_bd (u : Option Nat) (G : Nat) (hu : Bd .f64 G u) (hG : G ≤ 12) : ∀ (k : Nat) (p : Option Nat) (E : Nat), k ≤ 8 → Bd .f64 E p → E + k * (G + 2) < 1000 → Bd .f64 (E + k * (G + 2)) (serV u k p)
  | 0, p, E, _, hp, _ => by simpa [serV] using hp
  | k + 1, p, E, hk, hp, hE => by
    have e : E + (k + 1) * (G + 2) = (E + (G + 2)) + k * (G + 2) := by rw [Nat.add_mul]; omega
    rw [e] at hE ⊢
    unfold serV
    have hEs : E + (G + 2) < 1000 := Nat.lt_of_le_of_lt (Nat.le_add_right _ _) hE
    refine ser_bd u G hu hG k _ (E + (G + 2)) (by omega) ?_ hE
    have b1 : bias .f64 = 1023 := rfl
    have h1 := bd_fmul' (by rw [b1]; omega) (by rw [b1]; omega) hu hp
    have h2 := bd_fquo (by rw [b1]; omega) h1 (ser_ge k (by omega))
    have h3 := bd_fsub' (by rw [b1]; omega) (bd_mono bd_one (Nat.zero_le (G + E + 1))) h2
    exact bd_mono h3 (by omega)

/-- The sine of what is within 2 is far from the greatest float32. -/
theorem sine_bd {f : Option Nat} (h : Bd .f64 1 f) : Bd .f64 126 (sineV f) := by
  have b1 : bias .f64 = 1023 := rfl
  have h1 : Bd .f64 2 (fold1 f) := by
    unfold fold1; split
    · exact bd_fsub' (by rw [b1]; omega) h (bd_mono bd_half (by omega))
    · exact bd_mono h (by omega)
  have h2 : Bd .f64 3 (fold2 (fold1 f)) := by
    unfold fold2; split
    · exact bd_fsub' (by rw [b1]; omega) (bd_mono bd_half (by omega)) h1
    · exact bd_mono h1 (by omega)
  have h3 : Bd .f64 6 (zV f) := bd_mono (bd_fmul' (k := .f64) (by rw [b1]; omega) (by rw [b1]; omega) h2 bd_circle) (by omega)
  have h4 : Bd .f64 12 (uV f) := bd_mono (bd_fmul' (k := .f64) (by rw [b1]; omega) (by rw [b1]; omega) h3 h3) (by omega)
  have h5 := ser_bd (uV f) 12 h4 (by omega) 8 (vl .f64 one64) 0 (by omega) bd_one (by omega)
  have h5' : Bd .f64 112 (serV (uV f) 8 (vl .f64 one64)) := bd_mono h5 (by omega)
  have h6 : Bd .f64 118 (rV f) := bd_mono (bd_fmul' (k := .f64) (by rw [b1]; omega) (by rw [b1]; omega) h3 h5') (by omega)
  unfold sineV
  split
  · exact bd_neg (bd_mono h6 (by omega))
  · exact bd_mono h6 (by omega)

theorem turnFraction_any (b : Nat) (hs : rung .f64 b < (52 + 1023) * 4503599627370496) (w : World) : Calls Try.prog 76 #[.float .f64 b] w (FRet .f64 (turnV b) w) := by
  have hadd := fun x y w => run_fov (P := Try.prog) .add rfl 27 .f64 x y w
  have hsub := fun x y w => run_fov (P := Try.prog) .sub rfl 27 .f64 x y w
  have hti := fun w => run_convert_float_int (P := Try.prog) w 27 2 .f64 .i64 b (tz b) isSome_f64 Try.underlying2 (toInt_small hs)
  have hit := fun w => run_convert_int_float (P := Try.prog) w 2 27 .i64 .f64 (tz b) (by rw [Try.underlying2]; rfl) Try.underlying27
  obtain ⟨t, ht⟩ : ∃ t, t = floatOfInt .f64 (tz b) := ⟨_, rfl⟩
  rw [← ht] at hit
  have Ht := Lib.hid ht
  clear ht
  go_enter Try.func76, Try.ntmps76
  go_wp2
  · have h : ltB (beyond b) (vl .f64 0) = true := by
      unfold ltB beyond; rw [← Ht.out, ← vl_fov _ _ _ _ w, ← order_vl]; assumption
    have Hv := Lib.hid (show turnV b = fop .add .f64 (beyond b) (vl .f64 one64) by unfold turnV; rw [h]; rfl)
    go_ret
    exact ⟨_, _, rfl, by rw [vl_fov, vl_fov, Hv.out, Ht.out]; rfl, fov_lt _ _ _ _ _, rfl⟩
  · have h : ltB (beyond b) (vl .f64 0) = false := by
      unfold ltB beyond; rw [← Ht.out, ← vl_fov _ _ _ _ w, ← order_vl]; assumption
    have Hv := Lib.hid (show turnV b = beyond b by unfold turnV; rw [h]; rfl)
    go_ret
    exact ⟨_, _, rfl, by rw [vl_fov, Hv.out, Ht.out]; rfl, fov_lt _ _ _ _ _, rfl⟩

theorem ge_of {r : Nat} {x : Option Nat} (c : Nat) (h : vl .f64 r = x) : (FloatKind.f64.format.order r c == some .gt || FloatKind.f64.format.order r c == some .eq) = geB x (vl .f64 c) := by
  unfold geB; rw [order_vl, h]
theorem gt_of {r : Nat} {x : Option Nat} (c : Nat) (h : vl .f64 r = x) : (FloatKind.f64.format.order r c == some .gt) = gtB x (vl .f64 c) := by
  unfold gtB; rw [order_vl, h]
theorem lt_of {r : Nat} {x : Option Nat} (c : Nat) (h : vl .f64 r = x) : (FloatKind.f64.format.order r c == some .lt) = ltB x (vl .f64 c) := by
  unfold ltB; rw [order_vl, h]

set_option maxHeartbeats 2000000 in
theorem sineOf_any (b : Nat) (hs : rung .f64 b < (52 + 1023) * 4503599627370496) (w : World) : Calls Try.prog 78 #[.float .f64 b] w (FRet .f64 (sineV (turnV b)) w) := by
  have hsub := fun x y w => run_fov (P := Try.prog) .sub rfl 27 .f64 x y w
  have hmul := fun x y w => run_fov (P := Try.prog) .mul rfl 27 .f64 x y w
  have hquo := fun x y w => run_fov (P := Try.prog) .quo rfl 27 .f64 x y w
  have hit := fun n w => run_convert_int_float (P := Try.prog) w 3 27 .i64 .f64 n (by rw [Try.underlying3]; rfl) Try.underlying27
  have hneg : ∀ (x : Nat) (w : World), (Op.unary .neg (.float .f64 x)).run Try.prog w = .ok (.float .f64 (Op.negFloat .f64 x)) w := fun _ _ => rfl
  go_enter Try.func78, Try.ntmps78
  go_upto_if 13 with (go_at_call 76; refine (turnFraction_any _ hs _).mono ?_; rintro e w' ⟨r0, n0, rfl, hv0, hr0, rfl⟩; have V0 := Lib.hid hv0; clear hv0)
  have Hge := Lib.hid (show (FloatKind.f64.format.order r0 4602678819172646912 == some .gt || FloatKind.f64.format.order r0 4602678819172646912 == some .eq) = geB (turnV b) (vl .f64 half64) from ge_of half64 V0.out)
  go_cut [3] (fun f wx => ∃ r n : Nat, f = .float .f64 r ∧ r < 2 ^ 64 ∧ Hid (vl .f64 r = fold1 (turnV b)) ∧ wx = w.drewN n)
  case first =>
    go_wp2
    · have hc : geB (turnV b) (vl .f64 half64) = true := by rw [← Hge.out, Bool.or_eq_true]; assumption
      go_meet
      case rel => exact ⟨_, _, rfl, fov_lt _ _ _ _ _, by show vl .f64 _ = _; rw [vl_fov, V0.out]; unfold fold1; rw [hc]; rfl, rfl⟩
    · have hc : geB (turnV b) (vl .f64 half64) = false := by rw [← Hge.out, Bool.or_eq_false_iff]; assumption
      go_meet
      case rel => exact ⟨_, _, rfl, hr0, by show vl .f64 _ = _; rw [V0.out]; unfold fold1; rw [hc]; rfl, rfl⟩
  case rest =>
    obtain ⟨r1, n1, rfl, hr1, V1, rfl⟩ := hcut
    go_upto_if 17 with (fail)
    have Hgt := Lib.hid (show (FloatKind.f64.format.order r1 4598175219545276416 == some .gt) = gtB (fold1 (turnV b)) (vl .f64 quarter64) from gt_of quarter64 V1.out)
    go_cut [3] (fun f wx => ∃ r n : Nat, f = .float .f64 r ∧ r < 2 ^ 64 ∧ Hid (vl .f64 r = fold2 (fold1 (turnV b))) ∧ wx = w.drewN n)
    case first =>
      go_wp2
      · have hc : gtB (fold1 (turnV b)) (vl .f64 quarter64) = true := by rw [← Hgt.out]; assumption
        go_meet
        case rel => exact ⟨_, _, rfl, fov_lt _ _ _ _ _, by show vl .f64 _ = _; rw [vl_fov, V1.out]; unfold fold2; rw [hc]; rfl, rfl⟩
      · have hc : gtB (fold1 (turnV b)) (vl .f64 quarter64) = false := by rw [← Hgt.out]; assumption
        go_meet
        case rel => exact ⟨_, _, rfl, hr1, by show vl .f64 _ = _; rw [V1.out]; unfold fold2; rw [hc]; rfl, rfl⟩
    case rest =>
      obtain ⟨r2, n2, rfl, hr2, V2, rfl⟩ := hcut
      go_wp2
      have Hz0 := Lib.hid (show vl .f64 (fov .mul .f64 r2 4618760256179416344 (w.drewN n2)) = zV (turnV b) by rw [vl_fov, V2.out]; rfl)
      generalize fov .mul .f64 r2 4618760256179416344 (w.drewN n2) = z at *
      have Hu := Lib.hid (show vl .f64 (fov .mul .f64 z z (w.drewN (n2 + fon .mul .f64 r2 4618760256179416344))) = uV (turnV b) by rw [vl_fov, Hz0.out]; rfl)
      generalize fov .mul .f64 z z (w.drewN (n2 + fon .mul .f64 r2 4618760256179416344)) = u at *
      go_loopw [7, 8] (fun p k wr => ∃ kk r n : Nat, kk ≤ 8 ∧ p = .float .f64 r ∧ k = .int .i64 kk ∧ r < 2 ^ 64 ∧ Hid (serV (uV (turnV b)) kk (vl .f64 r) = serV (uV (turnV b)) 8 (vl .f64 one64)) ∧ wr = w.drewN n) (fun _ k _ => (intOf k).toNat)
      case atStart => exact ⟨8, _, _, by omega, rfl, rfl, by decide, rfl, rfl⟩
      case round =>
        obtain ⟨kk, r, n, hk, rfl, rfl, hr, hv, rfl⟩ := hrel
        rcases (by omega : kk = 8 ∨ kk = 7 ∨ kk = 6 ∨ kk = 5 ∨ kk = 4 ∨ kk = 3 ∨ kk = 2 ∨ kk = 1 ∨ kk = 0) with rfl | rfl | rfl | rfl | rfl | rfl | rfl | rfl | rfl
        · have hs' : serV (uV (turnV b)) 8 (vl .f64 r) = serV (uV (turnV b)) 7 (fop .sub .f64 (vl .f64 one64) (fop .quo .f64 (fop .mul .f64 (uV (turnV b)) (vl .f64 r)) (vl .f64 (floatOfInt .f64 272)))) := rfl
          have Hs := Lib.hid (hs'.symm.trans hv.out)
          clear hs'
          go_wp2
          go_roundw
          case rel => exact ⟨7, _, _, by omega, rfl, by go_num, fov_lt _ _ _ _ _, by show serV (uV (turnV b)) 7 (vl .f64 _) = _; rw [vl_fov, vl_fov, vl_fov, Hu.out]; exact Hs.out, rfl⟩
          case measure => simp [intOf]
        · have hs' : serV (uV (turnV b)) 7 (vl .f64 r) = serV (uV (turnV b)) 6 (fop .sub .f64 (vl .f64 one64) (fop .quo .f64 (fop .mul .f64 (uV (turnV b)) (vl .f64 r)) (vl .f64 (floatOfInt .f64 210)))) := rfl
          have Hs := Lib.hid (hs'.symm.trans hv.out)
          clear hs'
          go_wp2
          go_roundw
          case rel => exact ⟨6, _, _, by omega, rfl, by go_num, fov_lt _ _ _ _ _, by show serV (uV (turnV b)) 6 (vl .f64 _) = _; rw [vl_fov, vl_fov, vl_fov, Hu.out]; exact Hs.out, rfl⟩
          case measure => simp [intOf]
        · have hs' : serV (uV (turnV b)) 6 (vl .f64 r) = serV (uV (turnV b)) 5 (fop .sub .f64 (vl .f64 one64) (fop .quo .f64 (fop .mul .f64 (uV (turnV b)) (vl .f64 r)) (vl .f64 (floatOfInt .f64 156)))) := rfl
          have Hs := Lib.hid (hs'.symm.trans hv.out)
          clear hs'
          go_wp2
          go_roundw
          case rel => exact ⟨5, _, _, by omega, rfl, by go_num, fov_lt _ _ _ _ _, by show serV (uV (turnV b)) 5 (vl .f64 _) = _; rw [vl_fov, vl_fov, vl_fov, Hu.out]; exact Hs.out, rfl⟩
          case measure => simp [intOf]
        · have hs' : serV (uV (turnV b)) 5 (vl .f64 r) = serV (uV (turnV b)) 4 (fop .sub .f64 (vl .f64 one64) (fop .quo .f64 (fop .mul .f64 (uV (turnV b)) (vl .f64 r)) (vl .f64 (floatOfInt .f64 110)))) := rfl
          have Hs := Lib.hid (hs'.symm.trans hv.out)
          clear hs'
          go_wp2
          go_roundw
          case rel => exact ⟨4, _, _, by omega, rfl, by go_num, fov_lt _ _ _ _ _, by show serV (uV (turnV b)) 4 (vl .f64 _) = _; rw [vl_fov, vl_fov, vl_fov, Hu.out]; exact Hs.out, rfl⟩
          case measure => simp [intOf]
        · have hs' : serV (uV (turnV b)) 4 (vl .f64 r) = serV (uV (turnV b)) 3 (fop .sub .f64 (vl .f64 one64) (fop .quo .f64 (fop .mul .f64 (uV (turnV b)) (vl .f64 r)) (vl .f64 (floatOfInt .f64 72)))) := rfl
          have Hs := Lib.hid (hs'.symm.trans hv.out)
          clear hs'
          go_wp2
          go_roundw
          case rel => exact ⟨3, _, _, by omega, rfl, by go_num, fov_lt _ _ _ _ _, by show serV (uV (turnV b)) 3 (vl .f64 _) = _; rw [vl_fov, vl_fov, vl_fov, Hu.out]; exact Hs.out, rfl⟩
          case measure => simp [intOf]
        · have hs' : serV (uV (turnV b)) 3 (vl .f64 r) = serV (uV (turnV b)) 2 (fop .sub .f64 (vl .f64 one64) (fop .quo .f64 (fop .mul .f64 (uV (turnV b)) (vl .f64 r)) (vl .f64 (floatOfInt .f64 42)))) := rfl
          have Hs := Lib.hid (hs'.symm.trans hv.out)
          clear hs'
          go_wp2
          go_roundw
          case rel => exact ⟨2, _, _, by omega, rfl, by go_num, fov_lt _ _ _ _ _, by show serV (uV (turnV b)) 2 (vl .f64 _) = _; rw [vl_fov, vl_fov, vl_fov, Hu.out]; exact Hs.out, rfl⟩
          case measure => simp [intOf]
        · have hs' : serV (uV (turnV b)) 2 (vl .f64 r) = serV (uV (turnV b)) 1 (fop .sub .f64 (vl .f64 one64) (fop .quo .f64 (fop .mul .f64 (uV (turnV b)) (vl .f64 r)) (vl .f64 (floatOfInt .f64 20)))) := rfl
          have Hs := Lib.hid (hs'.symm.trans hv.out)
          clear hs'
          go_wp2
          go_roundw
          case rel => exact ⟨1, _, _, by omega, rfl, by go_num, fov_lt _ _ _ _ _, by show serV (uV (turnV b)) 1 (vl .f64 _) = _; rw [vl_fov, vl_fov, vl_fov, Hu.out]; exact Hs.out, rfl⟩
          case measure => simp [intOf]
        · have hs' : serV (uV (turnV b)) 1 (vl .f64 r) = serV (uV (turnV b)) 0 (fop .sub .f64 (vl .f64 one64) (fop .quo .f64 (fop .mul .f64 (uV (turnV b)) (vl .f64 r)) (vl .f64 (floatOfInt .f64 6)))) := rfl
          have Hs := Lib.hid (hs'.symm.trans hv.out)
          clear hs'
          go_wp2
          go_roundw
          case rel => exact ⟨0, _, _, by omega, rfl, by go_num, fov_lt _ _ _ _ _, by show serV (uV (turnV b)) 0 (vl .f64 _) = _; rw [vl_fov, vl_fov, vl_fov, Hu.out]; exact Hs.out, rfl⟩
          case measure => simp [intOf]
        · have Hv : Hid (vl .f64 r = serV (uV (turnV b)) 8 (vl .f64 one64)) := hv
          go_wp2
          · have hc : geB (turnV b) (vl .f64 half64) = true := by rw [← Hge.out, Bool.or_eq_true]; assumption
            have Hf := Lib.hid (show sineV (turnV b) = fneg (rV (turnV b)) by unfold sineV; rw [hc]; rfl)
            go_ret
            exact ⟨_, _, rfl, by rw [vl_neg, vl_fov, Hf.out, Hz0.out, Hv.out]; rfl, neg_lt (fov_lt _ _ _ _ _), rfl⟩
          · have hc : geB (turnV b) (vl .f64 half64) = false := by rw [← Hge.out, Bool.or_eq_false_iff]; assumption
            have Hf := Lib.hid (show sineV (turnV b) = rV (turnV b) by unfold sineV; rw [hc]; rfl)
            go_ret
            exact ⟨_, _, rfl, by rw [vl_fov, Hf.out, Hz0.out, Hv.out]; rfl, fov_lt _ _ _ _ _, rfl⟩
theorem sw64' : FloatKind.f64.format.signWeight = 9223372036854775808 := by decide
theorem inf64' : FloatKind.f64.format.infRung = 9218868437227405312 := by decide

theorem lim_rung : rung .f64 4841369599423283200 = (52 + 1023) * 4503599627370496 := by unfold rung; rw [sw64']
theorem lim_fin : rung .f64 4841369599423283200 < FloatKind.f64.format.infRung := by rw [lim_rung, inf64']; omega
theorem nlim_rung : rung .f64 14064741636278059008 = (52 + 1023) * 4503599627370496 := by unfold rung; rw [sw64']
theorem nlim_fin : rung .f64 14064741636278059008 < FloatKind.f64.format.infRung := by rw [nlim_rung, inf64']; omega
theorem lim_neg : neg .f64 4841369599423283200 = false := by unfold neg; rw [sw64', Nat.div_eq_of_lt (by omega)]; rfl
theorem nlim_neg : neg .f64 14064741636278059008 = true := by unfold neg; rw [sw64']; rfl
theorem lim_sv : sv .f64 4841369599423283200 = U .f64 ((52 + 1023) * 4503599627370496) := by unfold sv; rw [lim_neg, lim_rung]; simp
theorem nlim_sv : sv .f64 14064741636278059008 = -(U .f64 ((52 + 1023) * 4503599627370496) : Int) := by unfold sv; rw [nlim_neg, nlim_rung]; simp

theorem ge_cmp (x y : Int) : (some (compare x y) == some Ordering.gt || some (compare x y) == some Ordering.eq) = decide (y ≤ x) := by
  rcases Int.lt_trichotomy x y with h | h | h
  · have : compare x y = .lt := by show compareOfLessAndEq _ _ = _; unfold compareOfLessAndEq; rw [if_pos h]
    rw [this]; simp; omega
  · have : compare x y = .eq := by show compareOfLessAndEq _ _ = _; unfold compareOfLessAndEq; rw [if_neg (by omega), if_pos h]
    rw [this]; simp; omega
  · have : compare x y = .gt := by show compareOfLessAndEq _ _ = _; unfold compareOfLessAndEq; rw [if_neg (by omega), if_neg (by omega)]
    rw [this]; simp; omega
theorem le_cmp (x y : Int) : (some (compare x y) == some Ordering.lt || some (compare x y) == some Ordering.eq) = decide (x ≤ y) := by
  rcases Int.lt_trichotomy x y with h | h | h
  · have : compare x y = .lt := by show compareOfLessAndEq _ _ = _; unfold compareOfLessAndEq; rw [if_pos h]
    rw [this]; simp; omega
  · have : compare x y = .eq := by show compareOfLessAndEq _ _ = _; unfold compareOfLessAndEq; rw [if_neg (by omega), if_pos h]
    rw [this]; simp; omega
  · have : compare x y = .gt := by show compareOfLessAndEq _ _ = _; unfold compareOfLessAndEq; rw [if_neg (by omega), if_neg (by omega)]
    rw [this]; simp; omega

theorem U_lim_pos : 0 < U .f64 ((52 + 1023) * 4503599627370496) := by
  have h := U_lt .f64 (show 0 < (52 + 1023) * 4503599627370496 by omega)
  exact Nat.lt_of_le_of_lt (Nat.zero_le _) h

/-- Against 2^52 and its opposite. -/
theorem lim_tests {b : Nat} (hf : rung .f64 b < FloatKind.f64.format.infRung) :
    (FloatKind.f64.format.order b 4841369599423283200 == some .gt || FloatKind.f64.format.order b 4841369599423283200 == some .eq) = (!neg .f64 b && decide ((52 + 1023) * 4503599627370496 ≤ rung .f64 b)) ∧
    (FloatKind.f64.format.order b 14064741636278059008 == some .lt || FloatKind.f64.format.order b 14064741636278059008 == some .eq) = (neg .f64 b && decide ((52 + 1023) * 4503599627370496 ≤ rung .f64 b)) ∧
    (FloatKind.f64.format.order (b % 9223372036854775808) 4841369599423283200 == some .gt || FloatKind.f64.format.order (b % 9223372036854775808) 4841369599423283200 == some .eq) = decide ((52 + 1023) * 4503599627370496 ≤ rung .f64 b) := by
  have hp := U_lim_pos
  have hiff : U .f64 ((52 + 1023) * 4503599627370496) ≤ U .f64 (rung .f64 b) ↔ (52 + 1023) * 4503599627370496 ≤ rung .f64 b := by
    constructor
    · intro h
      rcases Nat.lt_or_ge (rung .f64 b) ((52 + 1023) * 4503599627370496) with h' | h'
      · have := U_lt .f64 h'; omega
      · exact h'
    · exact U_le .f64
  rw [order_units _ _ _ hf lim_fin, order_units _ _ _ hf nlim_fin, order_units _ _ _ (by rw [rung_abs]; exact hf) lim_fin, ge_cmp, le_cmp, ge_cmp, sv_abs, lim_sv, nlim_sv]
  unfold sv
  generalize U .f64 ((52 + 1023) * 4503599627370496) = L at *
  generalize U .f64 (rung .f64 b) = V at *
  have hd : decide ((52 + 1023) * 4503599627370496 ≤ rung .f64 b) = decide (L ≤ V) := decide_eq_decide.2 hiff.symm
  rw [hd]
  cases neg .f64 b
  · refine ⟨?_, ?_, ?_⟩
    · simp
    · simp; omega
    · simp
  · refine ⟨?_, ?_, ?_⟩
    · simp; omega
    · simp
    · simp

theorem lim_small {b : Nat} (h : rung .f64 b < (52 + 1023) * 4503599627370496) :
    (FloatKind.f64.format.order b 4841369599423283200 == some .gt || FloatKind.f64.format.order b 4841369599423283200 == some .eq) = false ∧
    (FloatKind.f64.format.order b 14064741636278059008 == some .lt || FloatKind.f64.format.order b 14064741636278059008 == some .eq) = false := by
  obtain ⟨h1, h2, _⟩ := lim_tests (small_fin h)
  have : decide ((52 + 1023) * 4503599627370496 ≤ rung .f64 b) = false := by simp; omega
  rw [h1, h2, this]; simp

set_option maxHeartbeats 2000000 in
theorem sineWide_small (b : Nat) (hs : rung .f64 b < (52 + 1023) * 4503599627370496) (w : World) : Calls Try.prog 208 #[.float .f64 b] w (FRet .f64 (sineV (turnV b)) w) := by
  have hadd := fun x y w => run_fov (P := Try.prog) .add rfl 27 .f64 x y w
  have hsub := fun x y w => run_fov (P := Try.prog) .sub rfl 27 .f64 x y w
  have hmul := fun x y w => run_fov (P := Try.prog) .mul rfl 27 .f64 x y w
  have hquo := fun x y w => run_fov (P := Try.prog) .quo rfl 27 .f64 x y w
  have hit := fun n w => run_convert_int_float (P := Try.prog) w 3 27 .i64 .f64 n (by rw [Try.underlying3]; rfl) Try.underlying27
  have hneg : ∀ (x : Nat) (w : World), (Op.unary .neg (.float .f64 x)).run Try.prog w = .ok (.float .f64 (Op.negFloat .f64 x)) w := fun _ _ => rfl
  have hti := fun w => run_convert_float_int (P := Try.prog) w 27 2 .f64 .i64 b (tz b) isSome_f64 Try.underlying2 (toInt_small hs)
  have hit2 := fun w => run_convert_int_float (P := Try.prog) w 2 27 .i64 .f64 (tz b) (by rw [Try.underlying2]; rfl) Try.underlying27
  obtain ⟨t, ht⟩ : ∃ t, t = floatOfInt .f64 (tz b) := ⟨_, rfl⟩
  rw [← ht] at hit2
  have Ht := Lib.hid ht
  clear ht
  have hf0 : (FloatKind.f64.format.order (fov .sub .f64 b b w) 0 != some .eq) = false := by
    rw [bne, order_vl, vl_fov, sub_self, fin_iff.2 (small_fin hs)]; rfl
  obtain ⟨T1, T2⟩ := lim_small hs
  go_enter Try.func208, Try.ntmps208
  go_upto_if 26 with (fail)
  have Hlt := Lib.hid (show (FloatKind.f64.format.order (fov .sub .f64 b t (w.drewN (fon .sub .f64 b b))) 0 == some .lt) = ltB (beyond b) (vl .f64 0) by rw [order_vl, vl_fov, Ht.out]; rfl)
  clear hf0 T1 T2
  go_cut [3] (fun f wx => ∃ r n : Nat, f = .float .f64 r ∧ r < 2 ^ 64 ∧ Hid (vl .f64 r = turnV b) ∧ wx = w.drewN n)
  case first =>
    go_wp2
    · have hc : ltB (beyond b) (vl .f64 0) = true := by rw [← Hlt.out]; assumption
      go_meet
      case rel => exact ⟨_, _, rfl, fov_lt _ _ _ _ _, by show vl .f64 _ = _; rw [vl_fov, vl_fov, Ht.out]; unfold turnV; rw [hc]; rfl, rfl⟩
    · have hc : ltB (beyond b) (vl .f64 0) = false := by rw [← Hlt.out]; assumption
      go_meet
      case rel => exact ⟨_, _, rfl, fov_lt _ _ _ _ _, by show vl .f64 _ = _; rw [vl_fov, Ht.out]; unfold turnV; rw [hc]; rfl, rfl⟩
  case rest =>
  obtain ⟨r0, n0, rfl, hr0, V0, rfl⟩ := hcut
  go_upto_if 31 with (fail)
  have Hge := Lib.hid (show (FloatKind.f64.format.order r0 4602678819172646912 == some .gt || FloatKind.f64.format.order r0 4602678819172646912 == some .eq) = geB (turnV b) (vl .f64 half64) from ge_of half64 V0.out)
  go_cut [3] (fun f wx => ∃ r n : Nat, f = .float .f64 r ∧ r < 2 ^ 64 ∧ Hid (vl .f64 r = fold1 (turnV b)) ∧ wx = w.drewN n)
  case first =>
    go_wp2
    · have hc : geB (turnV b) (vl .f64 half64) = true := by rw [← Hge.out, Bool.or_eq_true]; assumption
      go_meet
      case rel => exact ⟨_, _, rfl, fov_lt _ _ _ _ _, by show vl .f64 _ = _; rw [vl_fov, V0.out]; unfold fold1; rw [hc]; rfl, rfl⟩
    · have hc : geB (turnV b) (vl .f64 half64) = false := by rw [← Hge.out, Bool.or_eq_false_iff]; assumption
      go_meet
      case rel => exact ⟨_, _, rfl, hr0, by show vl .f64 _ = _; rw [V0.out]; unfold fold1; rw [hc]; rfl, rfl⟩
  case rest =>
    obtain ⟨r1, n1, rfl, hr1, V1, rfl⟩ := hcut
    go_upto_if 35 with (fail)
    have Hgt := Lib.hid (show (FloatKind.f64.format.order r1 4598175219545276416 == some .gt) = gtB (fold1 (turnV b)) (vl .f64 quarter64) from gt_of quarter64 V1.out)
    go_cut [3] (fun f wx => ∃ r n : Nat, f = .float .f64 r ∧ r < 2 ^ 64 ∧ Hid (vl .f64 r = fold2 (fold1 (turnV b))) ∧ wx = w.drewN n)
    case first =>
      go_wp2
      · have hc : gtB (fold1 (turnV b)) (vl .f64 quarter64) = true := by rw [← Hgt.out]; assumption
        go_meet
        case rel => exact ⟨_, _, rfl, fov_lt _ _ _ _ _, by show vl .f64 _ = _; rw [vl_fov, V1.out]; unfold fold2; rw [hc]; rfl, rfl⟩
      · have hc : gtB (fold1 (turnV b)) (vl .f64 quarter64) = false := by rw [← Hgt.out]; assumption
        go_meet
        case rel => exact ⟨_, _, rfl, hr1, by show vl .f64 _ = _; rw [V1.out]; unfold fold2; rw [hc]; rfl, rfl⟩
    case rest =>
      obtain ⟨r2, n2, rfl, hr2, V2, rfl⟩ := hcut
      go_wp2
      have Hz0 := Lib.hid (show vl .f64 (fov .mul .f64 r2 4618760256179416344 (w.drewN n2)) = zV (turnV b) by rw [vl_fov, V2.out]; rfl)
      generalize fov .mul .f64 r2 4618760256179416344 (w.drewN n2) = z at *
      have Hu := Lib.hid (show vl .f64 (fov .mul .f64 z z (w.drewN (n2 + fon .mul .f64 r2 4618760256179416344))) = uV (turnV b) by rw [vl_fov, Hz0.out]; rfl)
      generalize fov .mul .f64 z z (w.drewN (n2 + fon .mul .f64 r2 4618760256179416344)) = u at *
      go_loopw [7, 8] (fun p k wr => ∃ kk r n : Nat, kk ≤ 8 ∧ p = .float .f64 r ∧ k = .int .i64 kk ∧ r < 2 ^ 64 ∧ Hid (serV (uV (turnV b)) kk (vl .f64 r) = serV (uV (turnV b)) 8 (vl .f64 one64)) ∧ wr = w.drewN n) (fun _ k _ => (intOf k).toNat)
      case atStart => exact ⟨8, _, _, by omega, rfl, rfl, by decide, rfl, rfl⟩
      case round =>
        obtain ⟨kk, r, n, hk, rfl, rfl, hr, hv, rfl⟩ := hrel
        rcases (by omega : kk = 8 ∨ kk = 7 ∨ kk = 6 ∨ kk = 5 ∨ kk = 4 ∨ kk = 3 ∨ kk = 2 ∨ kk = 1 ∨ kk = 0) with rfl | rfl | rfl | rfl | rfl | rfl | rfl | rfl | rfl
        · have hs' : serV (uV (turnV b)) 8 (vl .f64 r) = serV (uV (turnV b)) 7 (fop .sub .f64 (vl .f64 one64) (fop .quo .f64 (fop .mul .f64 (uV (turnV b)) (vl .f64 r)) (vl .f64 (floatOfInt .f64 272)))) := rfl
          have Hs := Lib.hid (hs'.symm.trans hv.out)
          clear hs'
          go_wp2
          go_roundw
          case rel => exact ⟨7, _, _, by omega, rfl, by go_num, fov_lt _ _ _ _ _, by show serV (uV (turnV b)) 7 (vl .f64 _) = _; rw [vl_fov, vl_fov, vl_fov, Hu.out]; exact Hs.out, rfl⟩
          case measure => simp [intOf]
        · have hs' : serV (uV (turnV b)) 7 (vl .f64 r) = serV (uV (turnV b)) 6 (fop .sub .f64 (vl .f64 one64) (fop .quo .f64 (fop .mul .f64 (uV (turnV b)) (vl .f64 r)) (vl .f64 (floatOfInt .f64 210)))) := rfl
          have Hs := Lib.hid (hs'.symm.trans hv.out)
          clear hs'
          go_wp2
          go_roundw
          case rel => exact ⟨6, _, _, by omega, rfl, by go_num, fov_lt _ _ _ _ _, by show serV (uV (turnV b)) 6 (vl .f64 _) = _; rw [vl_fov, vl_fov, vl_fov, Hu.out]; exact Hs.out, rfl⟩
          case measure => simp [intOf]
        · have hs' : serV (uV (turnV b)) 6 (vl .f64 r) = serV (uV (turnV b)) 5 (fop .sub .f64 (vl .f64 one64) (fop .quo .f64 (fop .mul .f64 (uV (turnV b)) (vl .f64 r)) (vl .f64 (floatOfInt .f64 156)))) := rfl
          have Hs := Lib.hid (hs'.symm.trans hv.out)
          clear hs'
          go_wp2
          go_roundw
          case rel => exact ⟨5, _, _, by omega, rfl, by go_num, fov_lt _ _ _ _ _, by show serV (uV (turnV b)) 5 (vl .f64 _) = _; rw [vl_fov, vl_fov, vl_fov, Hu.out]; exact Hs.out, rfl⟩
          case measure => simp [intOf]
        · have hs' : serV (uV (turnV b)) 5 (vl .f64 r) = serV (uV (turnV b)) 4 (fop .sub .f64 (vl .f64 one64) (fop .quo .f64 (fop .mul .f64 (uV (turnV b)) (vl .f64 r)) (vl .f64 (floatOfInt .f64 110)))) := rfl
          have Hs := Lib.hid (hs'.symm.trans hv.out)
          clear hs'
          go_wp2
          go_roundw
          case rel => exact ⟨4, _, _, by omega, rfl, by go_num, fov_lt _ _ _ _ _, by show serV (uV (turnV b)) 4 (vl .f64 _) = _; rw [vl_fov, vl_fov, vl_fov, Hu.out]; exact Hs.out, rfl⟩
          case measure => simp [intOf]
        · have hs' : serV (uV (turnV b)) 4 (vl .f64 r) = serV (uV (turnV b)) 3 (fop .sub .f64 (vl .f64 one64) (fop .quo .f64 (fop .mul .f64 (uV (turnV b)) (vl .f64 r)) (vl .f64 (floatOfInt .f64 72)))) := rfl
          have Hs := Lib.hid (hs'.symm.trans hv.out)
          clear hs'
          go_wp2
          go_roundw
          case rel => exact ⟨3, _, _, by omega, rfl, by go_num, fov_lt _ _ _ _ _, by show serV (uV (turnV b)) 3 (vl .f64 _) = _; rw [vl_fov, vl_fov, vl_fov, Hu.out]; exact Hs.out, rfl⟩
          case measure => simp [intOf]
        · have hs' : serV (uV (turnV b)) 3 (vl .f64 r) = serV (uV (turnV b)) 2 (fop .sub .f64 (vl .f64 one64) (fop .quo .f64 (fop .mul .f64 (uV (turnV b)) (vl .f64 r)) (vl .f64 (floatOfInt .f64 42)))) := rfl
          have Hs := Lib.hid (hs'.symm.trans hv.out)
          clear hs'
          go_wp2
          go_roundw
          case rel => exact ⟨2, _, _, by omega, rfl, by go_num, fov_lt _ _ _ _ _, by show serV (uV (turnV b)) 2 (vl .f64 _) = _; rw [vl_fov, vl_fov, vl_fov, Hu.out]; exact Hs.out, rfl⟩
          case measure => simp [intOf]
        · have hs' : serV (uV (turnV b)) 2 (vl .f64 r) = serV (uV (turnV b)) 1 (fop .sub .f64 (vl .f64 one64) (fop .quo .f64 (fop .mul .f64 (uV (turnV b)) (vl .f64 r)) (vl .f64 (floatOfInt .f64 20)))) := rfl
          have Hs := Lib.hid (hs'.symm.trans hv.out)
          clear hs'
          go_wp2
          go_roundw
          case rel => exact ⟨1, _, _, by omega, rfl, by go_num, fov_lt _ _ _ _ _, by show serV (uV (turnV b)) 1 (vl .f64 _) = _; rw [vl_fov, vl_fov, vl_fov, Hu.out]; exact Hs.out, rfl⟩
          case measure => simp [intOf]
        · have hs' : serV (uV (turnV b)) 1 (vl .f64 r) = serV (uV (turnV b)) 0 (fop .sub .f64 (vl .f64 one64) (fop .quo .f64 (fop .mul .f64 (uV (turnV b)) (vl .f64 r)) (vl .f64 (floatOfInt .f64 6)))) := rfl
          have Hs := Lib.hid (hs'.symm.trans hv.out)
          clear hs'
          go_wp2
          go_roundw
          case rel => exact ⟨0, _, _, by omega, rfl, by go_num, fov_lt _ _ _ _ _, by show serV (uV (turnV b)) 0 (vl .f64 _) = _; rw [vl_fov, vl_fov, vl_fov, Hu.out]; exact Hs.out, rfl⟩
          case measure => simp [intOf]
        · have Hv : Hid (vl .f64 r = serV (uV (turnV b)) 8 (vl .f64 one64)) := hv
          go_wp2
          · have hc : geB (turnV b) (vl .f64 half64) = true := by rw [← Hge.out, Bool.or_eq_true]; assumption
            have Hf := Lib.hid (show sineV (turnV b) = fneg (rV (turnV b)) by unfold sineV; rw [hc]; rfl)
            go_ret
            exact ⟨_, _, rfl, by rw [vl_neg, vl_fov, Hf.out, Hz0.out, Hv.out]; rfl, neg_lt (fov_lt _ _ _ _ _), rfl⟩
          · have hc : geB (turnV b) (vl .f64 half64) = false := by rw [← Hge.out, Bool.or_eq_false_iff]; assumption
            have Hf := Lib.hid (show sineV (turnV b) = rV (turnV b) by unfold sineV; rw [hc]; rfl)
            go_ret
            exact ⟨_, _, rfl, by rw [vl_fov, Hf.out, Hz0.out, Hv.out]; rfl, fov_lt _ _ _ _ _, rfl⟩

theorem nan64 : vl .f64 9221120237041090561 = none := by
  have e3 : FloatKind.f64.format.signWeight = 9223372036854775808 := by decide
  have e2 : FloatKind.f64.format.infRung = 9218868437227405312 := by decide
  unfold vl
  rw [show (FloatKind.f64.decode 9221120237041090561).isNaN = true from ?_]; rfl
  show (FloatKind.f64.format.read _).isNaN = true
  rw [isNaN_read, e2, e3]; simp

theorem nan_any (w : World) : Calls Try.prog 74 #[] w (VRet (.float .f64 9221120237041090561) w) := by
  have hf := run_f64frombits
  go_enter Try.func74, Try.ntmps74
  go_wp2
  go_ret
  exact ⟨0, rfl, rfl⟩

/-- The sine of any float64, up to NaN. -/
def sineW (b : Nat) : Option Nat := if fin .f64 (vl .f64 b) then (if (52 + 1023) * 4503599627370496 ≤ rung .f64 b then some 0 else sineV (turnV b)) else none

theorem sineW_over (b : Nat) : over .f64 .f32 (sineW b) = false := by
  unfold sineW
  split
  · split
    · exact over_bd (E := 0) (by intro c hc; cases hc; decide) (by omega)
    · exact over_bd (sine_bd (turn_bd (by omega))) (by omega)
  · rfl

theorem sineWide_any (b : Nat) (hb : b < 2 ^ 64) (w : World) : Calls Try.prog 208 #[.float .f64 b] w (FRet .f64 (sineW b) w) := by
  have hsub := fun x y w => run_fov (P := Try.prog) .sub rfl 27 .f64 x y w
  have hf0 : (FloatKind.f64.format.order (fov .sub .f64 b b w) 0 != some .eq) = !fin .f64 (vl .f64 b) := by
    rw [bne, order_vl, vl_fov, sub_self]
  cases hfin : fin .f64 (vl .f64 b)
  · have Hs := Lib.hid (show sineW b = none by unfold sineW; rw [hfin]; rfl)
    rw [hfin] at hf0
    clear hfin
    go_enter Try.func208, Try.ntmps208
    go_wp2_with (go_at_call 74; refine (nan_any _).mono ?_; rintro e w' ⟨m, rfl, rfl⟩)
    go_ret
    exact ⟨_, _, rfl, by rw [Hs.out, nan64], by decide, rfl⟩
  · have hr := fin_iff.1 hfin
    by_cases hs : rung .f64 b < (52 + 1023) * 4503599627370496
    · have Hs := Lib.hid (show sineW b = sineV (turnV b) by unfold sineW; rw [hfin, if_pos rfl, if_neg (by omega)])
      rw [Hs.out]
      exact sineWide_small b hs w
    · have Hs := Lib.hid (show sineW b = some 0 by unfold sineW; rw [hfin, if_pos rfl, if_pos (by omega)])
      obtain ⟨t1, t2, _⟩ := lim_tests hr
      have hd : decide ((52 + 1023) * 4503599627370496 ≤ rung .f64 b) = true := by simp; omega
      rw [hd] at t1 t2
      rw [hfin] at hf0
      clear hd hr hs hfin
      cases hn : neg .f64 b
      · rw [hn] at t1 t2
        clear hn
        go_enter Try.func208, Try.ntmps208
        go_wp2
        go_ret
        exact ⟨0, _, rfl, by rw [Hs.out, vl_zero], by decide, rfl⟩
      · rw [hn] at t1 t2
        clear hn
        go_enter Try.func208, Try.ntmps208
        go_wp2
        go_ret
        exact ⟨0, _, rfl, by rw [Hs.out, vl_zero], by decide, rfl⟩

/-- The sine of a float32 number of turns, narrowed. -/
def sineF (b : Nat) : Option Nat := fcv .f64 .f32 ((fcv .f32 .f64 (vl .f32 b)).bind sineW)

theorem sineW_none {r : Nat} (h : vl .f64 r = none) : sineW r = none := by unfold sineW; rw [h]; rfl
theorem sineW_bind {r b : Nat} (h : vl .f64 r = fcv .f32 .f64 (vl .f32 b)) : sineF b = fcv .f64 .f32 (sineW r) := by
  unfold sineF
  rw [← h]
  rcases vl_cases .f64 r with hr | hr
  · rw [hr, sineW_none hr]; rfl
  · rw [hr]; rfl


end Go.Proofs.Ytljclagfplildaa.Fl
