/-
  The least margin of two curves, in the program. No theorem of a claim stands here.
-/
import Derived.Test.YthkjikennlaelaaCurN
import Derived.Deep.Cut
import Derived.Deep.CutRange
import Derived.Deep.RegionHeld3
set_option linter.unusedVariables false
set_option linter.unusedSimpArgs false
set_option maxRecDepth 8000
namespace Go.Proofs.Ythkjikennlaelaa
open Go Go.RowKit Go.Deep Go.Proofs.Ythkjikennlaelaa.Fl

def shareF (k cnt : Int) : Option Nat := fop .quo .f32 (vl .f32 (floatOfInt .f32 k)) (vl .f32 (floatOfInt .f32 cnt))
def curF (lo hi : Nat) (k cnt : Int) : Option Nat := fop .add .f32 (vl .f32 lo) (fop .mul .f32 (fop .sub .f32 (vl .f32 hi) (vl .f32 lo)) (shareF k cnt))
def margV (K L : CK) : Option Nat → Option (Option Nat)
  | some x => marginR K L x
  | none => none
theorem timeR_nan {C T : List Nat} {x : Nat} (h : vl .f32 x = none) : timeR C T x = none := by
  unfold timeR timeF
  rw [lastGe_none _ (fun j _ => geF_nan (.inl h))]
  split <;> rfl
theorem margV_eq (K L : CK) (r : Nat) : margV K L (vl .f32 r) = marginR K L r := by
  rcases vl_cases .f32 r with h | h
  · rw [h]
    unfold margV marginR
    rw [timeR_nan h]
    rfl
  · rw [h]; rfl
/-- The least one so far, and one more. -/
def leastS (acc : Option (Option Nat)) (mg : Option (Option Nat)) : Option (Option Nat) := match mg with
  | none => acc
  | some v => match acc with
    | none => some v
    | some u => if ford .f32 v u == some .lt then some v else some u
def gradeL (K L : CK) (lo hi : Nat) (cnt : Int) : Nat → Option (Option Nat)
  | 0 => none
  | k + 1 => leastS (gradeL K L lo hi cnt k) (margV K L (curF lo hi k cnt))
def gradeR (K L : CK) (lo hi : Nat) (cnt : Int) : Option (Option Nat) := if 1 ≤ cnt ∧ cnt ≤ 100 then gradeL K L lo hi cnt (cnt.toNat + 1) else none
def GradeP (K L : CK) (lo hi : Nat) (cnt : Int) (w : World) (en : Ending) (w' : World) : Prop := ∃ r, en = .returned (.tuple #[.float .f32 r, .bool (gradeR K L lo hi cnt).isSome]) ∧ r < 2 ^ 32 ∧ vl .f32 r = (gradeR K L lo hi cnt).getD (some 0) ∧ Below w.heap.size w w'
set_option maxHeartbeats 8000000 in
theorem implGrade_any (K L : CK) (lo hi : Nat) (cnt : Int) (w : World) (hK : K.rd w) (hL : L.rd w) (l1 : lo < 2 ^ 32) (l2 : hi < 2 ^ 32) :
    Calls Try.prog 20 #[K.val, L.val, .float .f32 lo, .float .f32 hi, .int .i64 cnt] w (GradeP K L lo hi cnt w) := by
  have hadd := fun x y w => run_fov (P := Try.prog) .add rfl 28 .f32 x y w
  have hsub := fun x y w => run_fov (P := Try.prog) .sub rfl 28 .f32 x y w
  have hquo := fun x y w => run_fov (P := Try.prog) .quo rfl 28 .f32 x y w
  have S0 := Lib.hid (C2.new w K L)
  have HM := Lib.hid (fun (x : Nat) (w' : World) (hB : Below w.heap.size w w') => implMargin_any K L x w' (hK.stays hB) (hL.stays hB))
  unfold CK.val MarginP at HM
  unfold CK.val GradeP
  clear hK hL
  by_cases hc : 1 ≤ cnt ∧ cnt ≤ 100
  · have He := Lib.hid (show gradeR K L lo hi cnt = gradeL K L lo hi cnt (cnt.toNat + 1) by unfold gradeR; rw [if_pos hc])
    obtain ⟨n, rfl⟩ := Int.eq_ofNat_of_zero_le (show 0 ≤ cnt by omega)
    have d1 : ¬ ((n : Int) < 1) := by omega
    have d2 : ¬ ((100 : Int) < (n : Int)) := by omega
    have hn100 : n ≤ 100 := by omega
    clear hc
    go_enter Try.func20, Try.ntmps20
    go_upto_region 1 with fail
    generalize ((w.alloc (.cells #[.slice K.a K.n K.c, .slice K.b K.m K.e] 26)).alloc (.cells #[.slice L.a L.n L.c, .slice L.b L.m L.e] 26)) = W at *
    go_wp2_with fail
    clear d1 d2
    go_loopw [12, 13, 26] (fun M F I wr => ∃ (k r : Nat), k ≤ n + 1 ∧ M = .float .f32 r ∧ F = .bool (gradeL K L lo hi n k).isSome ∧ I = .int .i64 k ∧ r < 2 ^ 32 ∧ Hid (vl .f32 r = (gradeL K L lo hi n k).getD (some 0)) ∧ Hid (C2 w wr K L)) (fun _ _ I _ => n + 1 - (intOf I).toNat)
    case atStart => exact ⟨0, 0, Nat.zero_le _, rfl, rfl, rfl, by decide, Lib.hid (vl_zero _), S0⟩
    case round =>
      clear S0
      obtain ⟨k, r, hk, rfl, rfl, rfl, hr, Hv, Hw⟩ := hrel
      obtain ⟨⟨c0, c1⟩, e0, e1⟩ := Hw.out.cells
      by_cases hlt : k < n + 1
      · have hlt' : (k : Int) < (n : Int) + 1 := by omega
        have Hs := Lib.hid (show gradeL K L lo hi n (k + 1) = leastS (gradeL K L lo hi n k) (margV K L (curF lo hi k n)) from rfl)
        generalize gradeL K L lo hi n k = acc at *
        go_wp2_with fail
        generalize hsh : fov BinOp.quo FloatKind.f32 (floatOfInt FloatKind.f32 (k : Int)) (floatOfInt FloatKind.f32 (n : Int)) wr = sh
        have Hsh := Lib.hid (show vl .f32 sh = shareF k n by rw [← hsh, vl_fov]; rfl)
        have W3 := Lib.hid (Hw.out.call (below_drawn wr (fon BinOp.quo FloatKind.f32 (floatOfInt FloatKind.f32 (k : Int)) (floatOfInt FloatKind.f32 (n : Int)))))
        clear hsh Hw c0 c1 e0 e1 hquo
        generalize wr.drewN (fon BinOp.quo FloatKind.f32 (floatOfInt FloatKind.f32 (k : Int)) (floatOfInt FloatKind.f32 (n : Int))) = w3 at *
        obtain ⟨⟨c0, c1⟩, e0, e1⟩ := W3.out.cells
        clear hadd
        have hadd := fun x y w => run_fov (P := Try.prog) .add rfl 28 .f32 x y w
        go_cut [16, 17, 26] from 26 to 58 (fun s16 s17 s26 wx => ∃ (x p : Nat), s16 = .float .f32 p ∧ s17 = .bool (marginR K L x).isSome ∧ s26 = .int .i64 k ∧ Hid (vl .f32 x = curF lo hi k n) ∧ p < 2 ^ 32 ∧ Hid (vl .f32 p = (marginR K L x).getD (some 0)) ∧ Hid (C2 w wx K L))
        case first =>
          go_region_with (first | (go_at_call 50; refine (mulF_any _ _ _).mono ?_; rintro ee w' ⟨p1, n1, rfl, hv1, hl1, rfl⟩) | (go_at_call 19; refine (HM.out _ _ ?_).mono ?_; (exact W3.out.below.trans ((below_drawn w3 _).mono W3.out.below.size)); rintro ee w9 ⟨p2, rfl, hl2, hv2, hb9⟩))
          all_goals go_wp2_with fail
          all_goals go_meet
          all_goals exact ⟨_, p2, rfl, rfl, rfl, Lib.hid (by rw [vl_fov, hv1, vl_fov, Hsh.out]; rfl), hl2, Lib.hid hv2, Lib.hid (W3.out.call ((below_drawn w3 _).trans hb9))⟩
        case rest =>
        obtain ⟨x, p, rfl, rfl, rfl, hx, hp, hpv, HW9⟩ := hcut
        have Hm := Lib.hid (show gradeL K L lo hi n (k + 1) = leastS acc (marginR K L x) by rw [Hs.out, ← hx.out, margV_eq])
        clear W3 c0 c1 e0 e1 Hs hsub hadd hx Hsh
        generalize wc = w9 at *
        generalize marginR K L x = mg at *
        cases mg with
        | none =>
          have q1 : (none : Option (Option Nat)).isSome = false := rfl
          have Hn := Lib.hid (show gradeL K L lo hi n (k + 1) = acc from Hm.out)
          go_wp2_with fail
          go_roundw
          case rel => exact ⟨k + 1, r, by omega, rfl, by first | (rw [Hn.out]; done) | (rw [Hn.out]; rfl), by go_num, hr, Lib.hid (by rw [Hn.out]; exact Hv.out), HW9⟩
          case measure => go_light; simp [intOf]; omega
        | some v =>
          have q1 : (some v : Option (Option Nat)).isSome = true := rfl
          cases acc with
          | none =>
            have q2 : (none : Option (Option Nat)).isSome = false := rfl
            have Hn := Lib.hid (show gradeL K L lo hi n (k + 1) = some v from Hm.out)
            go_wp2_with fail
            go_roundw
            case rel => exact ⟨k + 1, p, by omega, rfl, by first | (rw [Hn.out]; done) | (rw [Hn.out]; rfl), by go_num, hp, Lib.hid (by rw [Hn.out]; exact hpv.out), HW9⟩
            case measure => go_light; simp [intOf]; omega
          | some u =>
            have q2 : (some u : Option (Option Nat)).isSome = true := rfl
            have Hord : Hid (FloatKind.f32.format.order p r = ford .f32 v u) := Lib.hid (by rw [order_vl, hpv.out, Hv.out]; rfl)
            cases hlt2 : (FloatKind.f32.format.order p r == some .lt)
            · have Hn := Lib.hid (show gradeL K L lo hi n (k + 1) = some u by rw [Hm.out]; unfold leastS; rw [Hord.out] at hlt2; simp only [hlt2]; rfl)
              go_wp2_with fail
              go_roundw
              case rel => exact ⟨k + 1, r, by omega, rfl, by first | (rw [Hn.out]; done) | (rw [Hn.out]; rfl), by go_num, hr, Lib.hid (by rw [Hn.out]; exact Hv.out), HW9⟩
              case measure => go_light; simp [intOf]; omega
            · have Hn := Lib.hid (show gradeL K L lo hi n (k + 1) = some v by rw [Hm.out]; unfold leastS; rw [Hord.out] at hlt2; simp only [hlt2]; rfl)
              go_wp2_with fail
              go_roundw
              case rel => exact ⟨k + 1, p, by omega, rfl, by first | (rw [Hn.out]; done) | (rw [Hn.out]; rfl), by go_num, hp, Lib.hid (by rw [Hn.out]; exact hpv.out), HW9⟩
              case measure => go_light; simp [intOf]; omega
      · obtain rfl : k = n + 1 := by omega
        go_wp2_with fail
        go_ret2
        exact ⟨r, by rw [He.out]; rfl, hr, by rw [He.out]; exact Hv.out, Hw.out.below⟩
  · have He := Lib.hid (show gradeR K L lo hi cnt = none by unfold gradeR; rw [if_neg hc])
    by_cases h1 : cnt < 1
    · go_enter Try.func20, Try.ntmps20
      go_upto_region 1 with fail
      generalize ((w.alloc (.cells #[.slice K.a K.n K.c, .slice K.b K.m K.e] 26)).alloc (.cells #[.slice L.a L.n L.c, .slice L.b L.m L.e] 26)) = W at *
      go_wp2_with fail
      go_ret2
      exact ⟨0, by rw [He.out]; rfl, by decide, by rw [He.out]; exact vl_zero _, S0.out.below⟩
    · have h2 : 100 < cnt := by omega
      go_enter Try.func20, Try.ntmps20
      go_upto_region 1 with fail
      generalize ((w.alloc (.cells #[.slice K.a K.n K.c, .slice K.b K.m K.e] 26)).alloc (.cells #[.slice L.a L.n L.c, .slice L.b L.m L.e] 26)) = W at *
      go_wp2_with fail
      go_ret2
      exact ⟨0, by rw [He.out]; rfl, by decide, by rw [He.out]; exact vl_zero _, S0.out.below⟩
end Go.Proofs.Ythkjikennlaelaa
