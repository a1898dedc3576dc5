/-
  The power of voltages and currents. No theorem of a claim stands here.
-/
import Derived.Test.YtljclagfplildaaLoad
import Derived.Test.YtljclagfplildaaRInv
import Derived.Deep.CutRange
import Derived.Deep.DeepCutAuto
set_option linter.unusedVariables false
set_option linter.unusedSimpArgs false
set_option maxRecDepth 8000
namespace Go.Proofs.Ytljclagfplildaa
open Go Go.RowKit Go.Deep Go.Proofs.Ytljclagfplildaa.Fl

theorem run_farith {P : Program} (op : BinOp) (hop : arith op = true) (k : FloatKind) (x y : Nat) (w : World) : (Op.floatArith op k x y).run P w = .ok (.float k (fov op k x y w)) (w.drewN (fon op k x y)) := by
  have h := run_fov (P := P) op hop 0 k x y w
  cases op <;> first | (cases hop; done) | (simpa [binOp] using h)
/-- Sums and differences of complex numbers, any ones. -/
theorem run_cov {P : Program} (op : BinOp) (hop : op = .add ∨ op = .sub) (t : TypeId) (k : FloatKind) (a b c d : Nat) (w : World) :
    (binOp op t (.complex k a b) (.complex k c d)).run P w = .ok (.complex k (fov op k a c w) (fov op k b d (w.drewN (fon op k a c)))) (w.drewN (fon op k a c + fon op k b d)) := by
  rcases hop with rfl | rfl
  · simp [binOp, Op.complexOp, Op.Complex.arith, run_farith (P := P) .add rfl, World.drewN_drewN]
  · simp [binOp, Op.complexOp, Op.Complex.arith, run_farith (P := P) .sub rfl, World.drewN_drewN]

theorem mulConj_any {a b c d r s : Nat} (h : MulV a (Op.negFloat .f32 b) c d r s) (w : World) : Calls Try.prog 221 #[.complex .f32 a b, .complex .f32 c d] w (RB (.complex .f32 r s) w) := by
  have hM := fun w' => mulV_any h w'
  have hC := fun w' => conjC_any a b w'
  clear h
  go_enter Try.func221, Try.ntmps221
  go_wp2_with fail
  refine (hC _).mono ?_
  rintro e w1 ⟨rfl, hb⟩
  have H1 := Lib.hid hb
  clear hb hC
  go_wp2_with fail
  refine (hM _).mono ?_
  rintro e w2 ⟨rfl, hb⟩
  have H2 := Lib.hid (bel_then H1.out hb)
  clear hb hM
  go_wp2_with fail
  go_ret
  exact ⟨rfl, H2.out⟩
theorem three_any (p : Nat → Nat) (w : World) : Calls Try.prog 138 #[PV p] w (RB (PV p) w) := by
  have hst := fun (a : Addr) (x y : Nat) (m : Mode) (w : World) => run_store Try.prog w a (.complex .f32 x y) m rfl
  unfold PV
  go_enter Try.func138, Try.ntmps138
  go_wp2_with fail
  have T := box2 w [.complex .f32 (p 0) (p 1), .complex .f32 (p 2) (p 3), .complex .f32 (p 4) (p 5)] [.complex .f32 (p 0) (p 1), .complex .f32 (p 2) (p 3), .complex .f32 (p 4) (p 5)] 37 175
  have v0 := T.2.1.cell 0 (by simp)
  have v1 := T.2.1.cell 1 (by simp)
  have v2 := T.2.1.cell 2 (by simp)
  simp only [List.getD_cons_zero, List.getD_cons_succ] at v0 v1 v2
  try simp only [Exit.inBlock, Exit.then]
  refine bodyPost_ret (by simp [results, Try.results138, go_sem, v0, v1, v2]; try rfl) rfl ?_
  exact ⟨rfl, T.2.2⟩
/-- Three complex numbers lie in block g. -/
def C3 (w : World) (g : Nat) (x : Nat → Nat) : Prop := g < w.heap.size ∧ w.cell? ⟨g, 0, none⟩ = some (.complex .f32 (x 0) (x 1)) ∧ w.cell? ⟨g, 1, none⟩ = some (.complex .f32 (x 2) (x 3)) ∧ w.cell? ⟨g, 2, none⟩ = some (.complex .f32 (x 4) (x 5))
theorem C3.below {w w' : World} {g B : Nat} {x : Nat → Nat} (h : C3 w g x) (hb : Below B w w') (hB : g < B) : C3 w' g x :=
  ⟨Nat.lt_of_lt_of_le h.1 hb.size, (hb.cell (p := ⟨g, 0, none⟩) hB).trans h.2.1, (hb.cell (p := ⟨g, 1, none⟩) hB).trans h.2.2.1, (hb.cell (p := ⟨g, 2, none⟩) hB).trans h.2.2.2⟩
/-- The sum of products, one part, behind k of them. -/
def dotS (p : Nat → Nat) : Nat → Option Nat
  | 0 => some 0
  | k + 1 => fop .add .f32 (dotS p k) (vl .f32 (p k))
/-- The product of a list of three with the conjugates of another one, told part by part. -/
theorem dotC_any (w : World) (g h : Nat) (x y p q : Nat → Nat) (hg : C3 w g x) (hh : C3 w h y)
    (m0 : MulV (x 0) (Op.negFloat .f32 (x 1)) (y 0) (y 1) (p 0) (q 0)) (m1 : MulV (x 2) (Op.negFloat .f32 (x 3)) (y 2) (y 3) (p 1) (q 1)) (m2 : MulV (x 4) (Op.negFloat .f32 (x 5)) (y 4) (y 5) (p 2) (q 2)) :
    Calls Try.prog 220 #[.slice (some ⟨g, 0, none⟩) 3 3, .slice (some ⟨h, 0, none⟩) 3 3, .func (.func 221) #[] #[]] w fun e w' => ∃ r s, e = .returned (.tuple #[.complex .f32 r s, .bool true]) ∧ vl .f32 r = dotS p 3 ∧ vl .f32 s = dotS q 3 ∧ r < 2 ^ 32 ∧ s < 2 ^ 32 ∧ Below w.heap.size w w' := by
  have hc := fun a b c d w => run_cov (P := Try.prog) .add (.inl rfl) 25 .f32 a b c d w
  have Hg := Lib.hid hg
  have Hh := Lib.hid hh
  have hA := fun w' => mulConj_any m0 w'
  have hB := fun w' => mulConj_any m1 w'
  have hC := fun w' => mulConj_any m2 w'
  clear hg hh m0 m1 m2
  go_enter Try.func220, Try.ntmps220
  go_wp2_with fail
  go_loopw [8, 24] (fun S I wr => ∃ (k : Nat) (K : Int) (r s : Nat), K = k ∧ k ≤ 3 ∧ S = .complex .f32 r s ∧ I = .int .i64 K ∧ Hid (vl .f32 r = dotS p k ∧ vl .f32 s = dotS q k ∧ r < 2 ^ 32 ∧ s < 2 ^ 32 ∧ Below w.heap.size w wr)) (fun _ I _ => 3 - (intOf I).toNat)
  case atStart => exact ⟨0, 0, 0, 0, rfl, by omega, rfl, rfl, Lib.hid ⟨by show vl .f32 0 = some 0; decide, by show vl .f32 0 = some 0; decide, by decide, by decide, Below.refl _ _⟩⟩
  case round =>
    obtain ⟨k, K, r, s, hK, hk, rfl, rfl, Hw⟩ := hrel
    obtain rfl | rfl | rfl | rfl : k = 0 ∨ k = 1 ∨ k = 2 ∨ k = 3 := by omega
    · obtain rfl : K = 0 := by omega
      clear hK hk
      have c0 := (Hg.out.below Hw.out.2.2.2.2 Hg.out.1).2.1
      have d0 := (Hh.out.below Hw.out.2.2.2.2 Hh.out.1).2.1
      have F1 := Lib.hid (fun w' => vl_fov .add .f32 r (p 0) w')
      have F2 := Lib.hid (fun w' => vl_fov .add .f32 s (q 0) w')
      go_wp2_with fail
      refine (hA _).mono ?_
      rintro e w1 ⟨rfl, hb⟩
      have H1 := Lib.hid (Hw.out.2.2.2.2.trans (hb.mono Hw.out.2.2.2.2.size))
      clear hb hA hB hC c0 d0
      go_wp2_with fail
      go_roundw
      case rel => exact ⟨1, 1, _, _, rfl, by omega, rfl, rfl, Lib.hid ⟨by rw [F1.out, Hw.out.1]; rfl, by rw [F2.out, Hw.out.2.1]; rfl, fov_lt _ _ _ _ _, fov_lt _ _ _ _ _, H1.out.trans ((Grown.drawn w1 _).2.mono H1.out.size)⟩⟩
      case measure => simp [intOf]
    · obtain rfl : K = 1 := by omega
      clear hK hk
      have c1 := (Hg.out.below Hw.out.2.2.2.2 Hg.out.1).2.2.1
      have d1 := (Hh.out.below Hw.out.2.2.2.2 Hh.out.1).2.2.1
      have F1 := Lib.hid (fun w' => vl_fov .add .f32 r (p 1) w')
      have F2 := Lib.hid (fun w' => vl_fov .add .f32 s (q 1) w')
      go_wp2_with fail
      refine (hB _).mono ?_
      rintro e w1 ⟨rfl, hb⟩
      have H1 := Lib.hid (Hw.out.2.2.2.2.trans (hb.mono Hw.out.2.2.2.2.size))
      clear hb hA hB hC c1 d1
      go_wp2_with fail
      go_roundw
      case rel => exact ⟨2, 2, _, _, rfl, by omega, rfl, rfl, Lib.hid ⟨by rw [F1.out, Hw.out.1]; rfl, by rw [F2.out, Hw.out.2.1]; rfl, fov_lt _ _ _ _ _, fov_lt _ _ _ _ _, H1.out.trans ((Grown.drawn w1 _).2.mono H1.out.size)⟩⟩
      case measure => simp [intOf]
    · obtain rfl : K = 2 := by omega
      clear hK hk
      have c2 := (Hg.out.below Hw.out.2.2.2.2 Hg.out.1).2.2.2
      have d2 := (Hh.out.below Hw.out.2.2.2.2 Hh.out.1).2.2.2
      have F1 := Lib.hid (fun w' => vl_fov .add .f32 r (p 2) w')
      have F2 := Lib.hid (fun w' => vl_fov .add .f32 s (q 2) w')
      go_wp2_with fail
      refine (hC _).mono ?_
      rintro e w1 ⟨rfl, hb⟩
      have H1 := Lib.hid (Hw.out.2.2.2.2.trans (hb.mono Hw.out.2.2.2.2.size))
      clear hb hA hB hC c2 d2
      go_wp2_with fail
      go_roundw
      case rel => exact ⟨3, 3, _, _, rfl, by omega, rfl, rfl, Lib.hid ⟨by rw [F1.out, Hw.out.1]; rfl, by rw [F2.out, Hw.out.2.1]; rfl, fov_lt _ _ _ _ _, fov_lt _ _ _ _ _, H1.out.trans ((Grown.drawn w1 _).2.mono H1.out.size)⟩⟩
      case measure => simp [intOf]
    · obtain rfl : K = 3 := by omega
      clear hK hk
      go_wp2_with fail
      go_ret2
      exact ⟨_, _, rfl, Hw.out.1, Hw.out.2.1, Hw.out.2.2.1, Hw.out.2.2.2.1, Hw.out.2.2.2.2⟩
theorem dotJ_any (w : World) (g h : Nat) (x y p q : Nat → Nat) (hg : C3 w g x) (hh : C3 w h y)
    (m0 : MulV (x 0) (Op.negFloat .f32 (x 1)) (y 0) (y 1) (p 0) (q 0)) (m1 : MulV (x 2) (Op.negFloat .f32 (x 3)) (y 2) (y 3) (p 1) (q 1)) (m2 : MulV (x 4) (Op.negFloat .f32 (x 5)) (y 4) (y 5) (p 2) (q 2)) {P R : Nat} (hP : dotS p 3 = some P) (hR : dotS q 3 = some R) :
    Calls Try.prog 190 #[.slice (some ⟨g, 0, none⟩) 3 3, .slice (some ⟨h, 0, none⟩) 3 3] w (RB (.tuple #[.complex .f32 P R, .bool true]) w) := by
  have hD := Lib.hid (dotC_any w g h x y p q hg hh m0 m1 m2)
  clear hg hh m0 m1 m2
  go_enter Try.func190, Try.ntmps190
  go_wp2_with fail
  refine hD.out.mono ?_
  rintro e w1 ⟨r, s, rfl, hr, hs, lr, ls, hb⟩
  rw [hP] at hr
  rw [hR] at hs
  obtain rfl := vl_some hr
  obtain rfl := vl_some hs
  have HH := Lib.hid hb
  clear hr hs lr ls hb hD hP hR
  go_wp2_with fail
  go_ret2
  exact ⟨rfl, HH.out⟩
/-- What the two boxes of PowerBetween hold. -/
def PowS (w W : World) (v x : Nat → Nat) : Prop := W.cell? ⟨w.heap.size, 0, none⟩ = some (.complex .f32 (v 0) (v 1)) ∧ W.cell? ⟨w.heap.size, 1, none⟩ = some (.complex .f32 (v 2) (v 3)) ∧ W.cell? ⟨w.heap.size, 2, none⟩ = some (.complex .f32 (v 4) (v 5)) ∧
  W.cell? ⟨w.heap.size + 1, 0, none⟩ = some (.complex .f32 (x 0) (x 1)) ∧ W.cell? ⟨w.heap.size + 1, 1, none⟩ = some (.complex .f32 (x 2) (x 3)) ∧ W.cell? ⟨w.heap.size + 1, 2, none⟩ = some (.complex .f32 (x 4) (x 5))
theorem PowS.call {w W W' : World} {v x : Nat → Nat} (h : PowS w W v x) (hb : Below W.heap.size W W') : PowS w W' v x := by
  have k := fun (p : Addr) (c : Value) (e : W.cell? p = some c) => (hb.cell (World.block_lt_of_cell? W p e)).trans e
  exact ⟨k _ _ h.1, k _ _ h.2.1, k _ _ h.2.2.1, k _ _ h.2.2.2.1, k _ _ h.2.2.2.2.1, k _ _ h.2.2.2.2.2⟩
theorem PowS.alloc {w W : World} {v x : Nat → Nat} (h : PowS w W v x) (o : Obj) : PowS w (W.alloc o) v x := h.call (bel_alloc W o)
theorem PowS.set {w W : World} {v x : Nat → Nat} (h : PowS w W v x) (a : Addr) (ha : w.heap.size + 1 < a.block) (u : Value) : PowS w (W.setCell a u) v x := by
  have k := fun (i o : Nat) (c : Value) (hi : i ≤ w.heap.size + 1) (e : W.cell? ⟨i, o, none⟩ = some c) => (World.cell?_of_block (w := W) (w' := W.setCell a u) (a := ⟨i, o, none⟩) (Below.heap_setCell W a u i (by omega))).trans e
  exact ⟨k _ _ _ (by omega) h.1, k _ _ _ (by omega) h.2.1, k _ _ _ (by omega) h.2.2.1, k _ _ _ (by omega) h.2.2.2.1, k _ _ _ (by omega) h.2.2.2.2.1, k _ _ _ (by omega) h.2.2.2.2.2⟩
def PowH (w W : World) (v x : Nat → Nat) (b4 b5 b6 b7 : Bool) (g h : Nat) : Prop := PowS w W v x ∧ Below w.heap.size w W ∧ w.heap.size + 1 < W.heap.size ∧
    (b4 = true → w.heap.size + 1 < g ∧ RL W g 175 (if b6 = true then [.complex .f32 (v 0) (v 1), .complex .f32 (v 2) (v 3), .complex .f32 (v 4) (v 5)] else [.complex .f32 0 0, .complex .f32 0 0, .complex .f32 0 0])) ∧
    (b5 = true → w.heap.size + 1 < h ∧ RL W h 175 (if b7 = true then [.complex .f32 (x 0) (x 1), .complex .f32 (x 2) (x 3), .complex .f32 (x 4) (x 5)] else [.complex .f32 0 0, .complex .f32 0 0, .complex .f32 0 0])) ∧ (b4 = true → b5 = true → g ≠ h) ∧ (b4 = false → b6 = false) ∧ (b5 = false → b7 = false)
theorem PowH.call {w W W' : World} {v x : Nat → Nat} {b4 b5 b6 b7 : Bool} {g h : Nat} (H : PowH w W v x b4 b5 b6 b7 g h) (hb : Below W.heap.size W W') : PowH w W' v x b4 b5 b6 b7 g h := by
  obtain ⟨h1, h2, h3, h4, h5, h6⟩ := H
  refine ⟨h1.call hb, h2.trans (hb.mono h2.size), Nat.lt_of_lt_of_le h3 hb.size, fun e => ⟨(h4 e).1, (h4 e).2.below hb (h4 e).2.lt⟩, fun e => ⟨(h5 e).1, (h5 e).2.below hb (h5 e).2.lt⟩, h6⟩
/-- A slot that is set if an operation has come up. -/
def sl (b : Bool) (v : Value) : Value := match b with | true => v | false => undef
theorem sl_true (v : Value) : sl true v = v := rfl
/-- What holds while the region of PowerBetween goes on: which operations have come up, and what they have left. -/
def PowI (w : World) (v x : Nat → Nat) (s : Array Bool) (a : Act) (W : World) : Prop := ∃ (b0 b1 b2 b3 b4 b5 b6 b7 : Bool) (g h : Nat), s = #[b0, b1, b2, b3, b4, b5, b6, b7] ∧
  a = { tmps := #[.agg #[.complex .f32 (v 0) (v 1), .complex .f32 (v 2) (v 3), .complex .f32 (v 4) (v 5)], .agg #[.complex .f32 (x 0) (x 1), .complex .f32 (x 2) (x 3), .complex .f32 (x 4) (x 5)], .pointer (some ⟨w.heap.size, 0, none⟩), .pointer (some ⟨w.heap.size + 1, 0, none⟩), .complex .f32 0 0,
      sl b4 (.pointer (some ⟨g, 0, none⟩)), sl b5 (.pointer (some ⟨h, 0, none⟩)), undef, undef,
      sl b0 (.agg #[.complex .f32 (v 0) (v 1), .complex .f32 (v 2) (v 3), .complex .f32 (v 4) (v 5)]), sl b1 (.agg #[.complex .f32 (v 0) (v 1), .complex .f32 (v 2) (v 3), .complex .f32 (v 4) (v 5)]),
      sl b2 (.agg #[.complex .f32 (x 0) (x 1), .complex .f32 (x 2) (x 3), .complex .f32 (x 4) (x 5)]), sl b3 (.agg #[.complex .f32 (x 0) (x 1), .complex .f32 (x 2) (x 3), .complex .f32 (x 4) (x 5)]),
      undef, undef, undef, undef, undef, undef, undef], defers := [] } ∧
  Hid (PowH w W v x b4 b5 b6 b7 g h)
set_option maxHeartbeats 16000000 in
theorem power_any (v x p q : Nat → Nat) (m0 : MulV (x 0) (Op.negFloat .f32 (x 1)) (v 0) (v 1) (p 0) (q 0)) (m1 : MulV (x 2) (Op.negFloat .f32 (x 3)) (v 2) (v 3) (p 1) (q 1)) (m2 : MulV (x 4) (Op.negFloat .f32 (x 5)) (v 4) (v 5) (p 2) (q 2)) {P R : Nat} (hP : dotS p 3 = some P) (hR : dotS q 3 = some R) (w : World) :
    Calls Try.prog 130 #[PV v, PV x] w (RB (.complex .f32 P R) w) := by
  have hD := Lib.hid (fun w g h hg hh => dotJ_any w g h x v p q hg hh m0 m1 m2 hP hR)
  have hV := fun w' => three_any v w'
  have hX := fun w' => three_any x w'
  clear m0 m1 m2 hP hR
  have hst := fun (a : Addr) (x y : Nat) (m : Mode) (w : World) => run_store Try.prog w a (.complex .f32 x y) m rfl
  have T := box2 w [.complex .f32 (v 0) (v 1), .complex .f32 (v 2) (v 3), .complex .f32 (v 4) (v 5)] [.complex .f32 (x 0) (x 1), .complex .f32 (x 2) (x 3), .complex .f32 (x 4) (x 5)] 37 37
  unfold PV at *
  go_enter Try.func130, Try.ntmps130
  go_wp2_with fail
  generalize hW2 : ((w.alloc (.cells #[.complex .f32 (v 0) (v 1), .complex .f32 (v 2) (v 3), .complex .f32 (v 4) (v 5)] 37)).alloc (.cells #[.complex .f32 (x 0) (x 1), .complex .f32 (x 2) (x 3), .complex .f32 (x 4) (x 5)] 37)) = W2 at *
  clear hW2
  obtain ⟨T1, T2, TB⟩ := T
  have hS : PowS w W2 v x := ⟨T1.cell 0 (by simp), T1.cell 1 (by simp), T1.cell 2 (by simp), T2.cell 0 (by simp), T2.cell 1 (by simp), T2.cell 2 (by simp)⟩
  have HS : Hid (PowS w W2 v x) := Lib.hid hS
  have HB := Lib.hid TB
  have hT := T2.lt
  clear T1 T2 TB hS
  go_cut [5, 6] from 9 to 12 (fun s5 s6 wx => ∃ g h : Nat, s5 = .pointer (some ⟨g, 0, none⟩) ∧ s6 = .pointer (some ⟨h, 0, none⟩) ∧ Hid (C3 wx g v ∧ C3 wx h x ∧ Below w.heap.size w wx))
  case first =>
    refine wp_region_inv (I := PowI w v x) (by kernel_rfl) ?_ ?_ ?_
    · exact ⟨false, false, false, false, false, false, false, false, 0, 0, rfl, rfl, Lib.hid ⟨HS.out, HB.out.trans ((Grown.drawn W2 1).2.mono HB.out.size), hT, ⟨(fun e => Bool.noConfusion e), (fun e => Bool.noConfusion e), (fun e => Bool.noConfusion e), (fun _ => rfl), (fun _ => rfl)⟩⟩⟩
    · intro s a w' i o ho hi hI
      obtain ⟨b0, b1, b2, b3, b4, b5, b6, b7, g, h, rfl, rfl, H⟩ := hI
      obtain ⟨hi0, o', ho', hw⟩ := mem_ready.1 hi
      have hi8 : i < 8 := (Array.getElem?_eq_some_iff.1 ho).1
      obtain rfl := Option.some.inj (ho.symm.trans ho')
      clear ho' hi HS HB hT
      obtain rfl | rfl | rfl | rfl | rfl | rfl | rfl | rfl : i = 0 ∨ i = 1 ∨ i = 2 ∨ i = 3 ∨ i = 4 ∨ i = 5 ∨ i = 6 ∨ i = 7 := by omega
      all_goals (obtain rfl := Option.some.inj ho; clear ho)
      all_goals simp [Region.binds] at hw hi0
      · subst hi0
        obtain ⟨c0, c1, c2, _⟩ := H.out.1
        go_wp2_with fail
        exact ⟨true, b1, b2, b3, b4, b5, b6, b7, g, h, rfl, rfl, H⟩
      · subst hi0 hw
        simp only [sl_true]
        go_wp2_with fail
        refine (hV _).mono ?_
        rintro e w3 ⟨rfl, hb⟩
        have H2 := Lib.hid (H.out.call hb)
        clear hb
        go_wp2_with fail
        exact ⟨true, true, b2, b3, b4, b5, b6, b7, g, h, rfl, rfl, H2⟩
      · subst hi0
        obtain ⟨_, _, _, c0, c1, c2⟩ := H.out.1
        go_wp2_with fail
        exact ⟨b0, b1, true, b3, b4, b5, b6, b7, g, h, rfl, rfl, H⟩
      · obtain ⟨rfl, rfl⟩ := hw
        subst hi0
        simp only [sl_true]
        go_wp2_with fail
        refine (hX _).mono ?_
        rintro e w3 ⟨rfl, hb⟩
        have H2 := Lib.hid (H.out.call hb)
        clear hb
        go_wp2_with fail
        exact ⟨b0, true, true, true, b4, b5, b6, b7, g, h, rfl, rfl, H2⟩
      · subst hi0
        obtain ⟨h1, h2, h3, h4, h5, h6, h7, h8⟩ := H.out
        have g1 := h1.alloc (.cells #[.complex .f32 0 0, .complex .f32 0 0, .complex .f32 0 0] 175)
        have g2 := h2.alloc h2.size (.cells #[.complex .f32 0 0, .complex .f32 0 0, .complex .f32 0 0] 175)
        have G := Lib.hid (And.intro g1 g2)
        have HH := Lib.hid (And.intro h4 (And.intro h5 (And.intro h7 h8)))
        clear g1 g2 h1 h2 h4 h5 h6 h7 h8
        go_wp2_with fail
        obtain ⟨h4, h5, h7, h8⟩ := HH.out
        exact ⟨b0, b1, b2, b3, true, b5, b6, b7, w'.heap.size, h, rfl, rfl, Lib.hid ⟨G.out.1, G.out.2, by simp; omega, fun _ => ⟨h3, by rw [h7 (by first | rfl | trivial)]; exact RL.new w' _ _⟩, fun e => ⟨(h5 e).1, (h5 e).2.allocd _⟩, fun _ e => by have := (h5 e).2.lt; omega, fun e => Bool.noConfusion e, h8⟩⟩
      · subst hi0
        obtain ⟨h1, h2, h3, h4, h5, h6, h7, h8⟩ := H.out
        have g1 := h1.alloc (.cells #[.complex .f32 0 0, .complex .f32 0 0, .complex .f32 0 0] 175)
        have g2 := h2.alloc h2.size (.cells #[.complex .f32 0 0, .complex .f32 0 0, .complex .f32 0 0] 175)
        have G := Lib.hid (And.intro g1 g2)
        have HH := Lib.hid (And.intro h4 (And.intro h5 (And.intro h7 h8)))
        clear g1 g2 h1 h2 h4 h5 h6 h7 h8
        go_wp2_with fail
        obtain ⟨h4, h5, h7, h8⟩ := HH.out
        exact ⟨b0, b1, b2, b3, b4, true, b6, b7, g, w'.heap.size, rfl, rfl, Lib.hid ⟨G.out.1, G.out.2, by simp; omega, fun e => ⟨(h4 e).1, (h4 e).2.allocd _⟩, fun _ => ⟨h3, by rw [h8 (by first | rfl | trivial)]; exact RL.new w' _ _⟩, fun e _ => by have := (h4 e).2.lt; omega, h7, fun e => Bool.noConfusion e⟩⟩
      · obtain ⟨rfl, rfl, rfl, rfl, _, _, _, rfl⟩ := hw
        subst hi0
        simp only [sl_true]
        obtain ⟨h1, h2, h3, h4, h5, h6, h7, h8⟩ := H.out
        have R := (h4 rfl).2
        have hgt := (h4 rfl).1
        have hne : g ≠ h := h6 rfl rfl
        have k0 := R.cell 0 (by simp)
        have k1 := R.cell 1 (by simp)
        have k2 := R.cell 2 (by simp)
        have z0 := R.frozen 0
        have z1 := R.frozen 1
        have z2 := R.frozen 2
        simp at k0 k1 k2
        have R2 := ((R.set 0 (.complex .f32 (v 0) (v 1))).set 1 (.complex .f32 (v 2) (v 3))).set 2 (.complex .f32 (v 4) (v 5))
        have O := (((h5 rfl).2.other (Ne.symm hne) 0 (.complex .f32 (v 0) (v 1))).other (Ne.symm hne) 1 (.complex .f32 (v 2) (v 3))).other (Ne.symm hne) 2 (.complex .f32 (v 4) (v 5))
        have P1 := ((h1.set ⟨g, 0, none⟩ hgt (.complex .f32 (v 0) (v 1))).set ⟨g, 1, none⟩ hgt (.complex .f32 (v 2) (v 3))).set ⟨g, 2, none⟩ hgt (.complex .f32 (v 4) (v 5))
        have P2 := ((h2.setCell (p := ⟨g, 0, none⟩) (show w.heap.size ≤ g by omega) (.complex .f32 (v 0) (v 1))).setCell (p := ⟨g, 1, none⟩) (show w.heap.size ≤ g by omega) (.complex .f32 (v 2) (v 3))).setCell (p := ⟨g, 2, none⟩) (show w.heap.size ≤ g by omega) (.complex .f32 (v 4) (v 5))
        have G := Lib.hid (And.intro P1 (And.intro P2 (And.intro R2 (And.intro hgt (And.intro (And.intro (h5 rfl).1 O) hne)))))
        clear P1 P2 R2 O R h1 h2 h4 h5 h6 h7 h8
        go_wp2_with fail
        exact ⟨true, true, b2, true, true, true, true, b7, g, h, rfl, rfl, Lib.hid ⟨G.out.1, G.out.2.1, by simp; omega, fun _ => ⟨G.out.2.2.2.1, G.out.2.2.1⟩, fun _ => G.out.2.2.2.2.1, fun _ _ => G.out.2.2.2.2.2, fun e => Bool.noConfusion e, fun e => Bool.noConfusion e⟩⟩
      · obtain ⟨rfl, rfl, rfl, rfl, rfl, rfl, _, rfl, _, _⟩ := hw
        subst hi0
        simp only [sl_true]
        obtain ⟨h1, h2, h3, h4, h5, h6, h7, h8⟩ := H.out
        have R := (h5 rfl).2
        have hgt := (h5 rfl).1
        have hne : h ≠ g := Ne.symm (h6 rfl rfl)
        have k0 := R.cell 0 (by simp)
        have k1 := R.cell 1 (by simp)
        have k2 := R.cell 2 (by simp)
        have z0 := R.frozen 0
        have z1 := R.frozen 1
        have z2 := R.frozen 2
        simp at k0 k1 k2
        have R2 := ((R.set 0 (.complex .f32 (x 0) (x 1))).set 1 (.complex .f32 (x 2) (x 3))).set 2 (.complex .f32 (x 4) (x 5))
        have O := (((h4 rfl).2.other (Ne.symm hne) 0 (.complex .f32 (x 0) (x 1))).other (Ne.symm hne) 1 (.complex .f32 (x 2) (x 3))).other (Ne.symm hne) 2 (.complex .f32 (x 4) (x 5))
        have P1 := ((h1.set ⟨h, 0, none⟩ hgt (.complex .f32 (x 0) (x 1))).set ⟨h, 1, none⟩ hgt (.complex .f32 (x 2) (x 3))).set ⟨h, 2, none⟩ hgt (.complex .f32 (x 4) (x 5))
        have P2 := ((h2.setCell (p := ⟨h, 0, none⟩) (show w.heap.size ≤ h by omega) (.complex .f32 (x 0) (x 1))).setCell (p := ⟨h, 1, none⟩) (show w.heap.size ≤ h by omega) (.complex .f32 (x 2) (x 3))).setCell (p := ⟨h, 2, none⟩) (show w.heap.size ≤ h by omega) (.complex .f32 (x 4) (x 5))
        have G := Lib.hid (And.intro P1 (And.intro P2 (And.intro R2 (And.intro hgt (And.intro (And.intro (h4 rfl).1 O) hne)))))
        clear P1 P2 R2 O R h1 h2 h4 h5 h6 h7 h8
        go_wp2_with fail
        exact ⟨true, true, true, true, true, true, true, true, g, h, rfl, rfl, Lib.hid ⟨G.out.1, G.out.2.1, by simp; omega, fun _ => G.out.2.2.2.2.1, fun _ => ⟨G.out.2.2.2.1, G.out.2.2.1⟩, fun _ _ => Ne.symm G.out.2.2.2.2.2, fun e => Bool.noConfusion e, fun e => Bool.noConfusion e⟩⟩
    · intro s a w' hI hr
      obtain ⟨b0, b1, b2, b3, b4, b5, b6, b7, g, h, rfl, rfl, H⟩ := hI
      have t0 : b0 = true := by
        cases b0 with
        | true => rfl
        | false => exact (List.eq_nil_iff_forall_not_mem.1 hr 0 (mem_ready.2 ⟨rfl, _, rfl, by simp [Region.binds]⟩)).elim
      subst t0
      have t2 : b2 = true := by
        cases b2 with
        | true => rfl
        | false => exact (List.eq_nil_iff_forall_not_mem.1 hr 2 (mem_ready.2 ⟨rfl, _, rfl, by simp [Region.binds]⟩)).elim
      subst t2
      have t4 : b4 = true := by
        cases b4 with
        | true => rfl
        | false => exact (List.eq_nil_iff_forall_not_mem.1 hr 4 (mem_ready.2 ⟨rfl, _, rfl, by simp [Region.binds]⟩)).elim
      subst t4
      have t5 : b5 = true := by
        cases b5 with
        | true => rfl
        | false => exact (List.eq_nil_iff_forall_not_mem.1 hr 5 (mem_ready.2 ⟨rfl, _, rfl, by simp [Region.binds]⟩)).elim
      subst t5
      have t1 : b1 = true := by
        cases b1 with
        | true => rfl
        | false => exact (List.eq_nil_iff_forall_not_mem.1 hr 1 (mem_ready.2 ⟨rfl, _, rfl, by simp [Region.binds]⟩)).elim
      subst t1
      have t3 : b3 = true := by
        cases b3 with
        | true => rfl
        | false => exact (List.eq_nil_iff_forall_not_mem.1 hr 3 (mem_ready.2 ⟨rfl, _, rfl, by simp [Region.binds]⟩)).elim
      subst t3
      have t6 : b6 = true := by
        cases b6 with
        | true => rfl
        | false => exact (List.eq_nil_iff_forall_not_mem.1 hr 6 (mem_ready.2 ⟨rfl, _, rfl, by simp [Region.binds]⟩)).elim
      subst t6
      have t7 : b7 = true := by
        cases b7 with
        | true => rfl
        | false => exact (List.eq_nil_iff_forall_not_mem.1 hr 7 (mem_ready.2 ⟨rfl, _, rfl, by simp [Region.binds]⟩)).elim
      subst t7
      obtain ⟨h1, h2, h3, h4, h5, h6, h7, h8⟩ := H.out
      have A := (h4 rfl).2
      have B := (h5 rfl).2
      rw [if_pos rfl] at A B
      have CA : C3 w' g v := ⟨A.lt, A.cell 0 (by simp), A.cell 1 (by simp), A.cell 2 (by simp)⟩
      have CB : C3 w' h x := ⟨B.lt, B.cell 0 (by simp), B.cell 1 (by simp), B.cell 2 (by simp)⟩
      have HC := Lib.hid (And.intro CA (And.intro CB h2))
      clear h1 h2 h3 h4 h5 h6 h7 h8 A B CA CB H hr
      simp only [sl_true]
      go_wp2_with fail
      go_meet
      exact ⟨g, h, rfl, rfl, HC⟩
  case rest =>
    obtain ⟨g, h, rfl, rfl, HC⟩ := hcut
    clear HS HB hT hV hX hst
    have hC := fun (y : Grown _) => hD.out y.1 _ _ (HC.out.2.1.below y.2 HC.out.2.1.1) (HC.out.1.below y.2 HC.out.1.1)
    have HB := Lib.hid HC.out.2.2
    clear HC hD
    go_wp2_with fail
    refine wp_grown (by kernel_rfl) (by kernel_rfl) ?_
    repeat (go_big_quiet_step (exact Grown.calls _ (hC _)))
    refine wpQuiet_nil ?_
    rintro _ ⟨z, rfl⟩
    have H7 := Lib.hid (HB.out.trans (z.2.mono HB.out.size))
    generalize z.1 = w7 at *
    clear hC HB
    go_wp2_with fail
    go_ret
    exact ⟨rfl, H7.out⟩
end Go.Proofs.Ytljclagfplildaa
