/-
  How much later a curve is, in the program and in the reference. No theorem of a claim stands here.
-/
import Derived.Test.YthkjikennlaelaaCurW
set_option linter.unusedVariables false
set_option linter.unusedSimpArgs false
set_option maxRecDepth 8000
namespace Go.Proofs.Ythkjikennlaelaa
open Go Go.RowKit Go.Deep Go.Proofs.Ythkjikennlaelaa.Fl

/-- A curve as it lies in memory, and its numbers. -/
structure CK where
  a : Option Addr
  n : Nat
  c : Nat
  C : List Nat
  b : Option Addr
  m : Nat
  e : Nat
  T : List Nat
def CK.val (K : CK) : Value := .agg #[.slice K.a K.n K.c, .slice K.b K.m K.e]
def CK.rd (K : CK) (w : World) : Prop := FRd w K.a K.n K.c K.C ∧ FRd w K.b K.m K.e K.T
theorem CK.rd.stays {K : CK} {w w' : World} (h : K.rd w) (hb : Below w.heap.size w w') : K.rd w' := ⟨h.1.stays hb (Nat.le_refl _), h.2.stays hb (Nat.le_refl _)⟩
/-- The boxes of two curves. -/
structure C2 (w wr : World) (K L : CK) : Prop where
  one : RL wr w.heap.size 26 [.slice K.a K.n K.c, .slice K.b K.m K.e]
  two : RL wr (w.heap.size + 1) 26 [.slice L.a L.n L.c, .slice L.b L.m L.e]
  below : Below w.heap.size w wr
theorem C2.call {w wr w' : World} {K L : CK} (s : C2 w wr K L) (hb : Below wr.heap.size wr w') : C2 w w' K L := ⟨s.one.below hb s.one.lt, s.two.below hb s.two.lt, s.below.trans (hb.mono s.below.size)⟩
theorem C2.new (w : World) (K L : CK) : C2 w ((w.alloc (.cells #[.slice K.a K.n K.c, .slice K.b K.m K.e] 26)).alloc (.cells #[.slice L.a L.n L.c, .slice L.b L.m L.e] 26)) K L := by
  have h := bx2 w [.slice K.a K.n K.c, .slice K.b K.m K.e] [.slice L.a L.n L.c, .slice L.b L.m L.e] 26 26
  exact ⟨h.1, h.2.1, h.2.2⟩
theorem C2.cells {w wr : World} {K L : CK} (s : C2 w wr K L) : (wr.cell? ⟨w.heap.size, 0, none⟩ = some (.slice K.a K.n K.c) ∧ wr.cell? ⟨w.heap.size, 1, none⟩ = some (.slice K.b K.m K.e)) ∧ wr.cell? ⟨w.heap.size + 1, 0, none⟩ = some (.slice L.a L.n L.c) ∧ wr.cell? ⟨w.heap.size + 1, 1, none⟩ = some (.slice L.b L.m L.e) :=
  ⟨⟨s.one.cell 0 (by simp), s.one.cell 1 (by simp)⟩, s.two.cell 0 (by simp), s.two.cell 1 (by simp)⟩
def margF (p q : Option (Option Nat)) : Option (Option Nat) := p.bind fun s => q.map fun t => fop .sub .f32 t s
def marginR (K L : CK) (x : Nat) : Option (Option Nat) := margF (timeR K.C K.T x) (timeR L.C L.T x)
def MarginP (K L : CK) (x : Nat) (w : World) (en : Ending) (w' : World) : Prop := ∃ r, en = .returned (.tuple #[.float .f32 r, .bool (marginR K L x).isSome]) ∧ r < 2 ^ 32 ∧ vl .f32 r = (marginR K L x).getD (some 0) ∧ Below w.heap.size w w'
set_option maxHeartbeats 4000000 in
theorem implMargin_any (K L : CK) (x : Nat) (w : World) (hK : K.rd w) (hL : L.rd w) :
    Calls Try.prog 19 #[K.val, L.val, .float .f32 x] w (MarginP K L x w) := by
  have hsub := fun x y w => run_fov (P := Try.prog) .sub rfl 28 .f32 x y w
  have S0 := Lib.hid (C2.new w K L)
  have hA := fun (w' : World) (hB : Below w.heap.size w w') => implTime_any K.a K.n K.c K.C K.b K.m K.e K.T x w' (hK.stays hB).1 (hK.stays hB).2
  have hB := fun (w' : World) (hB : Below w.heap.size w w') => implTime_any L.a L.n L.c L.C L.b L.m L.e L.T x w' (hL.stays hB).1 (hL.stays hB).2
  unfold CV TimeP at hA hB
  unfold CK.val MarginP
  have HA := Lib.hid hA
  have HB := Lib.hid hB
  clear hA hB hK hL
  have Hm := Lib.hid (show marginR K L x = margF (timeR K.C K.T x) (timeR L.C L.T x) from rfl)
  generalize timeR K.C K.T x = p at *
  generalize timeR L.C L.T x = q at *
  generalize marginR K L x = mm at *
  go_enter Try.func19, Try.ntmps19
  go_upto_region 1 with fail
  generalize ((w.alloc (.cells #[.slice K.a K.n K.c, .slice K.b K.m K.e] 26)).alloc (.cells #[.slice L.a L.n L.c, .slice L.b L.m L.e] 26)) = W at *
  obtain ⟨⟨c0, c1⟩, d0, d1⟩ := S0.out.cells
  go_wp2_with fail
  refine (HA.out _ S0.out.below).mono ?_
  rintro en w1 ⟨r1, rfl, hr1, hv1, hb1⟩
  have S1 := Lib.hid (S0.out.call hb1)
  have Hv1 := Lib.hid hv1
  clear hb1 hv1 S0 c0 c1 d0 d1 HA
  obtain ⟨⟨c0, c1⟩, d0, d1⟩ := S1.out.cells
  go_wp2_with fail
  refine (HB.out _ S1.out.below).mono ?_
  rintro en w2 ⟨r2, rfl, hr2, hv2, hb2⟩
  have S2 := Lib.hid (S1.out.call hb2)
  have Hv2 := Lib.hid hv2
  clear hb2 hv2 S1 c0 c1 d0 d1 HB
  cases p with
  | none =>
    have He := Lib.hid (show mm = none by rw [Hm.out]; rfl)
    have h1 : (none : Option (Option Nat)).isSome = false := rfl
    go_wp2_with fail
    go_ret2
    exact ⟨0, by rw [He.out]; rfl, by decide, by rw [He.out]; exact vl_zero _, S2.out.below⟩
  | some s =>
    have h1 : (some s : Option (Option Nat)).isSome = true := rfl
    cases q with
    | none =>
      have h2 : (none : Option (Option Nat)).isSome = false := rfl
      have He := Lib.hid (show mm = none by rw [Hm.out]; rfl)
      go_wp2_with fail
      go_ret2
      exact ⟨0, by rw [He.out]; rfl, by decide, by rw [He.out]; exact vl_zero _, S2.out.below⟩
    | some t =>
      have h2 : (some t : Option (Option Nat)).isSome = true := rfl
      have He := Lib.hid (show mm = some (fop .sub .f32 t s) by rw [Hm.out]; rfl)
      go_wp2_with fail
      go_ret2
      exact ⟨_, by rw [He.out]; rfl, fov_lt _ _ _ _ _, by rw [He.out, vl_fov, Hv1.out, Hv2.out]; rfl, S2.out.below.trans ((below_drawn w2 _).mono S2.out.below.size)⟩
def MarginQ (K L : CK) (x : Nat) (w : World) (en : Ending) (w' : World) : Prop := ∃ r, en = .returned (.tuple #[.float .f32 r, .bool (margF (timeF K.C K.T x) (timeF L.C L.T x)).isSome]) ∧ r < 2 ^ 32 ∧ (∀ v, margF (timeF K.C K.T x) (timeF L.C L.T x) = some v → vl .f32 r = v) ∧ Below w.heap.size w w'
set_option maxHeartbeats 4000000 in
theorem l07Margin_any (K L : CK) (x : Nat) (w : World) (hK : K.rd w) (hL : L.rd w) (oK : OkC K.C K.T) (oL : OkC L.C L.T) (g h : Nat) (c0 : w.cell? ⟨g, 0, none⟩ = some (.slice K.a K.n K.c)) (c1 : w.cell? ⟨g, 1, none⟩ = some (.slice K.b K.m K.e)) (d0 : w.cell? ⟨h, 0, none⟩ = some (.slice L.a L.n L.c)) (d1 : w.cell? ⟨h, 1, none⟩ = some (.slice L.b L.m L.e)) :
    Calls Try.prog 63 #[.pointer (some ⟨g, 0, none⟩), .pointer (some ⟨h, 0, none⟩), .float .f32 x] w (MarginQ K L x w) := by
  have hsub := fun x y w => run_fov (P := Try.prog) .sub rfl 28 .f32 x y w
  have hA := l07Time_any K.a K.n K.c K.C K.b K.m K.e K.T x w hK.1 hK.2 oK g c0 c1
  have hB := fun (w' : World) (hB : Below w.heap.size w w') => l07Time_any L.a L.n L.c L.C L.b L.m L.e L.T x w' (hL.stays hB).1 (hL.stays hB).2 oL h ((hB.cell (p := ⟨h, 0, none⟩) (World.block_lt_of_cell? w _ d0)).trans d0) ((hB.cell (p := ⟨h, 1, none⟩) (World.block_lt_of_cell? w _ d1)).trans d1)
  unfold TimeQ at hA hB
  unfold MarginQ
  have HA := Lib.hid hA
  have HB := Lib.hid hB
  clear hA hB hK hL oK oL c0 c1 d0 d1
  generalize timeF K.C K.T x = p at *
  generalize timeF L.C L.T x = q at *
  go_enter Try.func63, Try.ntmps63
  go_wp2_with fail
  refine HA.out.mono ?_
  rintro en w1 ⟨r1, rfl, hr1, hv1, hb1⟩
  have B1 := Lib.hid hb1
  have Hv1 := Lib.hid hv1
  clear hb1 hv1 HA
  go_wp2_with fail
  refine (HB.out _ B1.out).mono ?_
  rintro en w2 ⟨r2, rfl, hr2, hv2, hb2⟩
  have B2 := Lib.hid (B1.out.trans (hb2.mono B1.out.size))
  have Hv2 := Lib.hid hv2
  clear hb2 hv2 HB B1
  cases p with
  | none =>
    have h1 : (none : Option (Option Nat)).isSome = false := rfl
    go_wp2_with fail
    go_ret2
    exact ⟨_, by rfl, fov_lt _ _ _ _ _, fun v hv => (by cases hv), B2.out.trans ((below_drawn w2 _).mono B2.out.size)⟩
  | some s =>
    have h1 : (some s : Option (Option Nat)).isSome = true := rfl
    cases q with
    | none =>
      have h2 : (none : Option (Option Nat)).isSome = false := rfl
      go_wp2_with fail
      go_ret2
      exact ⟨_, by rfl, fov_lt _ _ _ _ _, fun v hv => (by cases hv), B2.out.trans ((below_drawn w2 _).mono B2.out.size)⟩
    | some t =>
      have h2 : (some t : Option (Option Nat)).isSome = true := rfl
      go_wp2_with fail
      go_ret2
      exact ⟨_, by rfl, fov_lt _ _ _ _ _, fun v hv => (by cases hv; rw [vl_fov, Hv1.out, Hv2.out]; rfl), B2.out.trans ((below_drawn w2 _).mono B2.out.size)⟩
set_option maxHeartbeats 4000000 in
theorem specMargin_any (K L : CK) (x : Nat) (w : World) (hK : K.rd w) (hL : L.rd w) :
    Calls Try.prog 37 #[K.val, L.val, .float .f32 x] w (MarginP K L x w) := by
  have S0 := Lib.hid (C2.new w K L)
  have hA := fun (w' : World) (hB : Below w.heap.size w w') => l07Is_any K.a K.n K.c K.C K.b K.m K.e K.T w' (hK.stays hB).1 (hK.stays hB).2
  have hB := fun (w' : World) (hB : Below w.heap.size w w') => l07Is_any L.a L.n L.c L.C L.b L.m L.e L.T w' (hL.stays hB).1 (hL.stays hB).2
  have hM := fun (w' : World) (hB : Below w.heap.size w w') (oK : OkC K.C K.T) (oL : OkC L.C L.T) => l07Margin_any K L x w' (hK.stays hB) (hL.stays hB) oK oL
  unfold RB7 at hA hB
  unfold MarginQ at hM
  unfold CK.val MarginP
  have HA := Lib.hid hA
  have HB := Lib.hid hB
  have HM := Lib.hid hM
  clear hA hB hK hL hM
  go_enter Try.func37, Try.ntmps37
  go_upto_region 1 with fail
  generalize ((w.alloc (.cells #[.slice K.a K.n K.c, .slice K.b K.m K.e] 26)).alloc (.cells #[.slice L.a L.n L.c, .slice L.b L.m L.e] 26)) = W at *
  obtain ⟨⟨c0, c1⟩, d0, d1⟩ := S0.out.cells
  go_wp2_with fail
  refine (HA.out _ S0.out.below _ c0 c1).mono ?_
  rintro en w1 ⟨rfl, hb1⟩
  have S1 := Lib.hid (S0.out.call hb1)
  clear hb1 S0 c0 c1 d0 d1 HA
  obtain ⟨⟨c0, c1⟩, d0, d1⟩ := S1.out.cells
  cases ok1 : okC K.C K.T
  · have He := Lib.hid (show marginR K L x = none by unfold marginR timeR; rw [ok1]; rfl)
    clear ok1
    go_wp2_with fail
    go_ret2
    exact ⟨0, by rw [He.out]; rfl, by decide, by rw [He.out]; exact vl_zero _, S1.out.below⟩
  · have O1 := Lib.hid ok1
    go_wp2_with fail
    refine (HB.out _ S1.out.below _ d0 d1).mono ?_
    rintro en w2 ⟨rfl, hb2⟩
    have S2 := Lib.hid (S1.out.call hb2)
    clear hb2 S1 c0 c1 d0 d1 HB ok1
    obtain ⟨⟨c0, c1⟩, d0, d1⟩ := S2.out.cells
    cases ok2 : okC L.C L.T
    · have He := Lib.hid (show marginR K L x = none by unfold marginR timeR; rw [ok2, O1.out]; unfold margF; simp)
      clear ok2
      go_wp2_with fail
      go_ret2
      exact ⟨0, by rw [He.out]; rfl, by decide, by rw [He.out]; exact vl_zero _, S2.out.below⟩
    · have He := Lib.hid (show marginR K L x = margF (timeF K.C K.T x) (timeF L.C L.T x) by unfold marginR timeR; rw [ok2, O1.out]; rfl)
      have O2 := Lib.hid ok2
      clear ok2
      go_wp2_with fail
      refine (HM.out _ S2.out.below (okC_true O1.out) (okC_true O2.out) _ _ c0 c1 d0 d1).mono ?_
      rintro en w3 ⟨r, rfl, hr, hv, hb3⟩
      have S3 := Lib.hid (S2.out.call hb3)
      have Hv := Lib.hid hv
      clear hb3 hv S2 c0 c1 d0 d1 HM
      generalize margF (timeF K.C K.T x) (timeF L.C L.T x) = mm at *
      cases mm with
      | none =>
        have h1 : (none : Option (Option Nat)).isSome = false := rfl
        go_wp2_with fail
        go_ret2
        exact ⟨0, by rw [He.out]; rfl, by decide, by rw [He.out]; exact vl_zero _, S3.out.below⟩
      | some v =>
        have h1 : (some v : Option (Option Nat)).isSome = true := rfl
        go_wp2_with fail
        go_ret2
        exact ⟨r, by rw [He.out]; rfl, hr, by rw [He.out, Hv.out v rfl]; rfl, S3.out.below⟩
end Go.Proofs.Ythkjikennlaelaa
