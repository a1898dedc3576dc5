/-
  The time of a curve at a current, in the program. No theorem of a claim stands here.
-/
import Derived.Test.YthkjikennlaelaaCurU
set_option linter.unusedVariables false
set_option linter.unusedSimpArgs false
set_option maxRecDepth 8000
namespace Go.Proofs.Ythkjikennlaelaa
open Go Go.RowKit Go.Deep Go.Proofs.Ythkjikennlaelaa.Fl

def timeR (C T : List Nat) (x : Nat) : Option (Option Nat) := if okC C T then timeF C T x else none
/-- What TimeAt hands back. -/
def TimeP (C T : List Nat) (x : Nat) (w : World) (en : Ending) (w' : World) : Prop := ∃ r, en = .returned (.tuple #[.float .f32 r, .bool (timeR C T x).isSome]) ∧ r < 2 ^ 32 ∧ vl .f32 r = (timeR C T x).getD (some 0) ∧ Below w.heap.size w w'
theorem assertFF (x y z t : Nat) (w : World) : (Instr.typeAssert (.iface 74 (.agg #[.float .f32 x, .float .f32 y, .float .f32 z, .float .f32 t])) 69 74 true).run Try.prog w = .ok (.tuple #[.agg #[.float .f32 x, .float .f32 y, .float .f32 z, .float .f32 t], .bool true]) w := by
  simp [Instr.typeAssert, run_underlying Try.underlying74]
theorem assertLL (x y : Nat) (w : World) : (Instr.typeAssert (.iface 77 (.agg #[.float .f32 x, .float .f32 y])) 69 77 true).run Try.prog w = .ok (.tuple #[.agg #[.float .f32 x, .float .f32 y], .bool true]) w := by
  simp [Instr.typeAssert, run_underlying Try.underlying77]
theorem assertLF (x y : Nat) (w : World) : (Instr.typeAssert (.iface 77 (.agg #[.float .f32 x, .float .f32 y])) 69 74 true).run Try.prog w = .ok (.tuple #[.agg #[.float .f32 0, .float .f32 0, .float .f32 0, .float .f32 0], .bool false]) w := by
  kernel_rfl
theorem assertNF (w : World) : (Instr.typeAssert Value.nilIface 69 74 true).run Try.prog w = .ok (.tuple #[.agg #[.float .f32 0, .float .f32 0, .float .f32 0, .float .f32 0], .bool false]) w := by
  kernel_rfl
theorem assertNL (w : World) : (Instr.typeAssert Value.nilIface 69 77 true).run Try.prog w = .ok (.tuple #[.agg #[.float .f32 0, .float .f32 0], .bool false]) w := by
  kernel_rfl
set_option maxHeartbeats 4000000 in
theorem implTime_any (a : Option Addr) (n c : Nat) (C : List Nat) (b : Option Addr) (m e : Nat) (T : List Nat) (x : Nat) (w : World) (ha : FRd w a n c C) (hb : FRd w b m e T) :
    Calls Try.prog 16 #[CV a n c b m e, .float .f32 x] w (TimeP C T x w) := by
  have hst := fun (a : Addr) (v : Nat) (m : Mode) (w : World) => run_store Try.prog w a (.float .f32 v) m rfl
  have hC : C.length = n := ha.1
  have hT : T.length = m := hb.1
  have S0 := Lib.hid (cst_new w a n c b m e)
  have Ha := Lib.hid ha
  have Hb := Lib.hid hb
  have hV := fun (w' : World) (hB : Below w.heap.size w w') => implValidC_any a n c C b m e T w' (ha.stays hB (Nat.le_refl _)) (hb.stays hB (Nat.le_refl _))
  have hSt := fun (h2 : 2 ≤ n) (h16 : n ≤ 16) (hm : m = n) (w' : World) (hB : Below w.heap.size w w') => stretch_any a n c C b m e T x w' (ha.stays hB (Nat.le_refl _)) (hb.stays hB (Nat.le_refl _)) h2 h16 hm
  have hbT := fun i (hi : i < m) => Hb.out.bound hi
  clear ha hb
  unfold CV RB7 at hV hSt
  unfold CV TimeP
  have HV := Lib.hid hV
  have HSt := Lib.hid hSt
  have HbT := Lib.hid hbT
  clear hV hSt hbT
  go_enter Try.func16, Try.ntmps16
  go_upto_region 1 with fail
  generalize (w.alloc (.cells #[.slice a n c, .slice b m e] 26)) = W at *
  have c0 := S0.out.box.cell 0 (by simp)
  have c1 := S0.out.box.cell 1 (by simp)
  simp only [List.getD_cons_zero, List.getD_cons_succ] at c0 c1
  go_wp2_with fail
  refine (HV.out _ S0.out.below).mono ?_
  rintro en w1 ⟨rfl, hb1⟩
  have S1 := Lib.hid (S0.out.call hb1)
  clear hb1 c0 c1 S0 HV
  cases hok : okC C T
  · have He := Lib.hid (show timeR C T x = none by unfold timeR; rw [hok]; rfl)
    clear hok
    go_wp2_with fail
    go_ret2
    exact ⟨0, by rw [He.out]; rfl, by decide, by rw [He.out]; exact vl_zero _, S1.out.below⟩
  · have Ok := Lib.hid (okC_true hok)
    have He := Lib.hid (show timeR C T x = timeF C T x by unfold timeR; rw [hok]; rfl)
    have h2 := Ok.out.two
    have h16 := Ok.out.most
    have h3 := Ok.out.len
    have c0 := S1.out.box.cell 0 (by simp)
    have c1 := S1.out.box.cell 1 (by simp)
    simp only [List.getD_cons_zero, List.getD_cons_succ] at c0 c1
    go_wp2_with fail
    refine (HSt.out (by omega) (by omega) (by omega) _ S1.out.below).mono ?_
    rintro en w2 ⟨rfl, hb2⟩
    have S2 := Lib.hid (S1.out.call hb2)
    clear hb2 c0 c1 S1 HSt hok
    have hdef : timeF C T x = (lastGe C x (C.length - 1)).map (timeI C T x) := rfl
    unfold stretchV
    cases hl : lastGe C x (C.length - 1) with
    | none =>
      have hF := Lib.hid (show timeF C T x = none by rw [hdef, hl]; rfl)
      have hA := assertNF
      have hB := assertNL
      clear hdef hl
      simp only
      go_wp2_with fail
      go_ret2
      exact ⟨0, by rw [He.out, hF.out]; rfl, by decide, by rw [He.out, hF.out]; exact vl_zero _, S2.out.below⟩
    | some i =>
      obtain ⟨hi, _, _⟩ := lastGe_spec hl
      have lt := HbT.out i (by omega)
      by_cases hin : i + 1 = C.length
      · have hF := Lib.hid (show timeF C T x = some (vl .f32 (T.getD i 0)) by rw [hdef, hl]; simp only [Option.map_some]; unfold timeI; rw [if_pos hin])
        simp only
        rw [if_pos hin]
        unfold LevV
        clear hdef hl HbT hi hin h2 h16 h3 Ok
        generalize C.getD i 0 = u at *
        generalize T.getD i 0 = t at *
        have hA := assertLF
        have hB := assertLL
        go_wp2_with fail
        go_ret2
        exact ⟨t, by rw [He.out, hF.out]; rfl, lt, by rw [He.out, hF.out]; rfl, S2.out.below.alloc S2.out.below.size _⟩
      · have hF := Lib.hid (show timeF C T x = some (segT C T x i) by rw [hdef, hl]; simp only [Option.map_some]; unfold timeI; rw [if_neg hin])
        simp only
        rw [if_neg hin]
        unfold FallV
        unfold segT at hF
        clear hdef hl HbT hi hin h2 h16 h3 Ok
        generalize C.getD i 0 = u at *
        generalize T.getD i 0 = t at *
        generalize C.getD (i + 1) 0 = v at *
        generalize T.getD (i + 1) 0 = s at *
        have hA := assertFF
        go_wp2_with fail
        refine (fallTime_any _ _ _ _ _ _).mono ?_
        rintro en w3 ⟨r, rfl, hv, hr, hb3⟩
        have Hv := Lib.hid hv
        have B3 := Lib.hid ((S2.out.below.alloc S2.out.below.size (.cells [Value.float .f32 u, .float .f32 t, .float .f32 v, .float .f32 s].toArray 74)).trans (hb3.mono (by have := S2.out.below.size; simp; omega)))
        clear hb3 hv
        go_wp2_with fail
        go_ret2
        exact ⟨r, by rw [He.out, hF.out]; rfl, hr, by rw [He.out, hF.out]; exact Hv.out, B3.out⟩
end Go.Proofs.Ythkjikennlaelaa
