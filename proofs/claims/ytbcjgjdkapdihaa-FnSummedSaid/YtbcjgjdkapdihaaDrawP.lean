/-
  Phases that are drawn. No theorem of a claim stands here.
-/
import Derived.Test.YtbcjgjdkapdihaaDrawN
import Derived.Deep.QuietTactic
set_option linter.unusedVariables false
namespace Go.Proofs.Ytbcjgjdkapdihaa
open Go Go.RowKit Go.Deep Go.Proofs.Ytbcjgjdkapdihaa.Fl

def three (x y z : Value) : Nat → Value := fun j => if j = 0 then x else if j = 1 then y else z
theorem new3 (w : World) (x y z : Value) (t : TypeId) : (w.alloc (.cells #[x, y, z] t)).rowIs w.heap.size t 3 (three x y z) :=
  World.rowIs_alloc w #[x, y, z] t _ (fun i hi => by
    match i, hi with
    | 0, _ => rfl
    | 1, _ => rfl
    | 2, _ => rfl)
theorem set3a {w : World} {g t : Nat} {x y z : Value} (h : w.rowIs g t 3 (three x y z)) (u : Value) : (w.setCell ⟨g, 0, none⟩ u).rowIs g t 3 (three u y z) :=
  (h.set 0 u).congr fun j hj => by
    match j, hj with
    | 0, _ => rfl
    | 1, _ => rfl
    | 2, _ => rfl
theorem set3b {w : World} {g t : Nat} {x y z : Value} (h : w.rowIs g t 3 (three x y z)) (u : Value) : (w.setCell ⟨g, 1, none⟩ u).rowIs g t 3 (three x u z) :=
  (h.set 1 u).congr fun j hj => by
    match j, hj with
    | 0, _ => rfl
    | 1, _ => rfl
    | 2, _ => rfl
theorem set3c {w : World} {g t : Nat} {x y z : Value} (h : w.rowIs g t 3 (three x y z)) (u : Value) : (w.setCell ⟨g, 2, none⟩ u).rowIs g t 3 (three x y u) :=
  (h.set 2 u).congr fun j hj => by
    match j, hj with
    | 0, _ => rfl
    | 1, _ => rfl
    | 2, _ => rfl
set_option maxHeartbeats 4000000 in
theorem drawPhases_any (w : World) (p : Nat) (a : Option Addr) (len cap i : Nat) (hs : Src w p a len cap i) (hi : i ≤ 999970000) (m : Int) (h0 : 0 ≤ m) (h1 : m ≤ 1000) :
    Calls Try.prog 95 #[.pointer (some ⟨p, 0, none⟩), .int .i64 m] w fun e w' => ∃ (a0 a1 b0 b1 c0 c1 j : Nat), e = .returned (.agg #[.complex .f32 a0 a1, .complex .f32 b0 b1, .complex .f32 c0 c1]) ∧
      a0 < 2 ^ 32 ∧ a1 < 2 ^ 32 ∧ b0 < 2 ^ 32 ∧ b1 < 2 ^ 32 ∧ c0 < 2 ^ 32 ∧ c1 < 2 ^ 32 ∧ j ≤ i + 72 ∧ Src w' p a len cap j ∧ w.grownBy w' (some p) := by
  have hp := hs.lt
  have S0 := Lib.hid (hs.allocd (.cells #[.complex .f32 0 0, .complex .f32 0 0, .complex .f32 0 0] 37))
  clear hs
  have hst := fun (a : Addr) (x y : Nat) (m : Mode) (w : World) => run_store Try.prog w a (.complex .f32 x y) m rfl
  have k0 := fun (w : World) (x y z : Value) => (new3 w x y z 37).cell (i := 0) (by omega)
  have z0 := fun (w : World) (x y z : Value) => (new3 w x y z 37).frozen 0
  have k1 := fun (w : World) (x y z u : Value) => (set3a (new3 w x y z 37) u).cell (i := 1) (by omega)
  have z1 := fun (w : World) (x y z u : Value) => (set3a (new3 w x y z 37) u).frozen 1
  have k2 := fun (w : World) (x y z u v : Value) => (set3b (set3a (new3 w x y z 37) u) v).cell (i := 2) (by omega)
  have z2 := fun (w : World) (x y z u v : Value) => (set3b (set3a (new3 w x y z 37) u) v).frozen 2
  go_enter Try.func95, Try.ntmps95
  go_wp2_with (first | (have h_ := S0; clear h_; go_at_call 159; refine (drawNumber_any _ p a len cap _ S0.out (by omega) m h0 h1).mono ?_; rintro e2 w2 ⟨re, im, j, rfl, hre, him, hj, gs1, hg1⟩; have S1 := Lib.hid (gs1.allocd (.cells #[.complex .f32 re im, .complex .f32 0 0, .complex .f32 0 0] 37)); have hp2 := gs1.lt; have G1 := Lib.hid (gtrans (World.grownBy_alloc w _ (some p)) hg1); have R1 := Lib.hid (row_keep (new3 w _ _ _ _) hg1 (show ¬ w.heap.size = p by omega)); have hl2 := R1.out.lt; clear S0; clear gs1; clear hg1) | (have h_ := S1; clear h_; go_at_call 159; refine (drawNumber_any _ p a len cap _ S1.out (by omega) m h0 h1).mono ?_; rintro e3 w3 ⟨re3, im3, j3, rfl, hre3, him3, hj3, gs1, hg1⟩; have S2 := Lib.hid gs1; have G2 := Lib.hid (gtrans (galloc G1.out _) hg1); have R2 := Lib.hid (row_keep (R1.out.alloc _) hg1 (show ¬ w.heap.size = p by omega)); have T2 := row_keep (new3 w2 _ _ _ _) hg1 (show ¬ w2.heap.size = p by omega); have hl3 : w2.heap.size < w3.heap.size := T2.lt; have c2 := T2.frozen 1; have d2 := T2.cell (i := 1) (by omega); have U2 := Lib.hid T2; clear T2; clear S1; clear gs1; clear hg1; clear G1; clear R1) | (have h_ := S2; clear h_; go_at_call 159; refine (drawNumber_any _ p a len cap _ (S2.out.setOther hp2 _ _) (by omega) m h0 h1).mono ?_; rintro e4 w4 ⟨re4, im4, j4, rfl, hre4, him4, hj4, gs1, hg1⟩; have S3 := Lib.hid gs1; have G3 := Lib.hid (gtrans (gfresh G2.out (Nat.le_of_lt hl2) _ _) hg1); have T3 := row_keep (set3b U2.out (.complex .f32 re3 im3)) hg1 (show ¬ w2.heap.size = p by omega); have f2 := T3.frozen 2; have g2 := T3.cell (i := 2) (by omega); have Q0 := row_keep (R2.out.setOther (a := ⟨w2.heap.size, 1, none⟩) (show w.heap.size ≠ w2.heap.size by omega) (.complex .f32 re3 im3)) hg1 (show ¬ w.heap.size = p by omega); have T4 := Lib.hid (set3c T3 (.complex .f32 re4 im4)); have Q1 := Lib.hid (Q0.setOther (a := ⟨w2.heap.size, 2, none⟩) (show w.heap.size ≠ w2.heap.size by omega) (.complex .f32 re4 im4)); clear T3; clear Q0; clear S2; clear gs1; clear hg1; clear G2; clear R2; clear U2; have a0 : (w4.setCell ⟨w2.heap.size, 2, none⟩ (.complex .f32 re4 im4)).cell? ⟨w2.heap.size, 0, none⟩ = some (.complex .f32 re im) := T4.out.cell (by omega); have a1 : (w4.setCell ⟨w2.heap.size, 2, none⟩ (.complex .f32 re4 im4)).cell? ⟨w2.heap.size, 1, none⟩ = some (.complex .f32 re3 im3) := T4.out.cell (by omega); have a2 : (w4.setCell ⟨w2.heap.size, 2, none⟩ (.complex .f32 re4 im4)).cell? ⟨w2.heap.size, 2, none⟩ = some (.complex .f32 re4 im4) := T4.out.cell (by omega); have b0 : (w4.setCell ⟨w2.heap.size, 2, none⟩ (.complex .f32 re4 im4)).cell? ⟨w.heap.size, 0, none⟩ = some (.complex .f32 0 0) := Q1.out.cell (by omega); have b1 := Q1.out.frozen 0; have b2 : ((w4.setCell ⟨w2.heap.size, 2, none⟩ (.complex .f32 re4 im4)).setCell ⟨w.heap.size, 0, none⟩ (.complex .f32 re im)).cell? ⟨w.heap.size, 1, none⟩ = some (.complex .f32 0 0) := (set3a Q1.out _).cell (by omega); have b3 := (set3a Q1.out (.complex .f32 re im)).frozen 1; have b4 : (((w4.setCell ⟨w2.heap.size, 2, none⟩ (.complex .f32 re4 im4)).setCell ⟨w.heap.size, 0, none⟩ (.complex .f32 re im)).setCell ⟨w.heap.size, 1, none⟩ (.complex .f32 re3 im3)).cell? ⟨w.heap.size, 2, none⟩ = some (.complex .f32 0 0) := (set3b (set3a Q1.out _) _).cell (by omega); have b5 := (set3b (set3a Q1.out (.complex .f32 re im)) (.complex .f32 re3 im3)).frozen 2; have V := Lib.hid (set3c (set3b (set3a Q1.out (.complex .f32 re im)) (.complex .f32 re3 im3)) (.complex .f32 re4 im4)); have v0 : ((((w4.setCell ⟨w2.heap.size, 2, none⟩ (.complex .f32 re4 im4)).setCell ⟨w.heap.size, 0, none⟩ (.complex .f32 re im)).setCell ⟨w.heap.size, 1, none⟩ (.complex .f32 re3 im3)).setCell ⟨w.heap.size, 2, none⟩ (.complex .f32 re4 im4)).cell? ⟨w.heap.size, 0, none⟩ = some (.complex .f32 re im) := V.out.cell (by omega); have v1 : ((((w4.setCell ⟨w2.heap.size, 2, none⟩ (.complex .f32 re4 im4)).setCell ⟨w.heap.size, 0, none⟩ (.complex .f32 re im)).setCell ⟨w.heap.size, 1, none⟩ (.complex .f32 re3 im3)).setCell ⟨w.heap.size, 2, none⟩ (.complex .f32 re4 im4)).cell? ⟨w.heap.size, 1, none⟩ = some (.complex .f32 re3 im3) := V.out.cell (by omega); have v2 : ((((w4.setCell ⟨w2.heap.size, 2, none⟩ (.complex .f32 re4 im4)).setCell ⟨w.heap.size, 0, none⟩ (.complex .f32 re im)).setCell ⟨w.heap.size, 1, none⟩ (.complex .f32 re3 im3)).setCell ⟨w.heap.size, 2, none⟩ (.complex .f32 re4 im4)).cell? ⟨w.heap.size, 2, none⟩ = some (.complex .f32 re4 im4) := V.out.cell (by omega)))
  try simp only [Exit.inBlock, Exit.then]
  refine bodyPost_ret (by simp [results, Try.results95, go_sem, v0, v1, v2]; try rfl) rfl ?_
  exact ⟨re, im, re3, im3, re4, im4, j4, rfl, hre, him, hre3, him3, hre4, him4, by omega, (((S3.out.setOther hp2 _ _).setOther hp _ _).setOther hp _ _).setOther hp _ _, gfresh (gfresh (gfresh (gfresh G3.out (Nat.le_of_lt hl2) _ _) (Nat.le_refl _) _ _) (Nat.le_refl _) _ _) (Nat.le_refl _) _ _⟩
end Go.Proofs.Ytbcjgjdkapdihaa
