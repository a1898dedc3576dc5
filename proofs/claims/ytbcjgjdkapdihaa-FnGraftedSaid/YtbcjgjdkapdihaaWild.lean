/-
  A valid feeder that bytes choose, in the program. No theorem of a claim stands here.
-/
import Derived.Test.YtbcjgjdkapdihaaDrawOk
import Derived.Test.YtbcjgjdkapdihaaFdr
import Derived.Test.YtbcjgjdkapdihaaBytes
set_option linter.unusedVariables false
set_option linter.unusedSimpArgs false
set_option maxRecDepth 8000
namespace Go.Proofs.Ytbcjgjdkapdihaa
open Go Go.RowKit Go.Shelf Go.Deep Go.Proofs.Ytbcjgjdkapdihaa.Fl

theorem BRd.stays {p : Nat} {w w' : World} {a : Option Addr} {len cap B : Nat} (h : BRd p w a len cap) (hb : Below B w w') (hB : p ≤ B) : BRd p w' a len cap := by
  obtain ⟨h1, h2, h3, h4⟩ := h
  refine ⟨h1, h2, h3, fun k hk => ?_⟩
  obtain ⟨b, o, v, e, hb2, hv1, hv2, hc⟩ := h4 k hk
  exact ⟨b, o, v, e, hb2, hv1, hv2, (hb.cell (show (⟨b, o + k, none⟩ : Addr).block < B from Nat.lt_of_lt_of_le hb2 hB)).trans hc⟩

theorem wild_any (w : World) (a : Option Addr) (len cap : Nat) (hb : BRd w.heap.size w a len cap) :
    Calls Try.prog 59 #[.slice a len cap] w fun e w' => ∃ (s : Nat → Nat) (gs n c : Nat) (Bs : List BusV), e = .returned (FV s gs n c) ∧ Fdr w' gs n c Bs ∧ n ≤ 6 ∧ w.heap.size ≤ gs ∧ Below w.heap.size w w' := by
  have hst := fun (a : Addr) (x y : Nat) (m : Mode) (w : World) => run_store Try.prog w a (.complex .f32 x y) m rfl
  have R0 := RL.new w [.complex .f32 0 0, .complex .f32 0 0, .complex .f32 0 0, .slice none 0 0] 40
  have hba := bel_alloc w (.cells #[.complex .f32 0 0, .complex .f32 0 0, .complex .f32 0 0, .slice none 0 0] 40)
  have hf := from_any (w.alloc (.cells #[.complex .f32 0 0, .complex .f32 0 0, .complex .f32 0 0, .slice none 0 0] 40)) a len cap (by
    have h := hb.stays hba (Nat.le_refl _)
    obtain ⟨h1, h2, h3, h4⟩ := h
    refine ⟨h1, h2, h3, fun k hk => ?_⟩
    obtain ⟨b, o, v, e, hb2, r⟩ := h4 k hk
    exact ⟨b, o, v, e, by simp; omega, r⟩)
  rw [World.size_alloc] at hf
  go_enter Try.func59, Try.ntmps59
  go_wp2_with fail
  refine hf.mono ?_
  rintro e w1 ⟨rfl, hs, hg⟩
  have hb1 : Below (w.heap.size + 1) (w.alloc (.cells #[.complex .f32 0 0, .complex .f32 0 0, .complex .f32 0 0, .slice none 0 0] 40)) w1 := (Below.refl _ _).grown hg (by simp) (fun k e => by cases e)
  have Hb1 := Lib.hid hb1
  have hd := drawOk_any w1 (w.heap.size + 1) a len cap 0 hs (by omega)
  clear hs hg hb1 hba
  go_wp2_with fail
  refine hd.mono ?_
  rintro e w2 ⟨x0, x1, y0, y1, z0, z1, gs, c, n, Bs, rfl, _, _, _, _, _, _, hn1, hn2, hlen, hG, hown, hb2⟩
  have hsz1 : w.heap.size + 1 ≤ w1.heap.size := by have := Hb1.out.size; simpa using this
  have HO := Lib.hid hown
  have HG := Lib.hid hG
  have Hb2 := Lib.hid ((Hb1.out.trans hb2).mono (Nat.le_succ _))
  have T0 : RL w2 w.heap.size 40 [.complex .f32 0 0, .complex .f32 0 0, .complex .f32 0 0, .slice none 0 0] := RL.below R0 (Hb1.out.trans hb2) (by omega)
  have hgs := (own_lt HO.out).1
  have hnl := (own_lt HO.out).2
  clear hown hG hb2
  have t0 : w2.cell? ⟨w.heap.size, 0, none⟩ = some (.complex .f32 0 0) := T0.cell 0 (by simp)
  have g0 := T0.frozen 0
  have T1 := T0.set 0 (.complex .f32 x0 x1)
  have t1 : (w2.setCell ⟨w.heap.size, 0, none⟩ (.complex .f32 x0 x1)).cell? ⟨w.heap.size, 1, none⟩ = some (.complex .f32 0 0) := T1.cell 1 (by simp)
  have g1 := T1.frozen 1
  have T2 := T1.set 1 (.complex .f32 y0 y1)
  have t2 : ((w2.setCell ⟨w.heap.size, 0, none⟩ (.complex .f32 x0 x1)).setCell ⟨w.heap.size, 1, none⟩ (.complex .f32 y0 y1)).cell? ⟨w.heap.size, 2, none⟩ = some (.complex .f32 0 0) := T2.cell 2 (by simp)
  have g2 := T2.frozen 2
  have T3 := T2.set 2 (.complex .f32 z0 z1)
  have t3 : (((w2.setCell ⟨w.heap.size, 0, none⟩ (.complex .f32 x0 x1)).setCell ⟨w.heap.size, 1, none⟩ (.complex .f32 y0 y1)).setCell ⟨w.heap.size, 2, none⟩ (.complex .f32 z0 z1)).cell? ⟨w.heap.size, 3, none⟩ = some (.slice none 0 0) := T3.cell 3 (by simp)
  have g3 := T3.frozen 3
  have T4 := T3.set 3 (.slice (some ⟨gs, 0, none⟩) n c)
  have v0 : ((((w2.setCell ⟨w.heap.size, 0, none⟩ (.complex .f32 x0 x1)).setCell ⟨w.heap.size, 1, none⟩ (.complex .f32 y0 y1)).setCell ⟨w.heap.size, 2, none⟩ (.complex .f32 z0 z1)).setCell ⟨w.heap.size, 3, none⟩ (.slice (some ⟨gs, 0, none⟩) n c)).cell? ⟨w.heap.size, 0, none⟩ = some (.complex .f32 x0 x1) := T4.cell 0 (by simp)
  have v1 : ((((w2.setCell ⟨w.heap.size, 0, none⟩ (.complex .f32 x0 x1)).setCell ⟨w.heap.size, 1, none⟩ (.complex .f32 y0 y1)).setCell ⟨w.heap.size, 2, none⟩ (.complex .f32 z0 z1)).setCell ⟨w.heap.size, 3, none⟩ (.slice (some ⟨gs, 0, none⟩) n c)).cell? ⟨w.heap.size, 1, none⟩ = some (.complex .f32 y0 y1) := T4.cell 1 (by simp)
  have v2 : ((((w2.setCell ⟨w.heap.size, 0, none⟩ (.complex .f32 x0 x1)).setCell ⟨w.heap.size, 1, none⟩ (.complex .f32 y0 y1)).setCell ⟨w.heap.size, 2, none⟩ (.complex .f32 z0 z1)).setCell ⟨w.heap.size, 3, none⟩ (.slice (some ⟨gs, 0, none⟩) n c)).cell? ⟨w.heap.size, 2, none⟩ = some (.complex .f32 z0 z1) := T4.cell 2 (by simp)
  have v3 : ((((w2.setCell ⟨w.heap.size, 0, none⟩ (.complex .f32 x0 x1)).setCell ⟨w.heap.size, 1, none⟩ (.complex .f32 y0 y1)).setCell ⟨w.heap.size, 2, none⟩ (.complex .f32 z0 z1)).setCell ⟨w.heap.size, 3, none⟩ (.slice (some ⟨gs, 0, none⟩) n c)).cell? ⟨w.heap.size, 3, none⟩ = some (.slice (some ⟨gs, 0, none⟩) n c) := T4.cell 3 (by simp)
  have HO4 := Lib.hid ((own_other (own_other (own_other (own_other HO.out (b := w.heap.size) (by omega) 0 (.complex .f32 x0 x1)) (b := w.heap.size) (by omega) 1 (.complex .f32 y0 y1)) (b := w.heap.size) (by omega) 2 (.complex .f32 z0 z1)) (b := w.heap.size) (by omega) 3 (.slice (some ⟨gs, 0, none⟩) n c)))
  have HB4 := Lib.hid ((((((bel_alloc w _).trans Hb2.out).setCell (p := ⟨w.heap.size, 0, none⟩) (Nat.le_refl _) (.complex .f32 x0 x1)).setCell (p := ⟨w.heap.size, 1, none⟩) (Nat.le_refl _) (.complex .f32 y0 y1)).setCell (p := ⟨w.heap.size, 2, none⟩) (Nat.le_refl _) (.complex .f32 z0 z1)).setCell (p := ⟨w.heap.size, 3, none⟩) (Nat.le_refl _) (.slice (some ⟨gs, 0, none⟩) n c))
  clear T0 T1 T2 T3 T4 R0
  go_wp2_with fail
  try simp only [Exit.inBlock, Exit.then]
  refine bodyPost_ret (by simp [results, Try.results59, go_sem, v0, v1, v2, v3]; try rfl) rfl ?_
  exact ⟨fun i => [x0, x1, y0, y1, z0, z1].getD i 0, gs, n, c, Bs, rfl, ⟨busRd_of HO4.out hlen, hlen, hnl.2.1, hnl.2.2, hn1, by omega, HG.out⟩, hn2, by omega, HB4.out⟩
end Go.Proofs.Ytbcjgjdkapdihaa
