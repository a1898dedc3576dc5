/-
  The buses at an ascending list of indices, their parents renumbered, in the program. No theorem of a claim stands here.
-/
import Derived.Test.YtbcjgjdkapdihaaSearchP
import Derived.Test.YtbcjgjdkapdihaaSplit
import Derived.Test.YtbcjgjdkapdihaaDrawOk
set_option linter.unusedVariables false
set_option linter.unusedSimpArgs false
set_option maxRecDepth 8000
namespace Go.Proofs.Ytbcjgjdkapdihaa
open Go Go.RowKit Go.Shelf Go.Deep Go.Proofs.Ytbcjgjdkapdihaa.Fl

/-- A bus with another parent. -/
def BusV.withPar (B : BusV) (q : Int) : BusV := { B with par := q }
/-- The bus C is bus B of a list L of indices, renumbered. -/
def Ren (L : List Int) (B C : BusV) : Prop := ∃ q : Int, C = B.withPar q ∧ (B.par ∈ L → ∃ j : Nat, q = j ∧ j < L.length ∧ L.getD j 0 = B.par) ∧ (¬ B.par ∈ L → q = -1)
def RenL (Bs : List BusV) (L : List Int) (k : Nat) (R : List BusV) : Prop := R.length = k ∧ ∀ i, i < k → ∃ B C, Bs[(L.getD i 0).toNat]? = some B ∧ R[i]? = some C ∧ Ren L B C
theorem RenL.snoc {Bs : List BusV} {L : List Int} {k : Nat} {R : List BusV} {B C : BusV} (h : RenL Bs L k R) (hB : Bs[(L.getD k 0).toNat]? = some B) (hC : Ren L B C) : RenL Bs L (k + 1) (R ++ [C]) := by
  obtain ⟨h1, h2⟩ := h
  refine ⟨by simp [h1], fun i hi => ?_⟩
  by_cases e : i = k
  · subst e
    exact ⟨B, C, hB, by rw [List.getElem?_append_right (by omega), h1, Nat.sub_self]; rfl, hC⟩
  · obtain ⟨B', C', a, b, c⟩ := h2 i (by omega)
    exact ⟨B', C', a, by rw [List.getElem?_append_left (by omega)]; exact b, c⟩

set_option maxRecDepth 100000 in
set_option maxHeartbeats 8000000 in
theorem busesAt_any (w : World) (s : Nat → Nat) (g n c : Nat) (Bs : List BusV) (hF : Fdr w g n c Bs) (a : Option Addr) (len cap : Nat) (L : List Int) (hL : IRd w a len cap L) (hl : len ≤ 16) (hs : ∀ i j, i < j → j < len → L.getD i 0 < L.getD j 0) (hm : ∀ x ∈ L, 0 ≤ x ∧ x < n) :
    Calls Try.prog 141 #[FV s g n c, .slice a len cap] w fun e w' => ∃ g' c' R, e = .returned (.slice (some ⟨g', 0, none⟩) len c') ∧ RenL Bs L len R ∧ w'.ownsRow (w.heap.size + 1) 89 8 (.slice (some ⟨g', 0, none⟩) len c') len (flat R) ∧ Below w.heap.size w w' := by
  have h2 := hF.most
  have h3 := hF.cap
  have hlen := hF.len
  have hgb := hF.rd.1
  have HF := Lib.hid hF
  have HL := Lib.hid hL
  have HM := Lib.hid hm
  have HSt := Lib.hid hs
  have hll := hL.1
  have hcap := hL.2.1
  obtain ⟨i0, hz, hz0, hz1, hz2⟩ := info_parts infoBus
  have hst := fun (a : Addr) (x y : Nat) (m : Mode) (w : World) => run_store Try.prog w a (.complex .f32 x y) m rfl
  have RF := RL.new w [.complex .f32 (s 0) (s 1), .complex .f32 (s 2) (s 3), .complex .f32 (s 4) (s 5), .slice (some ⟨g, 0, none⟩) n c] 40
  have hb0 := bel_alloc w (.cells #[.complex .f32 (s 0) (s 1), .complex .f32 (s 2) (s 3), .complex .f32 (s 4) (s 5), .slice (some ⟨g, 0, none⟩) n c] 40)
  have hs0 : (w.alloc (.cells #[.complex .f32 (s 0) (s 1), .complex .f32 (s 2) (s 3), .complex .f32 (s 4) (s 5), .slice (some ⟨g, 0, none⟩) n c] 40)).heap.size = w.heap.size + 1 := by simp
  obtain ⟨mc, hmc, hmk⟩ : ∃ mc : Array Value, mc.size = len * 8 ∧ ∀ w' : World, (Instr.makeSlice 38 (.int .i64 0) (.int .i64 (len : Int))).run Try.prog w' = .ok (.slice (some ⟨w'.heap.size, 0, none⟩) 0 len) (w'.alloc (.cells mc 89)) := by
    refine ⟨_, size_madeCells (Value.cells (.agg #[.int .i64 0, .complex .f32 0 0, .complex .f32 0 0, .int .i64 0, .complex .f32 0 0, .complex .f32 0 0, .complex .f32 0 0, .int .i64 0])) _, fun w' => ?_⟩
    have h := run_make (P := Try.prog) w' 38 89 i0 (.agg #[.int .i64 0, .complex .f32 0 0, .complex .f32 0 0, .int .i64 0, .complex .f32 0 0, .complex .f32 0 0, .complex .f32 0 0, .int .i64 0]) Try.underlying38 hz hz0 .i64 .i64 0 (len : Int) (by omega) (by omega) (by rw [hz2]; omega) (by omega)
    rw [hz1] at h
    exact h
  clear hF hL hm hs
  unfold FV
  go_enter Try.func141, Try.ntmps141
  go_wp2_with fail
  have hb1 : Below (w.heap.size + 1) (w.alloc (.cells #[.complex .f32 (s 0) (s 1), .complex .f32 (s 2) (s 3), .complex .f32 (s 4) (s 5), .slice (some ⟨g, 0, none⟩) n c] 40)) ((w.alloc (.cells #[.complex .f32 (s 0) (s 1), .complex .f32 (s 2) (s 3), .complex .f32 (s 4) (s 5), .slice (some ⟨g, 0, none⟩) n c] 40)).alloc (.cells mc 89)) := (Below.refl _ _).alloc (by simp) _
  have Ho1 : Hid (((w.alloc (.cells #[.complex .f32 (s 0) (s 1), .complex .f32 (s 2) (s 3), .complex .f32 (s 4) (s 5), .slice (some ⟨g, 0, none⟩) n c] 40)).alloc (.cells mc 89)).ownsRow (w.heap.size + 1) 89 8 (.slice (some ⟨w.heap.size + 1, 0, none⟩) 0 len) 0 (flat [])) := by
    have h := World.ownsRow_made (base := w.heap.size + 1) (e := 89) (size := 8) (w.alloc (.cells #[.complex .f32 (s 0) (s 1), .complex .f32 (s 2) (s 3), .complex .f32 (s 4) (s 5), .slice (some ⟨g, 0, none⟩) n c] 40)) mc len (by rw [hs0]; exact Nat.le_refl _) (by unfold maxLen; omega) hmc
    rw [hs0] at h
    exact Lib.hid h
  have Hb1 := Lib.hid hb1
  have RF1 := Lib.hid RF
  have Hb0 := Lib.hid hb0
  clear hb1 RF hb0 hmk
  generalize (w.alloc (.cells #[.complex .f32 (s 0) (s 1), .complex .f32 (s 2) (s 3), .complex .f32 (s 4) (s 5), .slice (some ⟨g, 0, none⟩) n c] 40)) = w1 at *
  go_loopw [16, 5] (fun I O wr => ∃ (k g' c' : Nat) (R : List BusV), I = .int .i64 k ∧ O = .slice (some ⟨g', 0, none⟩) k c' ∧ k ≤ len ∧ Hid (RenL Bs L k R) ∧ Hid (wr.ownsRow (w.heap.size + 1) 89 8 (.slice (some ⟨g', 0, none⟩) k c') k (flat R)) ∧ Hid (Below (w.heap.size + 1) w1 wr)) (fun I _ _ => len - (intOf I).toNat)
  case atStart => exact ⟨0, w.heap.size + 1, len, [], rfl, rfl, Nat.zero_le _, Lib.hid ⟨rfl, fun i hi => absurd hi (Nat.not_lt_zero _)⟩, Ho1, Hb1⟩
  case round =>
    obtain ⟨k, g', c', R, rfl, rfl, hk, HR, Ho, Hb⟩ := hrel
    by_cases hlt : k < len
    · have d1 : decide ((k : Int) < (len : Int)) = true := by simp; omega
      have hBw := Hb0.out.trans (Hb.out.mono (Nat.le_succ _))
      have hLw := HL.out.stays hBw (Nat.le_refl _)
      have hFw := HF.out.below hBw (Nat.le_refl _)
      obtain ⟨gv, ov, rfl, hce, _⟩ := hLw.2.2.2.1 k hlt
      have hkl : k < L.length := by omega
      have hel : L.getD k 0 ∈ L := by rw [List.getD_eq_getElem?_getD, List.getElem?_eq_getElem hkl]; exact List.getElem_mem hkl
      have hx0 := HM.out _ hel
      obtain ⟨x, hx⟩ : ∃ x : Nat, L.getD k 0 = x := ⟨(L.getD k 0).toNat, by omega⟩
      rw [hx] at hce hx0
      have hxn : x < n := by omega
      have hxl : x < Bs.length := by omega
      have hrd := hFw.rd.2 x hxl
      have hBx : Bs[(L.getD k 0).toNat]? = some Bs[x] := by rw [hx, Int.toNat_natCast]; exact List.getElem?_eq_getElem hxl
      obtain ⟨B, hB⟩ : ∃ B, Bs[x] = B := ⟨_, rfl⟩
      rw [hB] at hrd hBx
      have HBx := Lib.hid hBx
      have f3 : wr.cell? ⟨w.heap.size, 3, none⟩ = some (.slice (some ⟨g, 0, none⟩) n c) := (RF1.out.below Hb.out (by omega)).cell 3 (by simp)
      have e0 : wr.cell? ⟨g, x * 8, none⟩ = some (.int .i64 B.par) := hrd 0 (by omega)
      have e1 : wr.cell? ⟨g, x * 8 + 1, none⟩ = some (.complex .f32 B.o0 B.o1) := hrd 1 (by omega)
      have e2 : wr.cell? ⟨g, x * 8 + 2, none⟩ = some (.complex .f32 B.s0 B.s1) := hrd 2 (by omega)
      have e3 : wr.cell? ⟨g, x * 8 + 3, none⟩ = some (.int .i64 B.kind) := hrd 3 (by omega)
      have e4 : wr.cell? ⟨g, x * 8 + 4, none⟩ = some (.complex .f32 B.a0 B.a1) := hrd 4 (by omega)
      have e5 : wr.cell? ⟨g, x * 8 + 5, none⟩ = some (.complex .f32 B.b0 B.b1) := hrd 5 (by omega)
      have e6 : wr.cell? ⟨g, x * 8 + 6, none⟩ = some (.complex .f32 B.c0 B.c1) := hrd 6 (by omega)
      have e7 : wr.cell? ⟨g, x * 8 + 7, none⟩ = some (.int .i64 B.cust) := hrd 7 (by omega)
      have R2 := RL.new wr B.vals 89
      have hb2 := bel_alloc wr (.cells B.vals.toArray 89)
      have hS := searchP_any (wr.alloc (.cells B.vals.toArray 89)) (some ⟨gv, ov, none⟩) len cap L B.par (hLw.stays hb2 (Nat.le_refl _)) (by omega) HSt.out
      unfold BusV.vals at hS R2 hb2
      have p0 := R2.cell 0 (by simp)
      simp only [List.getD_cons_zero] at p0
      clear hrd hBx hB hx hel hLw hFw hBw hkl hx0
      go_wp2_with fail
      generalize hW2 : (wr.alloc (.cells #[.int .i64 B.par, .complex .f32 B.o0 B.o1, .complex .f32 B.s0 B.s1, .int .i64 B.kind, .complex .f32 B.a0 B.a1, .complex .f32 B.b0 B.b1, .complex .f32 B.c0 B.c1, .int .i64 B.cust] 89)) = W2 at *
      refine hS.mono ?_
      rintro e w5 ⟨pl, rfl, hpl, hpl2, hw5⟩
      have hw6 := hw5.symm
      subst hw6
      have hol := own_lt Ho.out
      have hwr : w.heap.size + 1 ≤ wr.heap.size := by omega
      have hoW : W2.ownsRow (w.heap.size + 1) 89 8 (.slice (some ⟨g', 0, none⟩) k c') k (flat R) := by rw [← hW2]; exact Ho.out.alloc _
      have hbW : Below (w.heap.size + 1) w1 W2 := by rw [← hW2]; exact Hb.out.alloc hwr _
      have hg'w : g' ≠ wr.heap.size := by omega
      have hszW : W2.heap.size = wr.heap.size + 1 := by rw [← hW2]; simp
      clear hW2 hS hb2 f3 e0 e1 e2 e3 e4 e5 e6 e7 hce hw5
      by_cases hin : B.par ∈ L
      · skip
        have dh : decide (B.par ∈ L) = true := decide_eq_true hin
        simp only [dh]
        have z0 := R2.frozen 0
        have R3 := R2.set 0 (.int .i64 (-1))
        have q0 := R3.cell 0 (by simp)
        have y0 := R3.frozen 0
        simp only [List.set_cons_zero, List.getD_cons_zero] at q0
        have R4 := ((R2.set 0 (.int .i64 (-1))).set 0 (.int .i64 pl))
        simp only [List.set_cons_zero] at R4
        have v0 := R4.cell 0 (by simp)
        have v1 := R4.cell 1 (by simp)
        have v2 := R4.cell 2 (by simp)
        have v3 := R4.cell 3 (by simp)
        have v4 := R4.cell 4 (by simp)
        have v5 := R4.cell 5 (by simp)
        have v6 := R4.cell 6 (by simp)
        have v7 := R4.cell 7 (by simp)
        simp only [List.getD_cons_zero, List.getD_cons_succ] at v0 v1 v2 v3 v4 v5 v6 v7
        have Ho4 := Lib.hid (own_other (own_other hoW (b := wr.heap.size) (by omega) 0 (.int .i64 (-1))) (b := wr.heap.size) (by omega) 0 (.int .i64 pl))
        have Hb4 := Lib.hid ((hbW.setCell (p := ⟨wr.heap.size, 0, none⟩) hwr (.int .i64 (-1))).setCell (p := ⟨wr.heap.size, 0, none⟩) hwr (.int .i64 pl))
        have HC := Lib.hid (HR.out.snoc HBx.out (show Ren L B (B.withPar (((pl : Nat) : Int))) from ⟨_, rfl, fun _ => ⟨pl, rfl, by rw [hll]; exact (hpl hin).1, (hpl hin).2⟩, fun h => absurd hin h⟩))
        have hsz4 := Hb4.out.size
        clear R2 R3 R4 Ho Hb HR hoW hbW hpl
        have hs4 : ((W2.setCell ⟨wr.heap.size, 0, none⟩ (.int .i64 (-1))).setCell ⟨wr.heap.size, 0, none⟩ (.int .i64 pl)).heap.size = wr.heap.size + 1 := by simp; omega
        have hn4 := RL.new ((W2.setCell ⟨wr.heap.size, 0, none⟩ (.int .i64 (-1))).setCell ⟨wr.heap.size, 0, none⟩ (.int .i64 pl)) (B.withPar (((pl : Nat) : Int))).vals 89
        rw [hs4] at hn4
        have Hn := Lib.hid hn4.news
        clear hn4
        go_wp2_with (at_builtin; refine wpList_append_own _ rfl (.tmp 36) (.tmp 38) 38 rfl (w.heap.size + 1) 89 i0 _ 8 64 Try.underlying38 hz hz0 hz1 hz2 rfl (by decide) (.slice (some ⟨g', 0, none⟩) k c') k _ rfl (Ho4.out.alloc _) ⟨wr.heap.size + 1, 0, none⟩ 1 1 (BusV.vals (B.withPar (((pl : Nat) : Int)))) rfl rfl Hn.out (one_vals _) (by unfold maxLen; omega) (by omega) (by simp; omega) ?_; intro v' w25 hown' hgrow hnil; obtain ⟨g2, c2, rfl⟩ := own_form hown'; have Ho6 := Lib.hid hown'; have Hb6 := Lib.hid ((Hb4.out.alloc (by omega) _).grown hgrow (by simp; omega) (by intro x hx; simp [Value.ownBlock] at hx; omega)); clear hown' hgrow hnil)
        go_roundw
        case rel => exact ⟨k + 1, g2, c2, R ++ [B.withPar (((pl : Nat) : Int))], by go_num, rfl, by omega, HC, Lib.hid (by rw [flat_snoc]; exact Ho6.out), Hb6⟩
        case measure => simp [intOf]; omega
      · skip
        have dh : decide (B.par ∈ L) = false := decide_eq_false hin
        simp only [dh]
        have z0 := R2.frozen 0
        have R4 := (R2.set 0 (.int .i64 (-1)))
        simp only [List.set_cons_zero] at R4
        have v0 := R4.cell 0 (by simp)
        have v1 := R4.cell 1 (by simp)
        have v2 := R4.cell 2 (by simp)
        have v3 := R4.cell 3 (by simp)
        have v4 := R4.cell 4 (by simp)
        have v5 := R4.cell 5 (by simp)
        have v6 := R4.cell 6 (by simp)
        have v7 := R4.cell 7 (by simp)
        simp only [List.getD_cons_zero, List.getD_cons_succ] at v0 v1 v2 v3 v4 v5 v6 v7
        have Ho4 := Lib.hid (own_other hoW (b := wr.heap.size) (by omega) 0 (.int .i64 (-1)))
        have Hb4 := Lib.hid (hbW.setCell (p := ⟨wr.heap.size, 0, none⟩) hwr (.int .i64 (-1)))
        have HC := Lib.hid (HR.out.snoc HBx.out (show Ren L B (B.withPar ((-1))) from ⟨_, rfl, fun h => absurd h hin, fun _ => rfl⟩))
        have hsz4 := Hb4.out.size
        clear R2  R4 Ho Hb HR hoW hbW hpl
        have hs4 : (W2.setCell ⟨wr.heap.size, 0, none⟩ (.int .i64 (-1))).heap.size = wr.heap.size + 1 := by simp; omega
        have hn4 := RL.new (W2.setCell ⟨wr.heap.size, 0, none⟩ (.int .i64 (-1))) (B.withPar ((-1))).vals 89
        rw [hs4] at hn4
        have Hn := Lib.hid hn4.news
        clear hn4
        go_wp2_with (at_builtin; refine wpList_append_own _ rfl (.tmp 36) (.tmp 38) 38 rfl (w.heap.size + 1) 89 i0 _ 8 64 Try.underlying38 hz hz0 hz1 hz2 rfl (by decide) (.slice (some ⟨g', 0, none⟩) k c') k _ rfl (Ho4.out.alloc _) ⟨wr.heap.size + 1, 0, none⟩ 1 1 (BusV.vals (B.withPar ((-1)))) rfl rfl Hn.out (one_vals _) (by unfold maxLen; omega) (by omega) (by simp; omega) ?_; intro v' w25 hown' hgrow hnil; obtain ⟨g2, c2, rfl⟩ := own_form hown'; have Ho6 := Lib.hid hown'; have Hb6 := Lib.hid ((Hb4.out.alloc (by omega) _).grown hgrow (by simp; omega) (by intro x hx; simp [Value.ownBlock] at hx; omega)); clear hown' hgrow hnil)
        go_roundw
        case rel => exact ⟨k + 1, g2, c2, R ++ [B.withPar ((-1))], by go_num, rfl, by omega, HC, Lib.hid (by rw [flat_snoc]; exact Ho6.out), Hb6⟩
        case measure => simp [intOf]; omega
    · have e : len = k := by omega
      subst e
      have d1 : decide ((len : Int) < (len : Int)) = false := by simp
      have HE := Lib.hid (Hb0.out.trans (Hb.out.mono (Nat.le_succ _)))
      go_wp2_with fail
      go_ret
      exact ⟨g', c', R, rfl, HR.out, Ho.out, HE.out⟩
end Go.Proofs.Ytbcjgjdkapdihaa
