/-
  A feeder with another one behind a bus, in the program. No theorem of a claim stands here.
-/
import Derived.Test.YtbcjgjdkapdihaaConcB
import Derived.Deep.RegionWith
set_option linter.unusedVariables false
set_option linter.unusedSimpArgs false
set_option maxRecDepth 8000
namespace Go.Proofs.Ytbcjgjdkapdihaa
open Go Go.RowKit Go.Shelf Go.Deep Go.Proofs.Ytbcjgjdkapdihaa.Fl

/-- The first k of some buses with parents raised by n. -/
def rz (n : Int) (k : Nat) (Ps : List BusV) : List BusV := Ps.mapIdx fun i P => if i < k then P.withPar (P.par + n) else P
theorem rz_len (n : Int) (k : Nat) (Ps : List BusV) : (rz n k Ps).length = Ps.length := by simp [rz]
theorem rz_get (n : Int) (k : Nat) (Ps : List BusV) (i : Nat) (h : i < (rz n k Ps).length) (h' : i < Ps.length) : (rz n k Ps)[i] = if i < k then Ps[i].withPar (Ps[i].par + n) else Ps[i] := by simp [rz]
theorem rz_zero (n : Int) (Ps : List BusV) : rz n 0 Ps = Ps := by
  apply List.ext_getElem
  · simp [rz]
  · intro i h1 h2
    rw [rz_get n 0 Ps i h1 h2, if_neg (Nat.not_lt_zero _)]
theorem BuR.raise {w : World} {g m : Nat} {n : Int} {k : Nat} {Ps : List BusV} (h : BuR w g m (rz n k Ps)) (hk : k < Ps.length) : BuR (w.setCell ⟨g, k * 8, none⟩ (.int .i64 (Ps[k].par + n))) g m (rz n (k + 1) Ps) :=
  h.set (k * 8) _ (by rw [rz_len, rz_len]) (fun j hj hj' q hq => by
    have hl : j < Ps.length := by rwa [rz_len] at hj
    rw [rz_get n _ Ps j hj' hl, rz_get n _ Ps j hj hl]
    by_cases e : j = k
    · subst e
      rw [if_pos (show j < j + 1 by omega), if_neg (show ¬ j < j by omega)]
      obtain rfl | rfl | rfl | rfl | rfl | rfl | rfl | rfl : q = 0 ∨ q = 1 ∨ q = 2 ∨ q = 3 ∨ q = 4 ∨ q = 5 ∨ q = 6 ∨ q = 7 := by omega
      · rw [if_pos (show j * 8 + 0 = j * 8 by omega)]; rfl
      all_goals (rw [if_neg (by omega)]; rfl)
    · rw [if_neg (show ¬ j * 8 + q = k * 8 by omega)]
      by_cases e2 : j < k
      · rw [if_pos (show j < k + 1 by omega), if_pos e2]
      · rw [if_neg (show ¬ j < k + 1 by omega), if_neg e2])

def BusV.led (B : BusV) (b : Nat) (o0 o1 s0 s1 : Nat) : BusV := { B with par := b, o0 := o0, o1 := o1, s0 := s0, s1 := s1 }
/-- What GraftFeeder answers. -/
def GraftPost (w : World) (s : Nat → Nat) (n n2 b o0 o1 s0 s1 : Nat) (Bs Ps : List BusV) (e : Ending) (w' : World) : Prop := ∃ g' c' hd tl, e = .returned (.tuple #[FV s g' (n + n2) c', .bool true]) ∧ rz (n : Int) n2 Ps = hd :: tl ∧ BuR w' g' (n + n2) (Bs ++ hd.led b o0 o1 s0 s1 :: tl) ∧ w.heap.size ≤ g' ∧ n + n2 ≤ c' ∧ c' ≤ maxLen ∧ Below w.heap.size w w'
set_option maxRecDepth 100000 in
set_option maxHeartbeats 8000000 in
theorem graft_any (w : World) (s t : Nat → Nat) (g n c g2 n2 c2 : Nat) (Bs Ps : List BusV) (hF : Fdr w g n c Bs) (hP : Fdr w g2 n2 c2 Ps) (b : Nat) (hb : b < n) (h16 : n + n2 ≤ 16) (o0 o1 s0 s1 : Nat) : Calls Try.prog 64 #[FV s g n c, .int .i64 b, FV t g2 n2 c2, .complex .f32 o0 o1, .complex .f32 s0 s1] w (GraftPost w s n n2 b o0 o1 s0 s1 Bs Ps) := by
  have h1 := hP.one
  have hlp := hP.len
  have hlf := hF.len
  have hst := fun (a : Addr) (x y : Nat) (m : Mode) (w : World) => run_store Try.prog w a (.complex .f32 x y) m rfl
  obtain ⟨T1, T2, T3, TB⟩ := box3 w [.complex .f32 (s 0) (s 1), .complex .f32 (s 2) (s 3), .complex .f32 (s 4) (s 5), .slice (some ⟨g, 0, none⟩) n c] [.complex .f32 (t 0) (t 1), .complex .f32 (t 2) (t 3), .complex .f32 (t 4) (t 5), .slice (some ⟨g2, 0, none⟩) n2 c2] [.complex .f32 0 0, .complex .f32 0 0, .complex .f32 0 0, .slice none 0 0] 40 40 40
  have hsz1 : (((w.alloc (.cells #[.complex .f32 (s 0) (s 1), .complex .f32 (s 2) (s 3), .complex .f32 (s 4) (s 5), .slice (some ⟨g, 0, none⟩) n c] 40)).alloc (.cells #[.complex .f32 (t 0) (t 1), .complex .f32 (t 2) (t 3), .complex .f32 (t 4) (t 5), .slice (some ⟨g2, 0, none⟩) n2 c2] 40)).alloc (.cells #[.complex .f32 0 0, .complex .f32 0 0, .complex .f32 0 0, .slice none 0 0] 40)).heap.size = w.heap.size + 3 := by simp
  have hH := hasBus_any (((w.alloc (.cells #[.complex .f32 (s 0) (s 1), .complex .f32 (s 2) (s 3), .complex .f32 (s 4) (s 5), .slice (some ⟨g, 0, none⟩) n c] 40)).alloc (.cells #[.complex .f32 (t 0) (t 1), .complex .f32 (t 2) (t 3), .complex .f32 (t 4) (t 5), .slice (some ⟨g2, 0, none⟩) n2 c2] 40)).alloc (.cells #[.complex .f32 0 0, .complex .f32 0 0, .complex .f32 0 0, .slice none 0 0] 40)) s g n c Bs (hF.below TB (Nat.le_refl _)) b hb
  have HF := Lib.hid hF
  have HP := Lib.hid hP
  clear hF hP
  unfold GraftPost
  unfold FV at *
  have j0 := T1.cell 0 (by simp)
  have j1 := T1.cell 1 (by simp)
  have j2 := T1.cell 2 (by simp)
  have j3 := T1.cell 3 (by simp)
  simp only [List.getD_cons_zero, List.getD_cons_succ] at j0 j1 j2 j3
  go_enter Try.func64, Try.ntmps64
  go_wp2_with fail
  generalize (((w.alloc (.cells #[.complex .f32 (s 0) (s 1), .complex .f32 (s 2) (s 3), .complex .f32 (s 4) (s 5), .slice (some ⟨g, 0, none⟩) n c] 40)).alloc (.cells #[.complex .f32 (t 0) (t 1), .complex .f32 (t 2) (t 3), .complex .f32 (t 4) (t 5), .slice (some ⟨g2, 0, none⟩) n2 c2] 40)).alloc (.cells #[.complex .f32 0 0, .complex .f32 0 0, .complex .f32 0 0, .slice none 0 0] 40)) = w1 at *
  refine hH.mono ?_
  rintro e w2 ⟨rfl, hb2⟩
  have hsz2 := hb2.size
  have S1 := T1.below hb2 T1.lt
  have S2 := T2.below hb2 T2.lt
  have S3 := T3.below hb2 T3.lt
  have Hb2 := Lib.hid (TB.trans (hb2.mono (by omega)))
  have hV := valid_any w2 t g2 n2 c2 Ps (HP.out.below Hb2.out (Nat.le_refl _))
  unfold FV at hV
  clear hH hb2 TB T1 T2 T3 j0 j1 j2 j3
  have j0 := S2.cell 0 (by simp)
  have j1 := S2.cell 1 (by simp)
  have j2 := S2.cell 2 (by simp)
  have j3 := S2.cell 3 (by simp)
  simp only [List.getD_cons_zero, List.getD_cons_succ] at j0 j1 j2 j3
  go_wp2_with fail
  refine hV.mono ?_
  rintro e w3 ⟨rfl, hb3⟩
  have hsz3 := hb3.size
  have Hb3 := Lib.hid (Hb2.out.trans (hb3.mono (by omega)))
  have R1 := S1.below hb3 S1.lt
  have R2 := S2.below hb3 S2.lt
  have R3 := S3.below hb3 S3.lt
  have d16 : decide ((16 : Int) < (n : Int) + (n2 : Int)) = false := by simp; omega
  have hCl := cloneB_any w3 g2 n2 c2 Ps (by omega) (by omega) hlp (HP.out.below Hb3.out (Nat.le_refl _)).rd
  clear hV hb3 S1 S2 S3 j0 j1 j2 j3
  have i3 := R1.cell 3 (by simp)
  have j3 := R2.cell 3 (by simp)
  simp only [List.getD_cons_zero, List.getD_cons_succ] at i3 j3
  go_wp2_with fail
  refine hCl.mono ?_
  rintro e w4 ⟨gn, cn, rfl, hgn, hBn, hcn1, hcn2, hb4⟩
  have hsz4 := hb4.size
  have Hb4 := Lib.hid (Hb3.out.trans (hb4.mono (by omega)))
  have Q1 := Lib.hid (R1.below hb4 R1.lt)
  have Q3 := Lib.hid (R3.below hb4 R3.lt)
  have HBn := Lib.hid (show BuR w4 gn n2 (rz (n : Int) 0 Ps) by rw [rz_zero]; exact hBn)
  have hbc : Below gn w4 w4 := Below.refl _ _
  have Hbc := Lib.hid hbc
  clear hCl hb4 R1 R2 R3 i3 j3 hBn hbc
  go_wp2_with fail
  go_loopw [39] (fun I wr => ∃ k : Nat, I = .int .i64 k ∧ k ≤ n2 ∧ Hid (BuR wr gn n2 (rz (n : Int) k Ps)) ∧ Hid (Below gn w4 wr)) (fun I _ => n2 - (intOf I).toNat)
  case atStart => exact ⟨0, rfl, Nat.zero_le _, HBn, Hbc⟩
  case round =>
    obtain ⟨k, rfl, hk, HB, Hw⟩ := hrel
    by_cases hlt : k < n2
    · have d1 : decide ((k : Int) < (n2 : Int)) = true := by simp; omega
      have hkl : k < Ps.length := by omega
      have hkr : k < (rz (n : Int) k Ps).length := by rw [rz_len]; exact hkl
      have hG := HP.out.good k hkl
      have hpar : -1 ≤ Ps[k].par ∧ Ps[k].par < k := by
        by_cases h0 : k = 0
        · have := (hG.root h0).1; omega
        · have := hG.par (by omega); omega
      have e0 : wr.cell? ⟨gn, k * 8, none⟩ = some (.int .i64 Ps[k].par) := by
        have h := HB.out.rd.2 k hkr 0 (by omega)
        rw [rz_get _ _ _ _ hkr hkl, if_neg (by omega)] at h
        exact h
      have e3 : wr.cell? ⟨w.heap.size, 3, none⟩ = some (.slice (some ⟨g, 0, none⟩) n c) := (Q1.out.below Hw.out (by omega)).cell 3 (by simp)
      have HN := Lib.hid (fun (w' : World) (h : Below wr.heap.size wr w') => (HB.out.below h HB.out.lt).raise hkl)
      have c0 := fun y : Grown wr => y.cell e0
      have c3 := fun y : Grown wr => y.cell e3
      have hfz := fun y : Grown wr => (HB.out.below y.2 HB.out.lt).frozen (k * 8)
      generalize Ps[k].par = pk at *
      go_wp2_with fail
      refine wp_grown_tail 11 (by kernel_rfl) (by kernel_rfl) ?_
      simp only [List.take_succ_cons, List.take_zero, List.drop_succ_cons, List.drop_zero]
      repeat (go_big_quiet_step (first | fail))
      refine wpQuiet_nil ?_
      rintro _ ⟨y, rfl⟩
      have H5 := Lib.hid (HN.out _ y.2)
      have f0 := hfz y
      have z0 := c0 y
      have Hb5 := Lib.hid ((Hw.out.trans (y.2.mono (by have := HB.out.lt; omega))).setCell (p := ⟨gn, k * 8, none⟩) (Nat.le_refl _) (.int .i64 (pk + (n : Int))))
      generalize y.1 = W5 at *
      clear c0 c3 hfz
      go_wp2_with fail
      go_roundw
      case rel => exact ⟨k + 1, by go_num, by omega, H5, Hb5⟩
      case measure => simp [intOf]; omega
    · have e : n2 = k := by omega
      subst e
      have d1 : decide ((n2 : Int) < (n2 : Int)) = false := by simp
      obtain ⟨hd, tl, hrz⟩ : ∃ hd tl, rz (n : Int) n2 Ps = hd :: tl := by
        cases h : rz (n : Int) n2 Ps with
        | nil => have := rz_len (n : Int) n2 Ps; rw [h] at this; simp at this; omega
        | cons a l => exact ⟨a, l, rfl⟩
      have hB1 := HB.out
      rw [hrz] at hB1
      have hB2 : BuR (wr.setCell ⟨gn, 0, none⟩ (.int .i64 b)) gn n2 (hd.withPar b :: tl) := hB1.set 0 _ (by simp) (fun k hk hk' q hq => by
        cases k with
        | zero =>
          obtain rfl | rfl | rfl | rfl | rfl | rfl | rfl | rfl : q = 0 ∨ q = 1 ∨ q = 2 ∨ q = 3 ∨ q = 4 ∨ q = 5 ∨ q = 6 ∨ q = 7 := by omega
          all_goals rfl
        | succ k => rw [if_neg (by omega)]; rfl)
      have hB3 : BuR ((wr.setCell ⟨gn, 0, none⟩ (.int .i64 b)).setCell ⟨gn, 1, none⟩ (.complex .f32 o0 o1)) gn n2 ({ hd.withPar b with o0 := o0, o1 := o1 } :: tl) := hB2.set 1 _ (by simp) (fun k hk hk' q hq => by
        cases k with
        | zero =>
          obtain rfl | rfl | rfl | rfl | rfl | rfl | rfl | rfl : q = 0 ∨ q = 1 ∨ q = 2 ∨ q = 3 ∨ q = 4 ∨ q = 5 ∨ q = 6 ∨ q = 7 := by omega
          all_goals rfl
        | succ k => rw [if_neg (by omega)]; rfl)
      have hB4 : BuR (((wr.setCell ⟨gn, 0, none⟩ (.int .i64 b)).setCell ⟨gn, 1, none⟩ (.complex .f32 o0 o1)).setCell ⟨gn, 2, none⟩ (.complex .f32 s0 s1)) gn n2 (hd.led b o0 o1 s0 s1 :: tl) := hB3.set 2 _ (by simp) (fun k hk hk' q hq => by
        cases k with
        | zero =>
          obtain rfl | rfl | rfl | rfl | rfl | rfl | rfl | rfl : q = 0 ∨ q = 1 ∨ q = 2 ∨ q = 3 ∨ q = 4 ∨ q = 5 ∨ q = 6 ∨ q = 7 := by omega
          all_goals rfl
        | succ k => rw [if_neg (by omega)]; rfl)
      have x0 : wr.cell? ⟨gn, 0, none⟩ = some (.int .i64 hd.par) := hB1.rd.2 0 (by simp) 0 (by omega)
      have x1 : (wr.setCell ⟨gn, 0, none⟩ (.int .i64 b)).cell? ⟨gn, 1, none⟩ = some (.complex .f32 hd.o0 hd.o1) := hB2.rd.2 0 (by simp) 1 (by omega)
      have x2 : ((wr.setCell ⟨gn, 0, none⟩ (.int .i64 b)).setCell ⟨gn, 1, none⟩ (.complex .f32 o0 o1)).cell? ⟨gn, 2, none⟩ = some (.complex .f32 hd.s0 hd.s1) := hB3.rd.2 0 (by simp) 2 (by omega)
      have y0 := hB1.frozen 0
      have y1 := hB2.frozen 1
      have y2 := hB3.frozen 2
      have Hb5 := Lib.hid (((Hw.out.setCell (p := ⟨gn, 0, none⟩) (Nat.le_refl _) (.int .i64 b)).setCell (p := ⟨gn, 1, none⟩) (Nat.le_refl _) (.complex .f32 o0 o1)).setCell (p := ⟨gn, 2, none⟩) (Nat.le_refl _) (.complex .f32 s0 s1))
      have HB4 := Lib.hid hB4
      have Hrz := Lib.hid hrz
      clear hB1 hB2 hB3 hB4 hrz
      have hgw : w.heap.size + 3 ≤ gn := by omega
      have hkn : 1 ≤ n := by omega
      clear Hw HB
      go_wp2_with fail
      generalize hW5 : (((wr.setCell ⟨gn, 0, none⟩ (.int .i64 b)).setCell ⟨gn, 1, none⟩ (.complex .f32 o0 o1)).setCell ⟨gn, 2, none⟩ (.complex .f32 s0 s1)) = W5 at *
      clear hW5 x0 x1 x2 y0 y1 y2 hst
      have hgn5 := HB4.out.lt
      have Hw5 := Lib.hid (Hb4.out.trans (Hb5.out.mono (by omega)))
      have K5 := Lib.hid (Q1.out.below Hb5.out (by omega))
      have Z5 := Lib.hid (Q3.out.below Hb5.out (by omega))
      have hd5 : Below W5.heap.size W5 W5.drew := ⟨rfl, rfl, rfl, Nat.le_refl _, fun _ _ => rfl⟩
      have h6 : Below W5.heap.size W5 (W5.drew.alloc (.cells #[.slice (some ⟨g, 0, none⟩) n c, .slice (some ⟨gn, 0, none⟩) n2 cn] 38)) := hd5.alloc (Nat.le_refl _) _
      have R6 := RL.new W5.drew [.slice (some ⟨g, 0, none⟩) n c, .slice (some ⟨gn, 0, none⟩) n2 cn] 38
      have hCC : Calls Try.prog 142 #[.slice (some ⟨W5.heap.size, 0, none⟩) 2 2] (W5.drew.alloc (.cells #[.slice (some ⟨g, 0, none⟩) n c, .slice (some ⟨gn, 0, none⟩) n2 cn] 38)) fun e w9 => ∃ g' c', e = .returned (.slice (some ⟨g', 0, none⟩) (n + n2) c') ∧ Hid (BuR w9 g' (n + n2) (Bs ++ hd.led b o0 o1 s0 s1 :: tl) ∧ W5.heap.size ≤ g' ∧ n + n2 ≤ c' ∧ c' ≤ maxLen ∧ Below W5.heap.size W5 w9 ∧ RL w9 (w.heap.size + 1 + 1) 40 [.complex .f32 0 0, .complex .f32 0 0, .complex .f32 0 0, .slice none 0 0] ) ∧
          w9.cell? ⟨w.heap.size, 0, none⟩ = some (.complex .f32 (s 0) (s 1)) ∧ w9.cell? ⟨w.heap.size, 1, none⟩ = some (.complex .f32 (s 2) (s 3)) ∧ w9.cell? ⟨w.heap.size, 2, none⟩ = some (.complex .f32 (s 4) (s 5)) ∧ w9.cell? ⟨w.heap.size + 1 + 1, 0, none⟩ = some (.complex .f32 0 0) ∧ w9.cell? ⟨w.heap.size + 1 + 1, 1, none⟩ = some (.complex .f32 0 0) ∧ w9.cell? ⟨w.heap.size + 1 + 1, 2, none⟩ = some (.complex .f32 0 0) ∧ w9.cell? ⟨w.heap.size + 1 + 1, 3, none⟩ = some (.slice none 0 0) ∧
          w9.frozen? ⟨w.heap.size + 1 + 1, 0, none⟩ = false ∧ w9.frozen? ⟨w.heap.size + 1 + 1, 1, none⟩ = false ∧ w9.frozen? ⟨w.heap.size + 1 + 1, 2, none⟩ = false ∧ w9.frozen? ⟨w.heap.size + 1 + 1, 3, none⟩ = false :=
        (concat_any (W5.drew.alloc (.cells #[.slice (some ⟨g, 0, none⟩) n c, .slice (some ⟨gn, 0, none⟩) n2 cn] 38)) W5.heap.size g n c gn n2 cn Bs (hd.led b o0 o1 s0 s1 :: tl) hlf HB4.out.1 hkn h1 h16 (HF.out.below (Hw5.out.trans (h6.mono Hw5.out.size)) (Nat.le_refl _)).rd (HB4.out.below h6 hgn5).rd (R6.cell 0 (by simp)) (R6.cell 1 (by simp))).mono (fun e w9 hh => by
          obtain ⟨g', c', rfl, hown, hb9⟩ := hh
          have h9 : Below W5.heap.size W5 w9 := h6.trans (hb9.mono h6.size)
          have hlo := own_lt hown
          have hs6 := h6.size
          have K := K5.out.below h9 (by omega)
          have Z := Z5.out.below h9 (by omega)
          exact ⟨g', c', rfl, Lib.hid ⟨buR_own hown (by rw [List.length_append, hlf, HB4.out.1]), by omega, hlo.2.2.1, hlo.2.2.2, h9, Z⟩, K.cell 0 (by simp), K.cell 1 (by simp), K.cell 2 (by simp), Z.cell 0 (by simp), Z.cell 1 (by simp), Z.cell 2 (by simp), Z.cell 3 (by simp), Z.frozen 0, Z.frozen 1, Z.frozen 2, Z.frozen 3⟩)
      have a0 := K5.out.cell 0 (by simp)
      have a1 := K5.out.cell 1 (by simp)
      have a2 := K5.out.cell 2 (by simp)
      have a3 := K5.out.cell 3 (by simp)
      simp only [List.getD_cons_zero, List.getD_cons_succ] at a0 a1 a2 a3
      have K6 := K5.out.below (bel_alloc W5 (.cells #[.slice (some ⟨g, 0, none⟩) n c, .slice (some ⟨gn, 0, none⟩) n2 cn] 38)) (by omega)
      have b0 := K6.cell 0 (by simp)
      have b1 := K6.cell 1 (by simp)
      have b2 := K6.cell 2 (by simp)
      simp only [List.getD_cons_zero, List.getD_cons_succ] at b0 b1 b2
      clear R6 h6 hd5 K6
      have hst := fun (a : Addr) (x y : Nat) (m : Mode) (w : World) => run_store Try.prog w a (.complex .f32 x y) m rfl
      have HE := Lib.hid Hw5.out
      clear K5 Z5 Hb5 HB4 Hw5 HF HP Hb2 Hb3 Hb4 Q1 Q3 HBn Hbc d16
      go_region_with (go_at_call 142; refine hCC.mono ?_; rintro e w9 ⟨g', c', rfl, HH, k0, k1', k2', z0, z1, z2, z3, y0', y1', y2', y3'⟩)
      all_goals
        have R9 := (((HH.out.2.2.2.2.2.set 0 (.complex .f32 (s 0) (s 1))).set 1 (.complex .f32 (s 2) (s 3))).set 2 (.complex .f32 (s 4) (s 5))).set 3 (.slice (some ⟨g', 0, none⟩) (n + n2) c')
        have v0 := R9.cell 0 (by simp)
        have v1 := R9.cell 1 (by simp)
        have v2 := R9.cell 2 (by simp)
        have v3 := R9.cell 3 (by simp)
        simp only [List.set_cons_zero, List.set_cons_succ, List.getD_cons_zero, List.getD_cons_succ] at v0 v1 v2 v3
        have hge := HH.out.2.1
        have HE9 := Lib.hid (((((HE.out.trans (HH.out.2.2.2.2.1.mono (by omega))).setCell (p := ⟨w.heap.size + 1 + 1, 0, none⟩) (by show _ ≤ w.heap.size + 1 + 1; omega) (.complex .f32 (s 0) (s 1))).setCell (p := ⟨w.heap.size + 1 + 1, 1, none⟩) (by show _ ≤ w.heap.size + 1 + 1; omega) (.complex .f32 (s 2) (s 3))).setCell (p := ⟨w.heap.size + 1 + 1, 2, none⟩) (by show _ ≤ w.heap.size + 1 + 1; omega) (.complex .f32 (s 4) (s 5))).setCell (p := ⟨w.heap.size + 1 + 1, 3, none⟩) (by show _ ≤ w.heap.size + 1 + 1; omega) (.slice (some ⟨g', 0, none⟩) (n + n2) c'))
        have HO := Lib.hid ((((HH.out.1.other (b := w.heap.size + 1 + 1) (by omega) 0 (.complex .f32 (s 0) (s 1))).other (b := w.heap.size + 1 + 1) (by omega) 1 (.complex .f32 (s 2) (s 3))).other (b := w.heap.size + 1 + 1) (by omega) 2 (.complex .f32 (s 4) (s 5))).other (b := w.heap.size + 1 + 1) (by omega) 3 (.slice (some ⟨g', 0, none⟩) (n + n2) c'))
        clear R9
        go_wp2_with fail
        try simp only [Exit.inBlock, Exit.then]
        refine bodyPost_ret (by simp [results, Try.results64, go_sem, v0, v1, v2, v3]; try rfl) rfl ?_
        exact ⟨g', c', hd, tl, rfl, Hrz.out, HO.out, by omega, HH.out.2.2.1, HH.out.2.2.2.1, HE9.out⟩
end Go.Proofs.Ytbcjgjdkapdihaa
