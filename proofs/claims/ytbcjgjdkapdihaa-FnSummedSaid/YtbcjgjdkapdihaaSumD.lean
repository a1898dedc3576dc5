/-
  The draws of the law on sums: lengths, a feeder, whole numbers; sums of phases in the specification. No theorem of a claim stands here.
-/
import Derived.Test.YtbcjgjdkapdihaaDrawOk
import Derived.Test.YtbcjgjdkapdihaaFdr
import Derived.Test.YtbcjgjdkapdihaaBytes
import Derived.Test.YtbcjgjdkapdihaaPhs2
import Derived.Test.YtbcjgjdkapdihaaWhole
set_option linter.unusedVariables false
set_option linter.unusedSimpArgs false
set_option maxRecDepth 8000
namespace Go.Proofs.Ytbcjgjdkapdihaa
open Go Go.RowKit Go.Shelf Go.Deep Go.Proofs.Ytbcjgjdkapdihaa.Fl

theorem BRd.stays {p : Nat} {w w' : World} {a : Option Addr} {len cap B : Nat} (h : BRd p w a len cap) (hb : Below B w w') (hB : p ≤ B) : BRd p w' a len cap := by
  obtain ⟨h1, h2, h3, h4⟩ := h
  refine ⟨h1, h2, h3, fun k hk => ?_⟩
  obtain ⟨b, o, v, e, hb2, hv1, hv2, hc⟩ := h4 k hk
  exact ⟨b, o, v, e, hb2, hv1, hv2, (hb.cell (show (⟨b, o + k, none⟩ : Addr).block < B from Nat.lt_of_lt_of_le hb2 hB)).trans hc⟩

theorem bfeeder_any (w : World) (a : Option Addr) (len cap : Nat) (hb : BRd w.heap.size w a len cap) :
    Calls Try.prog 22 #[.slice a len cap] w fun e w' => ∃ (s : Nat → Nat) (gs n c : Nat) (Bs : List BusV), e = .returned (FV s gs n c) ∧ Fdr w' gs n c Bs ∧ n ≤ 6 ∧ w.heap.size ≤ gs ∧ Below w.heap.size w w' := by
  have hst := fun (a : Addr) (x y : Nat) (m : Mode) (w : World) => run_store Try.prog w a (.complex .f32 x y) m rfl
  have R0 := RL.new w [.complex .f32 0 0, .complex .f32 0 0, .complex .f32 0 0, .slice none 0 0] 40
  have hba := bel_alloc w (.cells #[.complex .f32 0 0, .complex .f32 0 0, .complex .f32 0 0, .slice none 0 0] 40)
  have hf := from_any (w.alloc (.cells #[.complex .f32 0 0, .complex .f32 0 0, .complex .f32 0 0, .slice none 0 0] 40)) a len cap (by
    have h := hb.stays hba (Nat.le_refl _)
    obtain ⟨h1, h2, h3, h4⟩ := h
    refine ⟨h1, h2, h3, fun k hk => ?_⟩
    obtain ⟨b, o, v, e, hb2, r⟩ := h4 k hk
    exact ⟨b, o, v, e, by simp; omega, r⟩)
  rw [World.size_alloc] at hf
  go_enter Try.func22, Try.ntmps22
  go_wp2_with fail
  refine hf.mono ?_
  rintro e w1 ⟨rfl, hs, hg⟩
  have hb1 : Below (w.heap.size + 1) (w.alloc (.cells #[.complex .f32 0 0, .complex .f32 0 0, .complex .f32 0 0, .slice none 0 0] 40)) w1 := (Below.refl _ _).grown hg (by simp) (fun k e => by cases e)
  have Hb1 := Lib.hid hb1
  have hd := drawOk_any w1 (w.heap.size + 1) a len cap 0 hs (by omega)
  clear hs hg hb1 hba
  go_wp2_with fail
  refine hd.mono ?_
  rintro e w2 ⟨x0, x1, y0, y1, z0, z1, gs, c, n, Bs, rfl, _, _, _, _, _, _, hn1, hn2, hlen, hG, hown, hb2⟩
  have hsz1 : w.heap.size + 1 ≤ w1.heap.size := by have := Hb1.out.size; simpa using this
  have HO := Lib.hid hown
  have HG := Lib.hid hG
  have Hb2 := Lib.hid ((Hb1.out.trans hb2).mono (Nat.le_succ _))
  have T0 : RL w2 w.heap.size 40 [.complex .f32 0 0, .complex .f32 0 0, .complex .f32 0 0, .slice none 0 0] := RL.below R0 (Hb1.out.trans hb2) (by omega)
  have hgs := (own_lt HO.out).1
  have hnl := (own_lt HO.out).2
  clear hown hG hb2
  have t0 : w2.cell? ⟨w.heap.size, 0, none⟩ = some (.complex .f32 0 0) := T0.cell 0 (by simp)
  have g0 := T0.frozen 0
  have T1 := T0.set 0 (.complex .f32 x0 x1)
  have t1 : (w2.setCell ⟨w.heap.size, 0, none⟩ (.complex .f32 x0 x1)).cell? ⟨w.heap.size, 1, none⟩ = some (.complex .f32 0 0) := T1.cell 1 (by simp)
  have g1 := T1.frozen 1
  have T2 := T1.set 1 (.complex .f32 y0 y1)
  have t2 : ((w2.setCell ⟨w.heap.size, 0, none⟩ (.complex .f32 x0 x1)).setCell ⟨w.heap.size, 1, none⟩ (.complex .f32 y0 y1)).cell? ⟨w.heap.size, 2, none⟩ = some (.complex .f32 0 0) := T2.cell 2 (by simp)
  have g2 := T2.frozen 2
  have T3 := T2.set 2 (.complex .f32 z0 z1)
  have t3 : (((w2.setCell ⟨w.heap.size, 0, none⟩ (.complex .f32 x0 x1)).setCell ⟨w.heap.size, 1, none⟩ (.complex .f32 y0 y1)).setCell ⟨w.heap.size, 2, none⟩ (.complex .f32 z0 z1)).cell? ⟨w.heap.size, 3, none⟩ = some (.slice none 0 0) := T3.cell 3 (by simp)
  have g3 := T3.frozen 3
  have T4 := T3.set 3 (.slice (some ⟨gs, 0, none⟩) n c)
  have v0 : ((((w2.setCell ⟨w.heap.size, 0, none⟩ (.complex .f32 x0 x1)).setCell ⟨w.heap.size, 1, none⟩ (.complex .f32 y0 y1)).setCell ⟨w.heap.size, 2, none⟩ (.complex .f32 z0 z1)).setCell ⟨w.heap.size, 3, none⟩ (.slice (some ⟨gs, 0, none⟩) n c)).cell? ⟨w.heap.size, 0, none⟩ = some (.complex .f32 x0 x1) := T4.cell 0 (by simp)
  have v1 : ((((w2.setCell ⟨w.heap.size, 0, none⟩ (.complex .f32 x0 x1)).setCell ⟨w.heap.size, 1, none⟩ (.complex .f32 y0 y1)).setCell ⟨w.heap.size, 2, none⟩ (.complex .f32 z0 z1)).setCell ⟨w.heap.size, 3, none⟩ (.slice (some ⟨gs, 0, none⟩) n c)).cell? ⟨w.heap.size, 1, none⟩ = some (.complex .f32 y0 y1) := T4.cell 1 (by simp)
  have v2 : ((((w2.setCell ⟨w.heap.size, 0, none⟩ (.complex .f32 x0 x1)).setCell ⟨w.heap.size, 1, none⟩ (.complex .f32 y0 y1)).setCell ⟨w.heap.size, 2, none⟩ (.complex .f32 z0 z1)).setCell ⟨w.heap.size, 3, none⟩ (.slice (some ⟨gs, 0, none⟩) n c)).cell? ⟨w.heap.size, 2, none⟩ = some (.complex .f32 z0 z1) := T4.cell 2 (by simp)
  have v3 : ((((w2.setCell ⟨w.heap.size, 0, none⟩ (.complex .f32 x0 x1)).setCell ⟨w.heap.size, 1, none⟩ (.complex .f32 y0 y1)).setCell ⟨w.heap.size, 2, none⟩ (.complex .f32 z0 z1)).setCell ⟨w.heap.size, 3, none⟩ (.slice (some ⟨gs, 0, none⟩) n c)).cell? ⟨w.heap.size, 3, none⟩ = some (.slice (some ⟨gs, 0, none⟩) n c) := T4.cell 3 (by simp)
  have HO4 := Lib.hid ((own_other (own_other (own_other (own_other HO.out (b := w.heap.size) (by omega) 0 (.complex .f32 x0 x1)) (b := w.heap.size) (by omega) 1 (.complex .f32 y0 y1)) (b := w.heap.size) (by omega) 2 (.complex .f32 z0 z1)) (b := w.heap.size) (by omega) 3 (.slice (some ⟨gs, 0, none⟩) n c)))
  have HB4 := Lib.hid ((((((bel_alloc w _).trans Hb2.out).setCell (p := ⟨w.heap.size, 0, none⟩) (Nat.le_refl _) (.complex .f32 x0 x1)).setCell (p := ⟨w.heap.size, 1, none⟩) (Nat.le_refl _) (.complex .f32 y0 y1)).setCell (p := ⟨w.heap.size, 2, none⟩) (Nat.le_refl _) (.complex .f32 z0 z1)).setCell (p := ⟨w.heap.size, 3, none⟩) (Nat.le_refl _) (.slice (some ⟨gs, 0, none⟩) n c))
  clear T0 T1 T2 T3 T4 R0
  go_wp2_with fail
  try simp only [Exit.inBlock, Exit.then]
  refine bodyPost_ret (by simp [results, Try.results22, go_sem, v0, v1, v2, v3]; try rfl) rfl ?_
  exact ⟨fun i => [x0, x1, y0, y1, z0, z1].getD i 0, gs, n, c, Bs, rfl, ⟨busRd_of HO4.out hlen, hlen, hnl.2.1, hnl.2.2, hn1, by omega, HG.out⟩, hn2, by omega, HB4.out⟩
theorem b10Long_any (a b : Option Addr) (la ca lb cb : Nat) (w : World) : Calls Try.prog 12 #[.slice a la ca, .slice b lb cb] w fun e w' => e = .returned (.bool (decide (1048576 < la ∨ 1048576 < lb))) ∧ w' = w := by
  by_cases c1 : 1048576 < la
  · have d1 : decide ((1048576 : Int) < (la : Int)) = true := by simp; omega
    have e1 : decide (1048576 < la ∨ 1048576 < lb) = true := by simp; omega
    rw [e1]
    go_enter Try.func12, Try.ntmps12
    go_wp2
    go_ret
    exact ⟨rfl, rfl⟩
  · have d1 : decide ((1048576 : Int) < (la : Int)) = false := by simp; omega
    by_cases c2 : 1048576 < lb
    · have d2 : decide ((1048576 : Int) < (lb : Int)) = true := by simp; omega
      have e1 : decide (1048576 < la ∨ 1048576 < lb) = true := by simp; omega
      rw [e1]
      go_enter Try.func12, Try.ntmps12
      go_wp2
      go_ret
      exact ⟨rfl, rfl⟩
    · have d2 : decide ((1048576 : Int) < (lb : Int)) = false := by simp; omega
      have e1 : decide (1048576 < la ∨ 1048576 < lb) = false := by simp; omega
      rw [e1]
      go_enter Try.func12, Try.ntmps12
      go_wp2
      go_ret
      exact ⟨rfl, rfl⟩


theorem own_base {w : World} {base base' : Nat} {e : TypeId} {size : Nat} {v : Value} {n : Nat} {xs : List Value} (h : w.ownsRow base e size v n xs) (hb : base' ≤ base) : w.ownsRow base' e size v n xs := by
  refine ⟨h.1, ?_⟩
  rcases h.2 with h2 | ⟨g, c, cur, e1, h1, h3⟩
  · exact .inl h2
  · exact .inr ⟨g, c, cur, e1, by omega, h3⟩
def cvals (l : List (Nat × Nat)) : List Value := l.map fun n => Value.complex .f32 n.1 n.2
theorem cvals_snoc (l : List (Nat × Nat)) (n : Nat × Nat) : cvals (l ++ [n]) = cvals l ++ [.complex .f32 n.1 n.2] := by simp [cvals]
theorem c_one (n : Nat × Nat) : ∀ u ∈ [Value.complex .f32 n.1 n.2], u.oneCell' = true := by
  intro u hu
  simp at hu
  subst hu
  rfl
theorem infoC64 : (Try.prog.info? 25).map (fun i => (i.zero, i.size, i.bytes)) = some (some (.complex .f32 0 0), 1, 8) := by kernel_rfl
theorem cell_newrowB (w : World) (v : Value) (t : TypeId) : ∀ j u, [v][j]? = some u → (w.alloc (.cells #[v] t)).cell? ((⟨w.heap.size, 0, none⟩ : Addr).add j) = some u := by
  intro j u hu
  have hj : j = 0 := by
    cases j with
    | zero => rfl
    | succ j => simp at hu
  subst hj
  simp at hu
  subst hu
  rw [add_none, Nat.zero_add, World.cell?_alloc_new]
  rfl
theorem ownC_src {base : Nat} {w w' : World} {g c p n : Nat} {l : List (Nat × Nat)} (h : w.ownsRow base 25 1 (.slice (some ⟨g, 0, none⟩) n c) n (cvals l)) (hg : w.grownBy w' (some p)) (hne : g ≠ p) : w'.ownsRow base 25 1 (.slice (some ⟨g, 0, none⟩) n c) n (cvals l) :=
  h.kept hg (.inr fun e => hne (Option.some.inj e))
/-- A list of complex numbers whose parts are whole numbers, at most m in magnitude. -/
def Whole (m : Nat) (l : List (Nat × Nat)) : Prop := ∀ x ∈ l, ∃ A B : Int, Wh .f32 x.1 A ∧ Wh .f32 x.2 B ∧ A.natAbs ≤ m ∧ B.natAbs ≤ m ∧ x.1 < 2 ^ 32 ∧ x.2 < 2 ^ 32
theorem ofInt_lt (n : Int) : floatOfInt .f32 n < 2 ^ 32 := Ieee.Format.nearest_lt _ _ _ _

set_option maxHeartbeats 4000000 in
theorem b10Whole_any (w : World) (a : Option Addr) (len cap n m : Nat) (hb : BRd w.heap.size w a len cap) (hn : n ≤ 100) (hm : m ≤ 1000) :
    Calls Try.prog 33 #[.slice a len cap, .int .i64 n, .int .i64 m] w fun e w' => ∃ (l : List (Nat × Nat)) (g c : Nat), e = .returned (.slice (some ⟨g, 0, none⟩) n c) ∧ l.length = n ∧ Whole m l ∧ w'.ownsRow w.heap.size 25 1 (.slice (some ⟨g, 0, none⟩) n c) n (cvals l) ∧ w.heap.size ≤ g ∧ Below w.heap.size w w' := by
  obtain ⟨i0, hz, hz0, hz1, hz2⟩ := info_parts infoC64
  go_enter Try.func33, Try.ntmps33
  go_wp2_with fail
  refine (from_any _ a len cap hb).mono ?_
  rintro e0 w0 ⟨rfl, gs0, hg0⟩
  have hsz0 := gs0.lt
  have S1 := Lib.hid (gs0.allocd (.cells #[] 25))
  have Hb1 := Lib.hid ((below_src (gweak hg0 (some w.heap.size)) (Nat.le_refl _)).alloc (Nat.le_of_lt hsz0) (.cells #[] 25))
  have Ho1 : Hid ((w0.alloc (.cells #[] 25)).ownsRow w0.heap.size 25 1 (.slice (some ⟨w0.heap.size, 0, none⟩) 0 0) 0 (cvals [])) := Lib.hid (World.ownsRow_lit w0 #[] 0 (Nat.le_refl _) (by simp [maxLen]) rfl)
  clear gs0 hg0 hb
  go_wp2_with fail
  go_loopw [1, 8] (fun N O wr => ∃ (k : Nat) (l : List (Nat × Nat)) (g c j : Nat), N = .int .i64 ((n : Int) - k) ∧ O = .slice (some ⟨g, 0, none⟩) k c ∧ l.length = k ∧ k ≤ n ∧ j ≤ 10 * k ∧ Hid (Whole m l) ∧ w0.heap.size ≤ g ∧ g < wr.heap.size ∧
    Hid (wr.ownsRow w0.heap.size 25 1 (.slice (some ⟨g, 0, none⟩) k c) k (cvals l)) ∧ Hid (Src wr w.heap.size a len cap j) ∧ Hid (Below w.heap.size w wr)) (fun N _ _ => (intOf N).toNat)
  case atStart => exact ⟨0, [], w0.heap.size, 0, 0, by simp, rfl, rfl, Nat.zero_le _, by omega, Lib.hid (fun x hx => by cases hx), Nat.le_refl _, by simp, Ho1, S1, Hb1⟩
  case round =>
    obtain ⟨k, l, g, c, j, rfl, rfl, hl, hk, hj, Hl, hg0, hgs, Ho, Hs, Hw⟩ := hrel
    by_cases hlt : k < n
    · have d1 : decide ((0 : Int) < (n : Int) - (k : Int)) = true := by simp; omega
      have hwsz := Hw.out.size
      go_wp2_with fail
      refine (pick_any _ w.heap.size a len cap _ Hs.out (by omega) (2 * (m : Int) + 1) (by omega) (by omega)).mono ?_
      rintro e1 w1 ⟨v1, j1, rfl, hv10, hv11, hj1, gs1, hg1⟩
      have Hb2 := Lib.hid (Hw.out.trans (below_src hg1 (by omega)))
      have Ho2 := Lib.hid (ownC_src Ho.out hg1 (by omega))
      have S2 := Lib.hid gs1
      have hsz2 := hg1.size
      clear gs1 hg1 Hs Ho Hw
      go_wp2_with fail
      refine (pick_any _ w.heap.size a len cap _ S2.out (by omega) (2 * (m : Int) + 1) (by omega) (by omega)).mono ?_
      rintro e2 w2 ⟨v2, j2, rfl, hv20, hv21, hj2, gs2, hg2⟩
      have Hb3 := Lib.hid (Hb2.out.trans (below_src hg2 (by omega)))
      have Ho3 := Lib.hid (ownC_src Ho2.out hg2 (by omega))
      have S3 := Lib.hid gs2
      have hsz3 := hg2.size
      clear gs2 hg2 S2 Ho2 Hb2
      go_wp2_with (at_builtin; refine wpList_append_own _ rfl (.tmp 25) (.tmp 36) 58 rfl w0.heap.size 25 i0 (.complex .f32 0 0) 1 8 Try.underlying58 hz hz0 hz1 hz2 rfl (by decide) (.slice (some ⟨g, 0, none⟩) k c) k _ rfl (Ho3.out.alloc _) ⟨w2.heap.size, 0, none⟩ 1 1 [.complex .f32 (floatOfInt .f32 (v1 - (m : Int))) (floatOfInt .f32 (v2 - (m : Int)))] rfl (by simp) (cell_newrowB _ _ _) (c_one (floatOfInt .f32 (v1 - (m : Int)), floatOfInt .f32 (v2 - (m : Int)))) (by unfold maxLen; omega) (by omega) (by simp; omega) ?_; intro v' w3 hown' hgrow3 hnil3; obtain ⟨g', c', rfl⟩ := own_form hown'; have hlt' := own_lt hown'; have hg0' := hlt'.1; have hgs' := hlt'.2.1; have hc' := hlt'.2.2; have Hb4 := Lib.hid ((Hb3.out.alloc (by omega) _).grown hgrow3 (by simp; omega) (by intro x hx; simp [Value.ownBlock] at hx; omega)); have S4 := Lib.hid ((S3.out.allocd _).keep hgrow3 (by intro x hx; simp [Value.ownBlock] at hx; omega)); have Ho4 := Lib.hid hown'; clear hown' hgrow3 hnil3)
      go_roundw
      case rel => exact ⟨k + 1, l ++ [(floatOfInt .f32 (v1 - (m : Int)), floatOfInt .f32 (v2 - (m : Int)))], g', c', j2, by go_num, rfl, by simp [hl], hlt, by omega, Lib.hid (fun x hx => by
        rcases List.mem_append.1 hx with h | h
        · exact Hl.out x h
        · simp at h
          subst h
          exact ⟨v1 - m, v2 - m, wh_ofInt .f32 _ (by rw [show FloatKind.f32.format.binade = 8388608 by decide]; omega), wh_ofInt .f32 _ (by rw [show FloatKind.f32.format.binade = 8388608 by decide]; omega), by omega, by omega, ofInt_lt _, ofInt_lt _⟩), hg0', hgs', Lib.hid (by rw [cvals_snoc]; exact Ho4.out), S4, Hb4⟩
      case measure => simp [intOf]; omega
    · obtain rfl : k = n := by omega
      have d1 : decide ((0 : Int) < (k : Int) - (k : Int)) = false := by simp
      go_wp2
      go_ret
      exact ⟨l, g, c, rfl, hl, Hl.out, own_base Ho.out (by omega), by omega, Hw.out⟩
end Go.Proofs.Ytbcjgjdkapdihaa
