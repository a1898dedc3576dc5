/-
  Curves in the laws: their sizes, copies, held against one another. No theorem of a claim stands here.
-/
import Derived.Test.YthkjikennlaelaaCurS
set_option linter.unusedVariables false
set_option linter.unusedSimpArgs false
set_option maxRecDepth 8000
namespace Go.Proofs.Ythkjikennlaelaa
open Go Go.RowKit Go.Deep Go.Proofs.Ythkjikennlaelaa.Fl

theorem szF_any (a : Option Addr) (len cap : Nat) (left : Int) (w : World) (h1 : len ≤ 9223372036854775807) (h2 : 0 ≤ left ∧ left ≤ 1048576) :
    Calls Try.prog 58 #[.slice a len cap, .int .i64 left] w fun e w' => e = .returned (.int .i64 (if left - len < 0 then -1 else left - len)) ∧ w' = w := by
  have hw : IntKind.i64.wrap (left - (len : Int)) = left - (len : Int) := by rw [IntWalk.i64_in _ (by omega)]
  by_cases h : left - (len : Int) < 0
  · rw [if_pos h]
    go_enter Try.func58, Try.ntmps58
    go_wp2
    go_ret
    exact ⟨rfl, rfl⟩
  · rw [if_neg h]
    go_enter Try.func58, Try.ntmps58
    go_wp2
    go_ret
    exact ⟨rfl, rfl⟩
def szI (n m : Nat) (left : Int) : Int := if left - n < 0 then -1 else if left - n - m < 0 then -1 else left - n - m
theorem szI_neg {n m : Nat} {left : Int} (h0 : 0 ≤ left) (h : szI n m left < 0) : left < n + m := by
  unfold szI at h
  split at h
  · omega
  · split at h <;> omega
theorem szI_pos {n m : Nat} {left : Int} (h : ¬ szI n m left < 0) : (n : Int) + m ≤ left ∧ szI n m left = left - n - m := by
  unfold szI at h ⊢
  split at h
  · omega
  · rename_i h1
    split at h
    · omega
    · rename_i h2
      rw [if_neg h1, if_neg h2]
      exact ⟨by omega, rfl⟩
theorem szC_any (a : Option Addr) (n c : Nat) (b : Option Addr) (m e : Nat) (left : Int) (w : World) (h1 : n ≤ 9223372036854775807) (h2 : m ≤ 9223372036854775807) (h3 : 0 ≤ left ∧ left ≤ 1048576) :
    Calls Try.prog 27 #[CV a n c b m e, .int .i64 left] w (RB7 (.int .i64 (szI n m left)) w) := by
  have T := bx1 w [.slice a n c, .slice b m e] 45
  have c0 := T.1.cell 0 (by simp)
  have c1 := T.1.cell 1 (by simp)
  simp only [List.getD_cons_zero, List.getD_cons_succ] at c0 c1
  have TB := Lib.hid T.2
  clear T
  have hZ := fun w : World => szF_any a n c left w h1 h3
  unfold CV RB7 szI
  by_cases g1 : left - (n : Int) < 0
  · rw [if_pos g1] at hZ ⊢
    go_enter Try.func27, Try.ntmps27
    go_wp2_with (go_at_call 58; refine (hZ _).mono ?_; clear hZ; rintro en w1 ⟨rfl, rfl⟩)
    go_ret
    exact ⟨rfl, TB.out⟩
  · rw [if_neg g1] at hZ ⊢
    have hY := fun w : World => szF_any b m e (left - n) w h2 (by omega)
    by_cases g2 : left - (n : Int) - (m : Int) < 0
    · rw [if_pos g2] at hY ⊢
      go_enter Try.func27, Try.ntmps27
      go_wp2_with (first | (have h_ := hZ; clear h_; go_at_call 58; refine (hZ _).mono ?_; clear hZ; rintro en w1 ⟨rfl, rfl⟩) | (go_at_call 58; refine (hY _).mono ?_; clear hY; rintro en w2 ⟨rfl, rfl⟩))
      go_ret
      exact ⟨rfl, TB.out⟩
    · rw [if_neg g2] at hY ⊢
      go_enter Try.func27, Try.ntmps27
      go_wp2_with (first | (have h_ := hZ; clear h_; go_at_call 58; refine (hZ _).mono ?_; clear hZ; rintro en w1 ⟨rfl, rfl⟩) | (go_at_call 58; refine (hY _).mono ?_; clear hY; rintro en w2 ⟨rfl, rfl⟩))
      go_ret
      exact ⟨rfl, TB.out⟩
/-- A copy of a curve, in new memory. -/
def CopyP (n m : Nat) (C T : List Nat) (w : World) (en : Ending) (w' : World) : Prop := ∃ g, en = .returned (CV (some ⟨g, 0, none⟩) n n (some ⟨g + 1, 0, none⟩) m m) ∧ w.heap.size ≤ g ∧ OwnF g w' (some ⟨g, 0, none⟩) n C ∧ OwnF (g + 1) w' (some ⟨g + 1, 0, none⟩) m T ∧ w'.heap.size = g + 2 ∧ Below w.heap.size w w'
set_option maxHeartbeats 4000000 in
theorem toC_any (a : Option Addr) (n c : Nat) (C : List Nat) (b : Option Addr) (m e : Nat) (T : List Nat) (w : World) (ha : FRd w a n c C) (hb : FRd w b m e T) (hn : n ≤ 1048576) (hm : m ≤ 1048576) :
    Calls Try.prog 29 #[CV a n c b m e] w (CopyP n m C T w) := by
  have hC : C.length = n := ha.1
  have K := bx3 w [.slice a n c, .slice b m e] [.slice none 0 0, .slice none 0 0] [.slice none 0 0, .slice none 0 0] 45 26 26
  have Ha := Lib.hid ha
  have Hb := Lib.hid hb
  have hsz : (((w.alloc (.cells [Value.slice a n c, .slice b m e].toArray 45)).alloc (.cells [Value.slice none 0 0, .slice none 0 0].toArray 26)).alloc (.cells [Value.slice none 0 0, .slice none 0 0].toArray 26)).heap.size = w.heap.size + 1 + 1 + 1 := by simp
  clear ha hb
  unfold CV CopyP
  go_enter Try.func29, Try.ntmps29
  go_upto_region 2 with fail
  generalize (((w.alloc (.cells [Value.slice a n c, .slice b m e].toArray 45)).alloc (.cells [Value.slice none 0 0, .slice none 0 0].toArray 26)).alloc (.cells [Value.slice none 0 0, .slice none 0 0].toArray 26)) = W at *
  obtain ⟨K1, K2, K3, KB⟩ := K
  have c0 := K1.cell 0 (by simp)
  have c1 := K1.cell 1 (by simp)
  simp only [List.getD_cons_zero, List.getD_cons_succ] at c0 c1
  have K1 := Lib.hid K1
  have K2 := Lib.hid K2
  have K3 := Lib.hid K3
  have KB := Lib.hid KB
  go_wp2_with fail
  refine (copyF_any W a n c C (Ha.out.stays KB.out (Nat.le_refl _)) hn).mono ?_
  rintro en w1 ⟨rfl, hO1, hb1, hs1⟩
  have L1 := Lib.hid (K1.out.below hb1 K1.out.lt)
  have L2 := Lib.hid (K2.out.below hb1 K2.out.lt)
  have L3 := Lib.hid (K3.out.below hb1 K3.out.lt)
  have LB := Lib.hid (KB.out.trans (hb1.mono KB.out.size))
  have HO1 := Lib.hid hO1
  clear K1 K2 K3 KB hb1 c0 c1 hO1
  have c0 := L3.out.cell 0 (by simp)
  have z0 := L3.out.frozen 0
  simp only [List.getD_cons_zero, List.getD_cons_succ] at c0
  rw [hsz] at hs1
  simp only [hsz]
  simp only [hsz] at HO1
  have M1 := Lib.hid (L1.out.other (b := w.heap.size + 1 + 1) (by omega) 0 (.slice (some ⟨w.heap.size + 1 + 1 + 1, 0, none⟩) n n))
  have M2 := Lib.hid (L2.out.other (b := w.heap.size + 1 + 1) (by omega) 0 (.slice (some ⟨w.heap.size + 1 + 1 + 1, 0, none⟩) n n))
  have M3 := Lib.hid (L3.out.set 0 (.slice (some ⟨w.heap.size + 1 + 1 + 1, 0, none⟩) n n))
  have MB := Lib.hid (LB.out.setCell (p := ⟨w.heap.size + 1 + 1, 0, none⟩) (by simp; omega) (.slice (some ⟨w.heap.size + 1 + 1 + 1, 0, none⟩) n n))
  have HO2 := Lib.hid (show OwnF (w.heap.size + 1 + 1 + 1) (w1.setCell ⟨w.heap.size + 1 + 1, 0, none⟩ (.slice (some ⟨w.heap.size + 1 + 1 + 1, 0, none⟩) n n)) (some ⟨w.heap.size + 1 + 1 + 1, 0, none⟩) n C from by
    have := own_other (b := w.heap.size + 1 + 1) (by rw [← hC] at HO1; exact HO1.out) (by omega) 0 (.slice (some ⟨w.heap.size + 1 + 1 + 1, 0, none⟩) n n)
    unfold OwnF; rw [hC] at this ⊢; exact this)
  have hs2 : (w1.setCell ⟨w.heap.size + 1 + 1, 0, none⟩ (.slice (some ⟨w.heap.size + 1 + 1 + 1, 0, none⟩) n n)).heap.size = w.heap.size + 1 + 1 + 1 + 1 := by simp [hs1]
  go_upto_region 3 with fail
  clear L1 L2 L3 LB c0 z0 HO1
  generalize (w1.setCell ⟨w.heap.size + 1 + 1, 0, none⟩ (.slice (some ⟨w.heap.size + 1 + 1 + 1, 0, none⟩) n n)) = W2 at *
  have c1 := M1.out.cell 1 (by simp)
  simp only [List.getD_cons_zero, List.getD_cons_succ] at c1
  go_wp2_with fail
  refine (copyF_any W2 b m e T (Hb.out.stays MB.out (Nat.le_refl _)) hm).mono ?_
  rintro en w3 ⟨rfl, hO3, hb3, hs3⟩
  have N2 := Lib.hid (M2.out.below hb3 M2.out.lt)
  have N3 := Lib.hid (M3.out.below hb3 M3.out.lt)
  have NB := Lib.hid (MB.out.trans (hb3.mono MB.out.size))
  have O1 := Lib.hid (HO2.out.below hb3 (Nat.le_refl _))
  clear M1 M2 M3 MB HO2 c1 hb3
  rw [hs2] at hs3
  simp only [hs2]
  simp only [hs2] at hO3
  have hT : T.length = m := Hb.out.1
  have n0 := N3.out.cell 0 (by simp)
  have n1 := N3.out.cell 1 (by simp)
  have r0 := N2.out.cell 0 (by simp)
  have r1 := N2.out.cell 1 (by simp)
  simp only [List.set_cons_zero, List.set_cons_succ, List.getD_cons_zero, List.getD_cons_succ] at n0 n1 r0 r1
  have y1 := N3.out.frozen 1
  have z0 := N2.out.frozen 0
  have z1 := N2.out.frozen 1
  have P2 := Lib.hid (N2.out.other (b := w.heap.size + 1 + 1) (by omega) 1 (.slice (some ⟨w.heap.size + 1 + 1 + 1 + 1, 0, none⟩) m m))
  have P3 := Lib.hid (N3.out.set 1 (.slice (some ⟨w.heap.size + 1 + 1 + 1 + 1, 0, none⟩) m m))
  have PB := Lib.hid (NB.out.setCell (p := ⟨w.heap.size + 1 + 1, 1, none⟩) (by simp; omega) (.slice (some ⟨w.heap.size + 1 + 1 + 1 + 1, 0, none⟩) m m))
  have ot : ∀ (w5 : World) (g : Nat) (L : List Nat) (k : Nat), L.length = k → OwnF g w5 (some ⟨g, 0, none⟩) k L → ∀ (b i : Nat) (u : Value), g ≠ b → OwnF g (w5.setCell ⟨b, i, none⟩ u) (some ⟨g, 0, none⟩) k L := fun w5 g L k hk h b i u hne => by
    subst hk; exact own_other h hne i u
  have Q1 := Lib.hid (ot _ _ _ _ hC O1.out (w.heap.size + 1 + 1) 1 (.slice (some ⟨w.heap.size + 1 + 1 + 1 + 1, 0, none⟩) m m) (by omega))
  have Q2 := Lib.hid (ot _ _ _ _ hT hO3 (w.heap.size + 1 + 1) 1 (.slice (some ⟨w.heap.size + 1 + 1 + 1 + 1, 0, none⟩) m m) (by omega))
  have hs4 : (w3.setCell ⟨w.heap.size + 1 + 1, 1, none⟩ (.slice (some ⟨w.heap.size + 1 + 1 + 1 + 1, 0, none⟩) m m)).heap.size = w.heap.size + 1 + 1 + 1 + 1 + 1 := by simp [hs3]
  go_upto_region 4 with fail
  clear N2 N3 NB O1 hO3 n0 n1 r0 r1 y1 z0 z1
  generalize (w3.setCell ⟨w.heap.size + 1 + 1, 1, none⟩ (.slice (some ⟨w.heap.size + 1 + 1 + 1 + 1, 0, none⟩) m m)) = W4 at *
  have n0 := P3.out.cell 0 (by simp)
  have n1 := P3.out.cell 1 (by simp)
  have r0 := P2.out.cell 0 (by simp)
  have r1 := P2.out.cell 1 (by simp)
  simp only [List.set_cons_zero, List.set_cons_succ, List.getD_cons_zero, List.getD_cons_succ] at n0 n1 r0 r1
  have z0 := P2.out.frozen 0
  have z1 := P2.out.frozen 1
  go_wp2_with fail
  have RR := (P2.out.set 0 (.slice (some ⟨w.heap.size + 1 + 1 + 1, 0, none⟩) n n)).set 1 (.slice (some ⟨w.heap.size + 1 + 1 + 1 + 1, 0, none⟩) m m)
  have e0 := RR.cell 0 (by simp)
  have e1 := RR.cell 1 (by simp)
  simp only [List.set_cons_zero, List.set_cons_succ, List.getD_cons_zero, List.getD_cons_succ] at e0 e1
  try simp only [Exit.inBlock, Exit.then]
  refine bodyPost_ret (by simp [results, Try.results29, go_sem, e0, e1]; try rfl) rfl ?_
  exact ⟨w.heap.size + 1 + 1 + 1, rfl, by omega, ot _ _ _ _ hC (ot _ _ _ _ hC Q1.out _ _ _ (by omega)) _ _ _ (by omega), ot _ _ _ _ hT (ot _ _ _ _ hT Q2.out _ _ _ (by omega)) _ _ _ (by omega), by simp [hs4], (PB.out.setCell (by simp) _).setCell (by simp) _⟩
/-- What a copy reads as. -/
theorem CopyP.out {n m : Nat} {C T : List Nat} {w : World} {en : Ending} {w' : World} (h : CopyP n m C T w en w') (hC : C.length = n) (hT : T.length = m) (lC : ∀ x ∈ C, x < 2 ^ 32) (lT : ∀ x ∈ T, x < 2 ^ 32) :
    ∃ g, en = .returned (CV (some ⟨g, 0, none⟩) n n (some ⟨g + 1, 0, none⟩) m m) ∧ w.heap.size ≤ g ∧ w'.heap.size = g + 2 ∧ FRd w' (some ⟨g, 0, none⟩) n n C ∧ FRd w' (some ⟨g + 1, 0, none⟩) m m T ∧ Below w.heap.size w w' := by
  obtain ⟨g, h1, h2, h3, h4, h5, h6⟩ := h
  subst hC hT
  exact ⟨g, h1, h2, h5, h3.reads lC, h4.reads lT, h6⟩
set_option maxHeartbeats 4000000 in
theorem eqC_any (a a' : Option Addr) (n c c' : Nat) (C : List Nat) (b b' : Option Addr) (m e e' : Nat) (T : List Nat) (w : World) (h1 : FRd w a n c C) (h2 : FRd w a' n c' C) (h3 : FRd w b m e T) (h4 : FRd w b' m e' T) (hn : n ≤ 1048576) (hm : m ≤ 1048576) :
    Calls Try.prog 30 #[CV a n c b m e, CV a' n c' b' m e'] w (RB7 (.bool true) w) := by
  have K := bx2 w [.slice a n c, .slice b m e] [.slice a' n c', .slice b' m e'] 26 26
  unfold CV RB7
  go_enter Try.func30, Try.ntmps30
  go_upto_region 1 with fail
  generalize ((w.alloc (.cells [Value.slice a n c, .slice b m e].toArray 26)).alloc (.cells [Value.slice a' n c', .slice b' m e'].toArray 26)) = W at *
  obtain ⟨K1, K2, KB⟩ := K
  have c0 := K1.cell 0 (by simp)
  have c1 := K1.cell 1 (by simp)
  have d0 := K2.cell 0 (by simp)
  have d1 := K2.cell 1 (by simp)
  simp only [List.getD_cons_zero, List.getD_cons_succ] at c0 c1 d0 d1
  have KB := Lib.hid KB
  have H1 := Lib.hid (h1.stays KB.out (Nat.le_refl _))
  have H2 := Lib.hid (h2.stays KB.out (Nat.le_refl _))
  have H3 := Lib.hid (h3.stays KB.out (Nat.le_refl _))
  have H4 := Lib.hid (h4.stays KB.out (Nat.le_refl _))
  clear h1 h2 h3 h4 K1 K2
  go_wp2_with fail
  refine (eqF_any W a a' n c c' C H1.out H2.out hn).mono ?_
  rintro en w1 ⟨m1, rfl, rfl⟩
  go_wp2_with fail
  refine (eqF_any (W.drewN m1) b b' m e e' T H3.out H4.out hm).mono ?_
  rintro en w2 ⟨m2, rfl, rfl⟩
  go_wp2_with fail
  go_ret
  exact ⟨rfl, KB.out.trans ((below_drawn W _).mono KB.out.size)⟩
end Go.Proofs.Ythkjikennlaelaa
