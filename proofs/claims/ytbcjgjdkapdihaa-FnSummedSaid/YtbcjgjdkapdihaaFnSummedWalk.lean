/-
  The law on sums, walked. No theorem of a claim stands here.
-/
import Derived.Test.YtbcjgjdkapdihaaSumT
import Derived.Test.YtbcjgjdkapdihaaQFirst
set_option linter.unusedVariables false
set_option linter.unusedSimpArgs false
set_option maxRecDepth 8000
namespace Go.Proofs.Ytbcjgjdkapdihaa
open Go Go.RowKit Go.Shelf Go.Deep Go.Proofs.Ytbcjgjdkapdihaa.Fl

/-- The state that is carried from call to call. -/
def TS (W w : World) (p gs n c : Nat) (s : Nat → Nat) (Bs : List BusV) : Prop :=
  Below W.heap.size W w ∧ Fdr w gs n c Bs ∧ RL w p 40 [.complex .f32 (s 0) (s 1), .complex .f32 (s 2) (s 3), .complex .f32 (s 4) (s 5), .slice (some ⟨gs, 0, none⟩) n c]
theorem TS.step {W w w' : World} {p gs n c : Nat} {s : Nat → Nat} {Bs : List BusV} (h : TS W w p gs n c s Bs) (hb : Below w.heap.size w w') : TS W w' p gs n c s Bs :=
  ⟨h.1.trans (hb.mono h.1.size), h.2.1.below hb (Nat.le_refl _), h.2.2.below hb h.2.2.lt⟩
theorem TS.four {W w : World} {p gs n c : Nat} {s : Nat → Nat} {Bs : List BusV} (h : TS W w p gs n c s Bs) : w.cell? ⟨p, 0, none⟩ = some (.complex .f32 (s 0) (s 1)) ∧ w.cell? ⟨p, 1, none⟩ = some (.complex .f32 (s 2) (s 3)) ∧ w.cell? ⟨p, 2, none⟩ = some (.complex .f32 (s 4) (s 5)) ∧ w.cell? ⟨p, 3, none⟩ = some (.slice (some ⟨gs, 0, none⟩) n c) :=
  ⟨h.2.2.cell 0 (by simp), h.2.2.cell 1 (by simp), h.2.2.cell 2 (by simp), h.2.2.cell 3 (by simp)⟩
theorem brd_up {p q : Nat} {w : World} {a : Option Addr} {len cap : Nat} (h : BRd p w a len cap) (hq : p ≤ q) : BRd q w a len cap := by
  obtain ⟨h1, h2, h3, h4⟩ := h
  refine ⟨h1, h2, h3, fun k hk => ?_⟩
  obtain ⟨b, o, v, e, hbp, hv⟩ := h4 k hk
  exact ⟨b, o, v, e, by omega, hv⟩
theorem own_stay {w w' : World} {base B : Nat} {e : TypeId} {size : Nat} {v : Value} {n : Nat} {xs : List Value} (h : w.ownsRow base e size v n xs) (hb : Below B w w') (hB : w.heap.size ≤ B) : w'.ownsRow base e size v n xs := by
  refine ⟨h.1, ?_⟩
  rcases h.2 with h2 | ⟨g, c, cur, e1, h1, h2, h3⟩
  · exact .inl h2
  · have := (Array.getElem?_eq_some_iff.1 h2).1
    exact .inr ⟨g, c, cur, e1, h1, by rw [hb.block g (by omega)]; exact h2, h3⟩
theorem cvals_cell {w : World} {base g n c : Nat} {l : List (Nat × Nat)} (h : w.ownsRow base 25 1 (.slice (some ⟨g, 0, none⟩) n c) n (cvals l)) (hl : l.length = n) (m : Nat) (hm : m < n) : w.cell? ⟨g, m, none⟩ = some (.complex .f32 (l.getD m (0, 0)).1 (l.getD m (0, 0)).2) := by
  rcases h.2 with ⟨h2, _⟩ | ⟨g2, c2, cur, e1, h1, h2, h3, h4, h5, h6⟩
  · cases h2
  · simp at e1
    obtain ⟨rfl, rfl⟩ := e1
    have hr : w.rowIs g 25 (c * 1) (fun i => cur.getD i (.bool false)) := ⟨cur, h2, h5, fun i hi => by
      have : i < cur.size := by omega
      simp [Array.getD, this]⟩
    have hc := hr.cell (i := m) (by omega)
    have hp : (cvals l)[m]? = some (.complex .f32 (l.getD m (0, 0)).1 (l.getD m (0, 0)).2) := by
      unfold cvals
      rw [List.getElem?_map, List.getElem?_eq_getElem (show m < l.length by omega)]
      simp [List.getD, show m < l.length by omega]
    rw [← h6, List.getElem?_take, if_pos (by omega), Array.getElem?_toList] at hp
    rw [hc]
    simp [hp]
def LL (l : List (Nat × Nat)) (i q : Nat) : Nat := if q % 2 = 0 then (l.getD (3 * i + q / 2) (0, 0)).1 else (l.getD (3 * i + q / 2) (0, 0)).2
theorem ll_cells (l : List (Nat × Nat)) (i : Nat) : [pcell (LL l) i 0, pcell (LL l) i 1, pcell (LL l) i 2] = [.complex .f32 (l.getD (3 * i) (0, 0)).1 (l.getD (3 * i) (0, 0)).2, .complex .f32 (l.getD (3 * i + 1) (0, 0)).1 (l.getD (3 * i + 1) (0, 0)).2, .complex .f32 (l.getD (3 * i + 2) (0, 0)).1 (l.getD (3 * i + 2) (0, 0)).2] := rfl
theorem plist_succ (S : Nat → Nat → Nat) (n : Nat) : plist S (n + 1) = plist S n ++ [pcell S n 0, pcell S n 1, pcell S n 2] := rfl
theorem vv_of {l : List (Nat × Nat)} (h : Whole 50 l) {n : Nat} (hl : l.length = 3 * n) : ∃ V : Nat → Nat → Int, (∀ i, i < n → ∀ q, q < 6 → Dy .f32 0 (LL l i q) (V q i)) ∧ ∀ q i, (V q i).natAbs ≤ 50 := by
  have hex : ∀ i q, i < n → q < 6 → ∃ A : Int, Dy .f32 0 (LL l i q) A ∧ A.natAbs ≤ 50 := by
    intro i q hi hq
    have hk : 3 * i + q / 2 < l.length := by omega
    obtain ⟨A, B, hA, hB, a1, b1, _⟩ := h (l.getD (3 * i + q / 2) (0, 0)) (by rw [List.getD_eq_getElem?_getD, List.getElem?_eq_getElem hk]; exact List.getElem_mem hk)
    unfold LL
    by_cases e : q % 2 = 0
    · exact ⟨A, by rw [if_pos e]; exact wh_dy hA, a1⟩
    · exact ⟨B, by rw [if_neg e]; exact wh_dy hB, b1⟩
  refine ⟨fun q i => if h : i < n ∧ q < 6 then (hex i q h.1 h.2).choose else 0, fun i hi q hq => ?_, fun q i => ?_⟩
  · simp only [hi, hq, and_self, dif_pos]
    exact (hex i q hi hq).choose_spec.1
  · by_cases e : i < n ∧ q < 6
    · simp only [e, and_self, dif_pos]
      exact (hex i q e.1 e.2).choose_spec.2
    · simp only [e, dif_neg]
      simp
theorem dy_nil : Dy .f32 0 0 0 := ⟨by decide, by decide, fun h => absurd rfl h⟩
theorem same_dy {a b : Nat} {n : Int} (ha : Dy .f32 0 a n) (hb : Dy .f32 0 b n) : Op.floatEq .f32 a b = true := by
  simp [Op.floatEq, dy_order ha hb]
theorem run_ne {a b c d : Nat} {n m : Int} (ha : Dy .f32 0 a n) (hc : Dy .f32 0 c n) (hb : Dy .f32 0 b m) (hd : Dy .f32 0 d m) (w : World) : (binOp .neq 25 (.complex .f32 a b) (.complex .f32 c d)).run Try.prog w = .ok (.bool false) w := by
  have e1 := same_dy ha hc
  have e2 := same_dy hb hd
  simp [go_sem]
  exact ⟨by rw [dy_order ha hc]; simp, by rw [dy_order hb hd]; simp⟩

set_option maxRecDepth 100000 in
set_option maxHeartbeats 8000000 in
theorem walk (a0 : Option Addr) (len0 cap0 : Nat) (a1 : Option Addr) (len1 cap1 : Nat) (W : World) (h0 : Rd8 W a0 len0 cap0) (h1 : Rd8 W a1 len1 cap1) : Calls Try.prog 5 #[.slice a0 len0 cap0, .slice a1 len1 cap1] W fun e w' => e = .returned (.bool true) ∧ Below W.heap.size W w' := by
  have hL := b10Long_any a0 a1 len0 cap0 len1 cap1 W
  have hst := fun (a : Addr) (x y : Nat) (m : Mode) (w : World) => run_store Try.prog w a (.complex .f32 x y) m rfl
  obtain ⟨i0, hz, hz0, hz1, hz2⟩ := info_parts infoPh
  by_cases hlong : 1048576 < len0 ∨ 1048576 < len1
  · rw [decide_eq_true hlong] at hL
    go_enter Try.func5, Try.ntmps5
    go_wp2_with fail
    refine hL.mono ?_
    rintro e w1 ⟨rfl, rfl⟩
    go_wp2_with fail
    go_ret
    exact ⟨rfl, Below.refl _ _⟩
  · rw [decide_eq_false hlong] at hL
    have B0 := h0.bytes (by omega)
    have B1 := Lib.hid (h1.bytes (by omega))
    have hWl := bfeeder_any W a0 len0 cap0 B0
    clear B0 h0 h1
    go_enter Try.func5, Try.ntmps5
    go_wp2_with fail
    refine hL.mono ?_
    rintro e w1 ⟨rfl, hw1⟩
    have hw2 := hw1.symm
    subst hw2
    go_wp2_with fail
    refine hWl.mono ?_
    rintro e w1 ⟨s, gs, n, c, Bs, rfl, hF, hn6, hgs, hb⟩
    unfold FV
    have hn1 := hF.one
    have hcn := hF.cap
    have hnc := hF.len
    have hG := Lib.hid hF.good
    have T2 := Lib.hid (show TS W (w1.alloc (.cells #[.complex .f32 (s 0) (s 1), .complex .f32 (s 2) (s 3), .complex .f32 (s 4) (s 5), .slice (some ⟨gs, 0, none⟩) n c] 40)) w1.heap.size gs n c s Bs from ⟨hb.alloc hb.size _, hF.below (bel_alloc w1 _) (Nat.le_refl _), RL.new w1 [.complex .f32 (s 0) (s 1), .complex .f32 (s 2) (s 3), .complex .f32 (s 4) (s 5), .slice (some ⟨gs, 0, none⟩) n c] _⟩)
    have hlen : Bs.length = n := hnc
    clear hF hb hnc
    have hc3 : (w1.alloc (.cells #[.complex .f32 (s 0) (s 1), .complex .f32 (s 2) (s 3), .complex .f32 (s 4) (s 5), .slice (some ⟨gs, 0, none⟩) n c] 40)).cell? ⟨w1.heap.size, 3, none⟩ = some (.slice (some ⟨gs, 0, none⟩) n c) := T2.out.four.2.2.2
    have hWh := b10Whole_any (w1.alloc (.cells #[.complex .f32 (s 0) (s 1), .complex .f32 (s 2) (s 3), .complex .f32 (s 4) (s 5), .slice (some ⟨gs, 0, none⟩) n c] 40)) a1 len1 cap1 (3 * n) 50 (brd_up (B1.out.stays T2.out.1 (Nat.le_refl _)) T2.out.1.size) (by omega) (by omega)
    rw [show ((3 * n : Nat) : Int) = 3 * (n : Int) by omega, show ((50 : Nat) : Int) = 50 from rfl] at hWh
    go_wp2_with fail
    generalize (w1.alloc (.cells #[.complex .f32 (s 0) (s 1), .complex .f32 (s 2) (s 3), .complex .f32 (s 4) (s 5), .slice (some ⟨gs, 0, none⟩) n c] 40)) = w2 at *
    generalize w1.heap.size = p at *
    refine hWh.mono ?_
    rintro e w3 ⟨l, gl, cl, rfl, hl, hwh, hown, hgl, hb3⟩
    have hcl := own_lt hown
    obtain ⟨N3, hN3⟩ : ∃ N3, N3 = 3 * n := ⟨_, rfl⟩
    rw [← hN3] at hl hown hcl
    rw [show (3 * n : Nat) = N3 from hN3.symm]
    obtain ⟨VV, hVD, hV50⟩ := vv_of hwh (n := n) (by omega)
    have T3 := Lib.hid (T2.out.step hb3)
    have Hl := Lib.hid hown
    have HVD := Lib.hid hVD
    have HV50 := Lib.hid hV50
    have Hll := Lib.hid hl
    have HN3 := Lib.hid hN3
    clear hown hWh hb3 hwh hVD hV50 hl T2 hc3 hWl hL
    have Ho1 : Hid ((w3.alloc (.cells #[] 37)).ownsRow w3.heap.size 37 3 (.slice (some ⟨w3.heap.size, 0, none⟩) 0 0) 0 (plist (LL l) 0)) := Lib.hid (World.ownsRow_lit w3 #[] 0 (Nat.le_refl _) (by simp [maxLen]) rfl)
    have Hb1 := Lib.hid (bel_alloc w3 (.cells #[] 37))
    clear hN3
    go_wp2_with fail
    go_loopw [8, 9] (fun O I wr => ∃ (k g2 c2 : Nat), O = .slice (some ⟨g2, 0, none⟩) k c2 ∧ I = .int .i64 k ∧ k ≤ n ∧ w3.heap.size ≤ g2 ∧ Hid (wr.ownsRow w3.heap.size 37 3 (.slice (some ⟨g2, 0, none⟩) k c2) k (plist (LL l) k)) ∧ Hid (Below w3.heap.size w3 wr)) (fun _ I _ => n - (intOf I).toNat)
    case atStart => exact ⟨0, w3.heap.size, 0, rfl, rfl, Nat.zero_le _, Nat.le_refl _, Ho1, Hb1⟩
    case round =>
      obtain ⟨k, g2, c2, rfl, rfl, hk, hg2, Ho, Hb⟩ := hrel
      by_cases hlt : k < n
      · have d1 : decide ((k : Int) < (n : Int)) = true := by simp; omega
        have hN := HN3.out
        obtain ⟨k3, hk3⟩ : ∃ k3 : Nat, k3 = 3 * k := ⟨_, rfl⟩
        have e3 : (3 : Int) * (k : Int) = (k3 : Int) := by omega
        have b3 : k3 < N3 := by omega
        have b4 : k3 + 1 < N3 := by omega
        have b5 : k3 + 2 < N3 := by omega
        have HK := Lib.hid hk3
        have hrow := own_stay Hl.out Hb.out (Nat.le_refl _)
        obtain ⟨P0, hP0⟩ : ∃ P0, l.getD k3 (0, 0) = P0 := ⟨_, rfl⟩
        obtain ⟨P1, hP1⟩ : ∃ P1, l.getD (k3 + 1) (0, 0) = P1 := ⟨_, rfl⟩
        obtain ⟨P2, hP2⟩ : ∃ P2, l.getD (k3 + 2) (0, 0) = P2 := ⟨_, rfl⟩
        have q0 := cvals_cell hrow Hll.out k3 b3
        have q1 := cvals_cell hrow Hll.out (k3 + 1) b4
        have q2 := cvals_cell hrow Hll.out (k3 + 2) b5
        rw [hP0] at q0
        rw [hP1] at q1
        rw [hP2] at q2
        have c0 := fun y : Grown wr => y.cell q0
        have c1 := fun y : Grown wr => y.cell q1
        have c2' := fun y : Grown wr => y.cell q2
        have HLn := Lib.hid (show plist (LL l) (k + 1) = plist (LL l) k ++ [.complex .f32 P0.1 P0.2, .complex .f32 P1.1 P1.2, .complex .f32 P2.1 P2.2] by
          rw [plist_succ, ll_cells, ← hP0, ← hP1, ← hP2, hk3])
        clear hN hk3 hrow q0 q1 q2 hP0 hP1 hP2
        go_wp2_with fail
        refine wp_grown_first (v := .slice (some ⟨g2, 0, none⟩) k c2) 19 35 (by kernel_rfl) (by kernel_rfl) rfl rfl (fun _ _ _ h => h) (.inl ⟨rfl, fun _ => rfl⟩) ?_
        simp only [List.take_succ_cons, List.take_zero, List.drop_succ_cons, List.drop_zero, Act.put, List.setIfInBounds_toArray, List.set_cons_zero, List.set_cons_succ]
        repeat (go_big_quiet_step (first | fail))
        refine wpQuiet_nil ?_
        rintro _ ⟨y, rfl⟩
        have hyB := y.2
        generalize y.1 = W5 at *
        clear c0 c1 c2'
        have Ho5 := Lib.hid (own_stay Ho.out hyB (Nat.le_refl _))
        have Hb5 := Lib.hid (Hb.out.trans (hyB.mono Hb.out.size))
        have hsz5 := Hb5.out.size
        have Hn := Lib.hid (RL.new W5 [.complex .f32 P0.1 P0.2, .complex .f32 P1.1 P1.2, .complex .f32 P2.1 P2.2] 37).news
        clear Ho Hb hyB
        go_wp2_with (at_builtin; refine wpList_append_own _ rfl (.tmp 35) (.tmp 54) 42 rfl w3.heap.size 37 i0 _ 3 24 Try.underlying42 hz hz0 hz1 hz2 rfl (by decide) (.slice (some ⟨g2, 0, none⟩) k c2) k _ rfl (Ho5.out.alloc _) ⟨W5.heap.size, 0, none⟩ 1 1 [.complex .f32 P0.1 P0.2, .complex .f32 P1.1 P1.2, .complex .f32 P2.1 P2.2] rfl rfl Hn.out (by simp [Value.oneCell']) (by unfold maxLen; omega) (by omega) (by simp; omega) ?_; intro v' w6 hown' hgrow hnil; obtain ⟨g', c', rfl⟩ := own_form hown'; have Ho6 := Lib.hid hown'; have Hb6 := Lib.hid ((Hb5.out.alloc hsz5 _).grown hgrow (by simp; omega) (by intro x hx; simp [Value.ownBlock] at hx; omega)); clear hown' hgrow hnil)
        go_roundw
        case rel => exact ⟨k + 1, g', c', rfl, by go_num, by omega, (own_lt Ho6.out).1, Lib.hid (by rw [HLn.out]; exact Ho6.out), Hb6⟩
        case measure => simp [intOf]; omega
      · have e : n = k := by omega
        subst e
        have d1 : decide ((n : Int) < (n : Int)) = false := by simp
        have T4 := Lib.hid (T3.out.step Hb.out)
        have HP4 := Lib.hid (phR_own Ho.out)
        obtain ⟨j0, j1, j2, j3⟩ := T4.out.four
        have hSum := sumTop_any wr s gs n c Bs T4.out.2.1 hG.out (by omega) g2 c2 (LL l) VV HP4.out HVD.out HV50.out
        unfold SumRet at hSum
        unfold FV at hSum
        clear Ho Hb Ho1 Hb1 hlt
        go_wp2_with fail
        refine hSum.mono ?_
        rintro e w4 ⟨gq, cq, rfl, hgq, hcq1, hcq2, ⟨S, hS, hSD⟩, hb4⟩
        have T5 := Lib.hid (T4.out.step hb4)
        have HP5 := Lib.hid (HP4.out.below hb4 HP4.out.lt)
        have HS := Lib.hid hS
        have HSD : Hid (∀ i, i < n → ∀ q, q < 6 → Dy .f32 0 (S i q) (wls (VV q) (belL Bs i n))) := Lib.hid (fun i hi q hq => by
          have h := hSD i hi q hq
          rw [wsum_below hG.out (by omega) (VV q) i (by omega), hlen] at h
          exact h)
        clear hSum hb4 hS hSD j0 j1 j2 j3 T4 HP4
        go_wp2_with fail
        go_loopw [12] (fun I wx => ∃ k : Nat, I = .int .i64 k ∧ k ≤ n ∧ Hid (Below w4.heap.size w4 wx)) (fun I _ => n - (intOf I).toNat)
        case atStart => exact ⟨0, rfl, Nat.zero_le _, Lib.hid (Below.refl _ _)⟩
        case round =>
          obtain ⟨wx, hwx⟩ : ∃ wx, wx = wr := ⟨_, rfl⟩
          subst hwx
          obtain ⟨k, rfl, hk, Hb6⟩ := hrel
          by_cases hlt : k < n
          · have d2 : decide ((k : Int) < (n : Int)) = true := by simp; omega
            have T6 := Lib.hid (T5.out.step Hb6.out)
            obtain ⟨j0, j1, j2, j3⟩ := T6.out.four
            have hB := below_any wx s gs n c Bs T6.out.2.1 k hlt
            unfold FV at hB
            go_wp2_with fail
            refine hB.mono ?_
            rintro e w7 ⟨V, rfl, hV, hb7⟩
            obtain ⟨ba, bc, rfl⟩ := hV.form
            have HI := Lib.hid (IL.rd' hV (by omega))
            have Hb7 := Lib.hid (Hb6.out.trans (hb7.mono Hb6.out.size))
            have hmem := belL_mem Bs k n
            have hll := belL_len Bs k n
            have HSk := Lib.hid (HSD.out k hlt)
            obtain ⟨Lb, hLb⟩ : ∃ Lb, Lb = belL Bs k n := ⟨_, rfl⟩
            rw [← hLb] at HI hmem hll HSk
            rw [← hLb]
            obtain ⟨m, hm⟩ : ∃ m, m = Lb.length := ⟨_, rfl⟩
            rw [← hm] at HI hll
            rw [← hm]
            have Hm := Lib.hid hm
            have Hmem := Lib.hid hmem
            have hs7 := Hb7.out.size
            clear hB hV hb7 j0 j1 j2 j3 hLb hmem hm
            have Rz : Hid (∃ r : Nat → Nat, RL (w7.alloc (.cells #[.complex .f32 0 0, .complex .f32 0 0, .complex .f32 0 0] 37)) w7.heap.size 37 [.complex .f32 (r 0) (r 1), .complex .f32 (r 2) (r 3), .complex .f32 (r 4) (r 5)] ∧ ∀ q, q < 6 → Dy .f32 0 (r q) (wls (VV q) (Lb.take 0))) := Lib.hid ⟨fun _ => 0, RL.new w7 [.complex .f32 0 0, .complex .f32 0 0, .complex .f32 0 0] 37, fun q _ => dy_nil⟩
            have Hbz := Lib.hid (bel_alloc w7 (.cells #[.complex .f32 0 0, .complex .f32 0 0, .complex .f32 0 0] 37))
            go_wp2_with fail
            go_loopw [86] (fun I wy => ∃ j : Nat, I = .int .i64 j ∧ j ≤ m ∧ Hid (∃ r : Nat → Nat, RL wy w7.heap.size 37 [.complex .f32 (r 0) (r 1), .complex .f32 (r 2) (r 3), .complex .f32 (r 4) (r 5)] ∧ ∀ q, q < 6 → Dy .f32 0 (r q) (wls (VV q) (Lb.take j))) ∧ Hid (Below w7.heap.size w7 wy)) (fun I _ => m - (intOf I).toNat)
            case atStart => exact ⟨0, rfl, Nat.zero_le _, Rz, Hbz⟩
            case round =>
              obtain ⟨wy, hwy⟩ : ∃ wy, wy = wr := ⟨_, rfl⟩
              subst hwy
              obtain ⟨j, rfl, hj, ⟨r, hR, hRD⟩, Hb8⟩ := hrel
              by_cases hjm : j < m
              · have d3 : decide ((j : Int) < (m : Int)) = true := by simp; omega
                have hIj := HI.out.stays Hb8.out (Nat.le_refl _)
                obtain ⟨gv, ov, rfl, hce, _⟩ := hIj.2.2.2.1 j hjm
                have hcapV := hIj.2.1
                have hjl : j < Lb.length := by rw [← Hm.out]; exact hjm
                have hel : Lb.getD j 0 ∈ Lb := by rw [List.getD_eq_getElem?_getD, List.getElem?_eq_getElem hjl]; exact List.getElem_mem hjl
                have hx0 := Hmem.out _ hel
                obtain ⟨x, hx⟩ : ∃ x : Nat, Lb.getD j 0 = x := ⟨(Lb.getD j 0).toNat, by omega⟩
                rw [hx] at hce hx0
                have hxn : x < n := by omega
                have htk := fun q => wls_take (VV q) Lb j hjl
                have hbd := fun q => wls_bound (VV q) 50 (HV50.out q) Lb j (by omega)
                have hPw := HP5.out.below (Hb7.out.trans (Hb8.out.mono hs7)) HP5.out.lt
                obtain ⟨r6, hr6⟩ := pick6 (P := fun q b => fop .add .f32 (vl .f32 (r q)) (vl .f32 (LL l x q)) = some b ∧ Dy .f32 0 b (wls (VV q) (Lb.take j) + VV q x)) (fun q hq => by
                  have b1 := hbd q
                  have b2 := HV50.out q x
                  exact (DyV.of (hRD q hq)).add (DyV.of (HVD.out x hxn q hq)) (by omega) (by rw [show FloatKind.f32.format.binade = 8388608 by decide]; omega))
                have hA := fun w' => addS_any r (LL l x) r6 (fun q hq => (hr6 q hq).1) w'
                have HT : Hid (∀ q, q < 6 → Dy .f32 0 (r6 q) (wls (VV q) (Lb.take (j + 1)))) := Lib.hid (fun q hq => by
                  rw [htk q, hx, Int.toNat_natCast]
                  exact (hr6 q hq).2)
                unfold PV at hA
                have x0 : ∀ y : Grown wy, y.1.cell? ⟨w7.heap.size, 0, none⟩ = some (.complex .f32 (r 0) (r 1)) := fun y => y.cell (hR.cell 0 (by simp))
                have x1 : ∀ y : Grown wy, y.1.cell? ⟨w7.heap.size, 1, none⟩ = some (.complex .f32 (r 2) (r 3)) := fun y => y.cell (hR.cell 1 (by simp))
                have x2 : ∀ y : Grown wy, y.1.cell? ⟨w7.heap.size, 2, none⟩ = some (.complex .f32 (r 4) (r 5)) := fun y => y.cell (hR.cell 2 (by simp))
                have ce := fun y : Grown wy => y.cell hce
                have p0 : ∀ y : Grown wy, y.1.cell? ⟨g2, x * 3, none⟩ = some (.complex .f32 (LL l x 0) (LL l x 1)) := fun y => y.cell (hPw.cell (i := x) (q := 0) hxn (by omega))
                have p1 : ∀ y : Grown wy, y.1.cell? ⟨g2, x * 3 + 1, none⟩ = some (.complex .f32 (LL l x 2) (LL l x 3)) := fun y => y.cell (hPw.cell (i := x) (q := 1) hxn (by omega))
                have p2 : ∀ y : Grown wy, y.1.cell? ⟨g2, x * 3 + 2, none⟩ = some (.complex .f32 (LL l x 4) (LL l x 5)) := fun y => y.cell (hPw.cell (i := x) (q := 2) hxn (by omega))
                have HR := Lib.hid hR
                clear hR hRD hr6 htk hbd hPw hce hx0 hel hjl hx hIj
                generalize LL l x = M at hA p0 p1 p2
                go_wp2_with fail
                refine wp_grown_tail 9 (by kernel_rfl) (by kernel_rfl) ?_
                simp only [List.take_succ_cons, List.take_zero, List.drop_succ_cons, List.drop_zero]
                repeat (go_big_quiet_step (first | (go_at_call_of 36 (Value.agg #[.complex .f32 (r 0) (r 1), .complex .f32 (r 2) (r 3), .complex .f32 (r 4) (r 5)]); exact Grown.calls _ (hA _))))
                refine wpQuiet_nil ?_
                rintro _ ⟨y, rfl⟩
                have hyB := y.2
                generalize y.1 = W1 at *
                clear x0 x1 x2 ce p0 p1 p2 hA
                have hlt7 := HR.out.lt
                have R := HR.out.below hyB hlt7
                have HB8 := Lib.hid (Hb8.out.trans (hyB.mono (by omega)))
                clear HR Hb8 hyB
                have k0 := R.cell 0 (by simp)
                have k1 := R.cell 1 (by simp)
                have k2 := R.cell 2 (by simp)
                have z0 := R.frozen 0
                have z1 := R.frozen 1
                have z2 := R.frozen 2
                simp only [List.getD_cons_zero, List.getD_cons_succ] at k0 k1 k2
                have HR2 := Lib.hid (show RL _ w7.heap.size 37 [.complex .f32 (r6 0) (r6 1), .complex .f32 (r6 2) (r6 3), .complex .f32 (r6 4) (r6 5)] from ((R.set 0 (.complex .f32 (r6 0) (r6 1))).set 1 (.complex .f32 (r6 2) (r6 3))).set 2 (.complex .f32 (r6 4) (r6 5)))
                have HB9 := Lib.hid (((HB8.out.setCell (p := ⟨w7.heap.size, 0, none⟩) (Nat.le_refl _) (.complex .f32 (r6 0) (r6 1))).setCell (p := ⟨w7.heap.size, 1, none⟩) (Nat.le_refl _) (.complex .f32 (r6 2) (r6 3))).setCell (p := ⟨w7.heap.size, 2, none⟩) (Nat.le_refl _) (.complex .f32 (r6 4) (r6 5)))
                clear R
                go_wp2_with fail
                go_roundw
                case rel => exact ⟨j + 1, by go_num, by omega, ⟨r6, HR2.out, HT.out⟩, HB9⟩
                case measure => simp [intOf]; omega
              · have e : m = j := by omega
                subst e
                have d3 : decide ((m : Int) < (m : Int)) = false := by simp
                rw [show Lb.take m = Lb from List.take_of_length_le (by rw [← Hm.out]; exact Nat.le_refl _)] at hRD
                have hSw := HS.out.below (Hb7.out.trans (Hb8.out.mono hs7)) HS.out.lt
                have x0 : ∀ y : Grown wy, y.1.cell? ⟨w7.heap.size, 0, none⟩ = some (.complex .f32 (r 0) (r 1)) := fun y => y.cell (hR.cell 0 (by simp))
                have x1 : ∀ y : Grown wy, y.1.cell? ⟨w7.heap.size, 1, none⟩ = some (.complex .f32 (r 2) (r 3)) := fun y => y.cell (hR.cell 1 (by simp))
                have x2 : ∀ y : Grown wy, y.1.cell? ⟨w7.heap.size, 2, none⟩ = some (.complex .f32 (r 4) (r 5)) := fun y => y.cell (hR.cell 2 (by simp))
                have p0 : ∀ y : Grown wy, y.1.cell? ⟨gq, k * 3, none⟩ = some (.complex .f32 (S k 0) (S k 1)) := fun y => y.cell (hSw.cell (i := k) (q := 0) hlt (by omega))
                have p1 : ∀ y : Grown wy, y.1.cell? ⟨gq, k * 3 + 1, none⟩ = some (.complex .f32 (S k 2) (S k 3)) := fun y => y.cell (hSw.cell (i := k) (q := 1) hlt (by omega))
                have p2 : ∀ y : Grown wy, y.1.cell? ⟨gq, k * 3 + 2, none⟩ = some (.complex .f32 (S k 4) (S k 5)) := fun y => y.cell (hSw.cell (i := k) (q := 2) hlt (by omega))
                have n0 := run_ne (hRD 0 (by omega)) (HSk.out 0 (by omega)) (hRD 1 (by omega)) (HSk.out 1 (by omega))
                have n1 := run_ne (hRD 2 (by omega)) (HSk.out 2 (by omega)) (hRD 3 (by omega)) (HSk.out 3 (by omega))
                have n2 := run_ne (hRD 4 (by omega)) (HSk.out 4 (by omega)) (hRD 5 (by omega)) (HSk.out 5 (by omega))
                have Hbw := Lib.hid (Hb7.out.trans (Hb8.out.mono hs7))
                clear hR hRD hSw Hb8
                go_wp2_with fail
                refine wp_grown (by kernel_rfl) (by kernel_rfl) ?_
                repeat (go_big_quiet_step (first | fail))
                refine wpQuiet_nil ?_
                rintro _ ⟨y, rfl⟩
                have Hby := Lib.hid (Hbw.out.trans (y.2.mono Hbw.out.size))
                generalize y.1 = W1 at *
                clear x0 x1 x2 p0 p1 p2 n0 n1 n2
                go_wp2_with fail
                go_roundw
                case rel => exact ⟨k + 1, by go_num, by omega, Hby⟩
                case measure => simp [intOf]; omega
          · have e : n = k := by omega
            subst e
            have d2 : decide ((n : Int) < (n : Int)) = false := by simp
            have HE := Lib.hid (T5.out.1.trans (Hb6.out.mono T5.out.1.size))
            go_wp2_with fail
            go_ret
            exact ⟨rfl, HE.out⟩
end Go.Proofs.Ytbcjgjdkapdihaa
