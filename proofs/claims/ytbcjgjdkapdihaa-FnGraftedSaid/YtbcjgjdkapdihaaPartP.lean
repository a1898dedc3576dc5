/-
  A part of a feeder as a feeder, in the program. No theorem of a claim stands here.
-/
import Derived.Test.YtbcjgjdkapdihaaCutP
import Derived.Test.YtbcjgjdkapdihaaPhs
set_option linter.unusedVariables false
set_option linter.unusedSimpArgs false
set_option maxRecDepth 8000
namespace Go.Proofs.Ytbcjgjdkapdihaa
open Go Go.RowKit Go.Shelf Go.Deep Go.Proofs.Ytbcjgjdkapdihaa.Fl

/-- Block g holds n buses R. -/
def BuR (w : World) (g n : Nat) (R : List BusV) : Prop := R.length = n ∧ ∃ m f, n * 8 ≤ m ∧ w.rowIs g 89 m f ∧ ∀ k (h : k < R.length), ∀ q, q < 8 → f (k * 8 + q) = R[k].vals.getD q (.bool false)
theorem BuR.lt {w : World} {g n : Nat} {R : List BusV} (h : BuR w g n R) : g < w.heap.size := by
  obtain ⟨_, m, f, _, h2, _⟩ := h
  exact World.rowIs.lt h2
theorem BuR.rd {w : World} {g n : Nat} {R : List BusV} (h : BuR w g n R) : BusRd w g R := by
  refine ⟨h.lt, fun k hk q hq => ?_⟩
  obtain ⟨hl, m, f, h1, h2, h3⟩ := h
  rw [← h3 k hk q hq]
  exact h2.cell (by omega)
theorem BuR.frozen {w : World} {g n : Nat} {R : List BusV} (h : BuR w g n R) (k : Nat) : w.frozen? ⟨g, k, none⟩ = false := by
  obtain ⟨_, m, f, _, h2, _⟩ := h
  exact h2.frozen k
theorem BuR.below {w w' : World} {g n B : Nat} {R : List BusV} (h : BuR w g n R) (hb : Below B w w') (hB : g < B) : BuR w' g n R := by
  obtain ⟨hl, m, f, h1, h2, h3⟩ := h
  exact ⟨hl, m, f, h1, World.rowIs.of_block h2 (hb.block g hB), h3⟩
theorem BuR.other {w : World} {g n : Nat} {R : List BusV} (h : BuR w g n R) {b : Nat} (hne : g ≠ b) (i : Nat) (u : Value) : BuR (w.setCell ⟨b, i, none⟩ u) g n R := by
  obtain ⟨hl, m, f, h1, h2, h3⟩ := h
  exact ⟨hl, m, f, h1, h2.setOther (a := ⟨b, i, none⟩) hne u, h3⟩
theorem BuR.set {w : World} {g n : Nat} {R T : List BusV} (h : BuR w g n R) (i : Nat) (v : Value) (hl : T.length = R.length) (hT : ∀ k (hk : k < R.length) (hk' : k < T.length), ∀ q, q < 8 → T[k].vals.getD q (.bool false) = if k * 8 + q = i then v else R[k].vals.getD q (.bool false)) : BuR (w.setCell ⟨g, i, none⟩ v) g n T := by
  obtain ⟨hl2, m, f, h1, h2, h3⟩ := h
  refine ⟨by rw [hl]; exact hl2, m, _, h1, h2.set i v, fun k hk q hq => ?_⟩
  rw [hT k (by omega) hk q hq]
  show (if k * 8 + q = i then v else f (k * 8 + q)) = _
  rw [h3 k (by omega) q hq]
theorem buR_own {w : World} {base g n c : Nat} {R : List BusV} (h : w.ownsRow base 89 8 (.slice (some ⟨g, 0, none⟩) n c) n (flat R)) (hR : R.length = n) : BuR w g n R := by
  rcases h.2 with ⟨h2, _⟩ | ⟨g2, c2, cur, e1, h1, h2, h3, h4, h5, h6⟩
  · cases h2
  · simp at e1
    obtain ⟨rfl, rfl⟩ := e1
    refine ⟨hR, c * 8, fun i => cur.getD i (.bool false), by omega, ⟨cur, h2, h5, fun i hi => ?_⟩, fun k hk q hq => ?_⟩
    · have : i < cur.size := by omega
      simp [Array.getD, this]
    · have hp := flat_get R k q hk hq
      rw [← h6, List.getElem?_take, if_pos (by omega), Array.getElem?_toList] at hp
      have hv : q < R[k].vals.length := by show q < 8; exact hq
      rw [List.getElem?_eq_getElem hv] at hp
      simp [hp, List.getD, hv]
def BusV.bare (B : BusV) : BusV := { B with o0 := 0, o1 := 0, s0 := 0, s1 := 0 }
def BusV.noOwn (B : BusV) : BusV := { B with o0 := 0, o1 := 0 }
theorem BuR.bare {w : World} {g n : Nat} {h : BusV} {r : List BusV} (hR : BuR w g n (h :: r)) : BuR ((w.setCell ⟨g, 1, none⟩ (.complex .f32 0 0)).setCell ⟨g, 2, none⟩ (.complex .f32 0 0)) g n (h.bare :: r) := by
  have h1 : BuR (w.setCell ⟨g, 1, none⟩ (.complex .f32 0 0)) g n (h.noOwn :: r) := hR.set 1 _ (by simp) (fun k hk hk' q hq => by
    cases k with
    | zero =>
      obtain rfl | rfl | rfl | rfl | rfl | rfl | rfl | rfl : q = 0 ∨ q = 1 ∨ q = 2 ∨ q = 3 ∨ q = 4 ∨ q = 5 ∨ q = 6 ∨ q = 7 := by omega
      all_goals rfl
    | succ k => rw [if_neg (by omega)]; rfl)
  exact h1.set 2 _ (by simp) (fun k hk hk' q hq => by
    cases k with
    | zero =>
      obtain rfl | rfl | rfl | rfl | rfl | rfl | rfl | rfl : q = 0 ∨ q = 1 ∨ q = 2 ∨ q = 3 ∨ q = 4 ∨ q = 5 ∨ q = 6 ∨ q = 7 := by omega
      all_goals rfl
    | succ k => rw [if_neg (by omega)]; rfl)

/-- What PartFeeder answers. -/
def PartPost (w : World) (t : Nat → Nat) (Bs : List BusV) (L : List Int) (e : Ending) (w' : World) : Prop := ∃ g' c' h r, e = .returned (.tuple #[FV t g' L.length c', .bool true]) ∧ RenL Bs L L.length (h :: r) ∧ BuR w' g' L.length (h.bare :: r) ∧ w.heap.size ≤ g' ∧ L.length ≤ c' ∧ c' ≤ maxLen ∧ Below w.heap.size w w'
theorem belL_pos {Bs : List BusV} {b n : Nat} (hb : b < n) : 0 < (belL Bs b n).length := by
  have key : ∀ k, b < k → (b : Int) ∈ belL Bs b k := by
    intro k
    induction k with
    | zero => intro h; omega
    | succ k ih =>
      intro h
      unfold belL
      by_cases e : k = b
      · rw [if_pos (.inr e), e]; simp
      · have := ih (by omega)
        split
        · exact List.mem_append.2 (.inl this)
        · exact this
  exact List.length_pos_of_mem (key n hb)

set_option maxRecDepth 100000 in
set_option maxHeartbeats 8000000 in
theorem part_any (w : World) (s t : Nat → Nat) (g n c : Nat) (Bs : List BusV) (hF : Fdr w g n c Bs) (b : Nat) (hb : b < n) : Calls Try.prog 62 #[FV s g n c, .int .i64 b, PV t] w (PartPost w t Bs (belL Bs b n)) := by
  have h2 := hF.most
  have hst := fun (a : Addr) (x y : Nat) (m : Mode) (w : World) => run_store Try.prog w a (.complex .f32 x y) m rfl
  obtain ⟨T1, T2, T3, TB⟩ := box3 w [.complex .f32 (s 0) (s 1), .complex .f32 (s 2) (s 3), .complex .f32 (s 4) (s 5), .slice (some ⟨g, 0, none⟩) n c] [.complex .f32 (t 0) (t 1), .complex .f32 (t 2) (t 3), .complex .f32 (t 4) (t 5)] [.complex .f32 0 0, .complex .f32 0 0, .complex .f32 0 0, .slice none 0 0] 40 37 40
  have hsz1 : (((w.alloc (.cells #[.complex .f32 (s 0) (s 1), .complex .f32 (s 2) (s 3), .complex .f32 (s 4) (s 5), .slice (some ⟨g, 0, none⟩) n c] 40)).alloc (.cells #[.complex .f32 (t 0) (t 1), .complex .f32 (t 2) (t 3), .complex .f32 (t 4) (t 5)] 37)).alloc (.cells #[.complex .f32 0 0, .complex .f32 0 0, .complex .f32 0 0, .slice none 0 0] 40)).heap.size = w.heap.size + 3 := by simp
  have hH := hasBus_any (((w.alloc (.cells #[.complex .f32 (s 0) (s 1), .complex .f32 (s 2) (s 3), .complex .f32 (s 4) (s 5), .slice (some ⟨g, 0, none⟩) n c] 40)).alloc (.cells #[.complex .f32 (t 0) (t 1), .complex .f32 (t 2) (t 3), .complex .f32 (t 4) (t 5)] 37)).alloc (.cells #[.complex .f32 0 0, .complex .f32 0 0, .complex .f32 0 0, .slice none 0 0] 40)) s g n c Bs (hF.below TB (Nat.le_refl _)) b hb
  have HF := Lib.hid hF
  clear hF
  unfold PartPost
  unfold FV PV at *
  have j0 := T1.cell 0 (by simp)
  have j1 := T1.cell 1 (by simp)
  have j2 := T1.cell 2 (by simp)
  have j3 := T1.cell 3 (by simp)
  simp only [List.getD_cons_zero, List.getD_cons_succ] at j0 j1 j2 j3
  go_enter Try.func62, Try.ntmps62
  go_wp2_with fail
  generalize (((w.alloc (.cells #[.complex .f32 (s 0) (s 1), .complex .f32 (s 2) (s 3), .complex .f32 (s 4) (s 5), .slice (some ⟨g, 0, none⟩) n c] 40)).alloc (.cells #[.complex .f32 (t 0) (t 1), .complex .f32 (t 2) (t 3), .complex .f32 (t 4) (t 5)] 37)).alloc (.cells #[.complex .f32 0 0, .complex .f32 0 0, .complex .f32 0 0, .slice none 0 0] 40)) = w1 at *
  refine hH.mono ?_
  rintro e w2 ⟨rfl, hb2⟩
  have hsz2 := hb2.size
  have S1 := T1.below hb2 T1.lt
  have S2 := T2.below hb2 T2.lt
  have S3 := T3.below hb2 T3.lt
  have Hb2 := Lib.hid (TB.trans (hb2.mono (by omega)))
  have hS := split_any w2 s g n c Bs (HF.out.below Hb2.out (Nat.le_refl _)) b hb
  unfold FV at hS
  clear hH hb2 TB T1 T2 T3 j0 j1 j2 j3
  have j0 := S1.cell 0 (by simp)
  have j1 := S1.cell 1 (by simp)
  have j2 := S1.cell 2 (by simp)
  have j3 := S1.cell 3 (by simp)
  simp only [List.getD_cons_zero, List.getD_cons_succ] at j0 j1 j2 j3
  go_wp2_with fail
  refine hS.mono ?_
  rintro e w3 ⟨V, U, rfl, hV, hU, hb3⟩
  obtain ⟨ua, uc, rfl⟩ := hU.form
  obtain ⟨va, vc, rfl⟩ := hV.form
  have hsz3 := hb3.size
  have Hb3 := Lib.hid (Hb2.out.trans (hb3.mono (by omega)))
  have R1 := S1.below hb3 S1.lt
  have R2 := Lib.hid (S2.below hb3 S2.lt)
  have R3 := Lib.hid (S3.below hb3 S3.lt)
  have hol := belL_len Bs b n
  have hpos := belL_pos (Bs := Bs) hb
  have hBA := busesAt_any w3 s g n c Bs (HF.out.below Hb3.out (Nat.le_refl _)) va _ vc (belL Bs b n) (IL.rd' hV (by omega)) (by omega) (belL_up Bs b n) (belL_mem Bs b n)
  unfold FV at hBA
  clear hS hb3 hU hV S1 S2 S3 j0 j1 j2 j3
  have j0 := R1.cell 0 (by simp)
  have j1 := R1.cell 1 (by simp)
  have j2 := R1.cell 2 (by simp)
  have j3 := R1.cell 3 (by simp)
  simp only [List.getD_cons_zero, List.getD_cons_succ] at j0 j1 j2 j3
  obtain ⟨L, hL⟩ : ∃ L, L = belL Bs b n := ⟨_, rfl⟩
  rw [← hL] at hBA hol hpos
  rw [← hL]
  have HLe := Lib.hid hL
  clear hL R1
  go_wp2_with fail
  refine hBA.mono ?_
  rintro e w5 ⟨g', c', R, rfl, hRen, hown, hb5⟩
  have hlo := own_lt hown
  have hB := buR_own hown hRen.1
  obtain ⟨h, r, rfl⟩ : ∃ h r, R = h :: r := by
    cases R with
    | nil => have := hRen.1; simp at this; omega
    | cons h r => exact ⟨h, r, rfl⟩
  have Hb5 := Lib.hid (Hb3.out.trans (hb5.mono (by omega)))
  have P2 := R2.out.below hb5 R2.out.lt
  have P3 := R3.out.below hb5 R3.out.lt
  have HRen := Lib.hid hRen
  have k1 : w5.cell? ⟨g', 1, none⟩ = some (.complex .f32 h.o0 h.o1) := hB.rd.2 0 (by simp) 1 (by omega)
  have k2 : (w5.setCell ⟨g', 1, none⟩ (.complex .f32 0 0)).cell? ⟨g', 2, none⟩ = some (.complex .f32 h.s0 h.s1) := by
    have h1 : BuR (w5.setCell ⟨g', 1, none⟩ (.complex .f32 0 0)) g' L.length (h.noOwn :: r) := hB.set 1 _ (by simp) (fun k hk hk' q hq => by
      cases k with
      | zero =>
        obtain rfl | rfl | rfl | rfl | rfl | rfl | rfl | rfl : q = 0 ∨ q = 1 ∨ q = 2 ∨ q = 3 ∨ q = 4 ∨ q = 5 ∨ q = 6 ∨ q = 7 := by omega
        all_goals rfl
      | succ k => rw [if_neg (by omega)]; rfl)
    exact h1.rd.2 0 (by simp) 2 (by omega)
  have f1 := hB.frozen 1
  have f2 : (w5.setCell ⟨g', 1, none⟩ (.complex .f32 0 0)).frozen? ⟨g', 2, none⟩ = false := by
    obtain ⟨_, m, f, _, h2, _⟩ := hB
    exact (h2.set 1 _).frozen 2
  have hg1 : w.heap.size + 3 ≤ g' := by omega
  have HB := Lib.hid hB.bare
  have P2' := (P2.other (b := g') (by omega) 1 (.complex .f32 0 0)).other (b := g') (by omega) 2 (.complex .f32 0 0)
  have P3' := (P3.other (b := g') (by omega) 1 (.complex .f32 0 0)).other (b := g') (by omega) 2 (.complex .f32 0 0)
  have HE := Lib.hid ((Hb5.out.setCell (p := ⟨g', 1, none⟩) (show w.heap.size ≤ g' by omega) (.complex .f32 0 0)).setCell (p := ⟨g', 2, none⟩) (show w.heap.size ≤ g' by omega) (.complex .f32 0 0))
  clear hBA hown hRen hb5 hB P2 P3 R2 R3 j0 j1 j2 j3
  have m0 := P2'.cell 0 (by simp)
  have m1 := P2'.cell 1 (by simp)
  have m2 := P2'.cell 2 (by simp)
  have z0 := P3'.cell 0 (by simp)
  have z1 := P3'.cell 1 (by simp)
  have z2 := P3'.cell 2 (by simp)
  have z3 := P3'.cell 3 (by simp)
  have y0 := P3'.frozen 0
  have y1 := P3'.frozen 1
  have y2 := P3'.frozen 2
  have y3 := P3'.frozen 3
  simp only [List.getD_cons_zero, List.getD_cons_succ] at m0 m1 m2 z0 z1 z2 z3
  have R6 := (((P3'.set 0 (.complex .f32 (t 0) (t 1))).set 1 (.complex .f32 (t 2) (t 3))).set 2 (.complex .f32 (t 4) (t 5))).set 3 (.slice (some ⟨g', 0, none⟩) L.length c')
  have v0 := R6.cell 0 (by simp)
  have v1 := R6.cell 1 (by simp)
  have v2 := R6.cell 2 (by simp)
  have v3 := R6.cell 3 (by simp)
  simp only [List.set_cons_zero, List.set_cons_succ, List.getD_cons_zero, List.getD_cons_succ] at v0 v1 v2 v3
  have HE6 := Lib.hid ((((HE.out.setCell (p := ⟨w.heap.size + 2, 0, none⟩) (Nat.le_add_right _ _) (.complex .f32 (t 0) (t 1))).setCell (p := ⟨w.heap.size + 2, 1, none⟩) (Nat.le_add_right _ _) (.complex .f32 (t 2) (t 3))).setCell (p := ⟨w.heap.size + 2, 2, none⟩) (Nat.le_add_right _ _) (.complex .f32 (t 4) (t 5))).setCell (p := ⟨w.heap.size + 2, 3, none⟩) (Nat.le_add_right _ _) (.slice (some ⟨g', 0, none⟩) L.length c'))
  have HB6 := Lib.hid ((((HB.out.other (b := w.heap.size + 2) (by omega) 0 (.complex .f32 (t 0) (t 1))).other (b := w.heap.size + 2) (by omega) 1 (.complex .f32 (t 2) (t 3))).other (b := w.heap.size + 2) (by omega) 2 (.complex .f32 (t 4) (t 5))).other (b := w.heap.size + 2) (by omega) 3 (.slice (some ⟨g', 0, none⟩) L.length c'))
  clear P2' P3' R6 HB HE
  go_wp2_with fail
  try simp only [Exit.inBlock, Exit.then]
  refine bodyPost_ret (by simp [results, Try.results62, go_sem, v0, v1, v2, v3]; try rfl) rfl ?_
  rw [← HLe.out]
  exact ⟨g', c', h, r, rfl, HRen.out, HB6.out, by omega, hlo.2.2.1, hlo.2.2.2, HE6.out⟩
end Go.Proofs.Ytbcjgjdkapdihaa
