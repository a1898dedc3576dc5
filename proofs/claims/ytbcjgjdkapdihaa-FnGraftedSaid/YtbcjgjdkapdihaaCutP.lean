/-
  A feeder without a part, in the program. No theorem of a claim stands here.
-/
import Derived.Test.YtbcjgjdkapdihaaBusesAt
import Derived.Deep.RegionWith
set_option linter.unusedVariables false
set_option linter.unusedSimpArgs false
set_option maxRecDepth 8000
namespace Go.Proofs.Ytbcjgjdkapdihaa
open Go Go.RowKit Go.Shelf Go.Deep Go.Proofs.Ytbcjgjdkapdihaa.Fl

theorem belL_mem_lt {Bs : List BusV} {b n : Nat} : ∀ x ∈ belL Bs b n, 0 ≤ x ∧ x < n := belL_mem Bs b n
theorem othL_mem (Bs : List BusV) (b : Nat) : ∀ k x, x ∈ othL Bs b k → 0 ≤ x ∧ x < k
  | 0, x, h => by cases h
  | k + 1, x, h => by
    unfold othL at h
    split at h
    · have := othL_mem Bs b k x h; omega
    · rcases List.mem_append.1 h with h | h
      · have := othL_mem Bs b k x h; omega
      · simp at h; omega
theorem othL_up (Bs : List BusV) (b : Nat) : ∀ k i j, i < j → j < (othL Bs b k).length → (othL Bs b k).getD i 0 < (othL Bs b k).getD j 0
  | 0, i, j, h1, h2 => by simp [othL] at h2
  | k + 1, i, j, h1, h2 => by
    have ih := othL_up Bs b k
    have hm := othL_mem Bs b k
    unfold othL at h2 ⊢
    split at h2
    · rename_i hc
      rw [if_pos hc]
      exact ih i j h1 h2
    · rename_i hc
      rw [if_neg hc]
      generalize othL Bs b k = L at *
      rw [List.length_append, List.length_singleton] at h2
      have e1 : (L ++ [(k : Int)]).getD i 0 = L.getD i 0 := by simp only [List.getD]; rw [List.getElem?_append_left (by omega)]
      rw [e1]
      by_cases hj : j < L.length
      · have e2 : (L ++ [(k : Int)]).getD j 0 = L.getD j 0 := by simp only [List.getD]; rw [List.getElem?_append_left (by omega)]
        rw [e2]
        exact ih i j h1 hj
      · obtain rfl : j = L.length := by omega
        have e2 : (L ++ [(k : Int)]).getD L.length 0 = k := by simp [List.getD]
        have hi : L.getD i 0 ∈ L := by rw [List.getD_eq_getElem?_getD, List.getElem?_eq_getElem (show i < L.length by omega)]; exact List.getElem_mem _
        rw [e2]
        exact (hm _ hi).2
theorem IL.rdO {base : Nat} {w : World} {a : Option Addr} {cap k : Nat} {Bs : List BusV} {b : Nat} (h : IL base w (.slice a (othL Bs b k).length cap) (othL Bs b k)) (hk : k ≤ 1000) : IRd w a (othL Bs b k).length cap (othL Bs b k) :=
  h.rd (fun x hx => by have := othL_mem Bs b k x hx; omega)

/-- What CutFeeder answers. -/
def CutPost (w : World) (s : Nat → Nat) (Bs : List BusV) (L : List Int) (e : Ending) (w' : World) : Prop := ∃ g' c' R, e = .returned (.tuple #[FV s g' L.length c', .bool true]) ∧ RenL Bs L L.length R ∧ w'.ownsRow w.heap.size 89 8 (.slice (some ⟨g', 0, none⟩) L.length c') L.length (flat R) ∧ Below w.heap.size w w'
theorem own_baseB {w : World} {base base' : Nat} {e : TypeId} {size : Nat} {v : Value} {n : Nat} {xs : List Value} (h : w.ownsRow base e size v n xs) (hb : base' ≤ base) : w.ownsRow base' e size v n xs := by
  refine ⟨h.1, ?_⟩
  rcases h.2 with h2 | ⟨g, c, cur, e1, h1, h3⟩
  · exact .inl h2
  · exact .inr ⟨g, c, cur, e1, by omega, h3⟩

set_option maxRecDepth 100000 in
set_option maxHeartbeats 8000000 in
theorem cut_any (w : World) (s : Nat → Nat) (g n c : Nat) (Bs : List BusV) (hF : Fdr w g n c Bs) (b : Nat) (hb1 : 1 ≤ b) (hb : b < n) : Calls Try.prog 60 #[FV s g n c, .int .i64 b] w (CutPost w s Bs (othL Bs b n)) := by
  have h2 := hF.most
  have hst := fun (a : Addr) (x y : Nat) (m : Mode) (w : World) => run_store Try.prog w a (.complex .f32 x y) m rfl
  have RF := RL.new w [.complex .f32 (s 0) (s 1), .complex .f32 (s 2) (s 3), .complex .f32 (s 4) (s 5), .slice (some ⟨g, 0, none⟩) n c] 40
  have RZ := RL.new (w.alloc (.cells #[.complex .f32 (s 0) (s 1), .complex .f32 (s 2) (s 3), .complex .f32 (s 4) (s 5), .slice (some ⟨g, 0, none⟩) n c] 40)) [.complex .f32 0 0, .complex .f32 0 0, .complex .f32 0 0, .slice none 0 0] 40
  rw [show (w.alloc (.cells #[.complex .f32 (s 0) (s 1), .complex .f32 (s 2) (s 3), .complex .f32 (s 4) (s 5), .slice (some ⟨g, 0, none⟩) n c] 40)).heap.size = w.heap.size + 1 by simp] at RZ
  have RF1 := RF.allocd (.cells #[.complex .f32 0 0, .complex .f32 0 0, .complex .f32 0 0, .slice none 0 0] 40)
  have hb0 : Below w.heap.size w ((w.alloc (.cells #[.complex .f32 (s 0) (s 1), .complex .f32 (s 2) (s 3), .complex .f32 (s 4) (s 5), .slice (some ⟨g, 0, none⟩) n c] 40)).alloc (.cells #[.complex .f32 0 0, .complex .f32 0 0, .complex .f32 0 0, .slice none 0 0] 40)) := ((Below.refl _ w).alloc (Nat.le_refl _) _).alloc (by simp) _
  have hsz1 : ((w.alloc (.cells #[.complex .f32 (s 0) (s 1), .complex .f32 (s 2) (s 3), .complex .f32 (s 4) (s 5), .slice (some ⟨g, 0, none⟩) n c] 40)).alloc (.cells #[.complex .f32 0 0, .complex .f32 0 0, .complex .f32 0 0, .slice none 0 0] 40)).heap.size = w.heap.size + 2 := by simp
  have hH := hasBus_any ((w.alloc (.cells #[.complex .f32 (s 0) (s 1), .complex .f32 (s 2) (s 3), .complex .f32 (s 4) (s 5), .slice (some ⟨g, 0, none⟩) n c] 40)).alloc (.cells #[.complex .f32 0 0, .complex .f32 0 0, .complex .f32 0 0, .slice none 0 0] 40)) s g n c Bs (hF.below hb0 (Nat.le_refl _)) b hb
  have HF := Lib.hid hF
  have hbz : ((b : Nat) : Int) ≠ 0 := by omega
  clear hF RF
  unfold CutPost
  unfold FV at *
  have j0 := RF1.cell 0 (by simp)
  have j1 := RF1.cell 1 (by simp)
  have j2 := RF1.cell 2 (by simp)
  have j3 := RF1.cell 3 (by simp)
  simp only [List.getD_cons_zero, List.getD_cons_succ] at j0 j1 j2 j3
  go_enter Try.func60, Try.ntmps60
  go_wp2_with fail
  generalize ((w.alloc (.cells #[.complex .f32 (s 0) (s 1), .complex .f32 (s 2) (s 3), .complex .f32 (s 4) (s 5), .slice (some ⟨g, 0, none⟩) n c] 40)).alloc (.cells #[.complex .f32 0 0, .complex .f32 0 0, .complex .f32 0 0, .slice none 0 0] 40)) = w1 at *
  refine hH.mono ?_
  rintro e w2 ⟨rfl, hb2⟩
  have hsz2 := hb2.size
  have RF2 := RF1.below hb2 RF1.lt
  have RZ2 := RZ.below hb2 RZ.lt
  have Hb2 := Lib.hid (hb0.trans (hb2.mono (by omega)))
  have hS := split_any w2 s g n c Bs (HF.out.below Hb2.out (Nat.le_refl _)) b hb
  unfold FV at hS
  clear hH hb2 hb0 RF1 RZ j0 j1 j2 j3
  have j0 := RF2.cell 0 (by simp)
  have j1 := RF2.cell 1 (by simp)
  have j2 := RF2.cell 2 (by simp)
  have j3 := RF2.cell 3 (by simp)
  simp only [List.getD_cons_zero, List.getD_cons_succ] at j0 j1 j2 j3
  go_wp2_with fail
  refine hS.mono ?_
  rintro e w3 ⟨V, U, rfl, _, hU, hb3⟩
  obtain ⟨ua, uc, rfl⟩ := hU.form
  have hsz3 := hb3.size
  have HU := Lib.hid (hU.rdO (by omega))
  have Hb3 := Lib.hid (Hb2.out.trans (hb3.mono (by omega)))
  have RF3 := RF2.below hb3 RF2.lt
  have RZ3 := RZ2.below hb3 RZ2.lt
  have hol := othL_len Bs b n
  have hBA := fun (w' : World) (h : Below w3.heap.size w3 w') => busesAt_any w' s g n c Bs (HF.out.below (Hb3.out.trans (h.mono (by omega))) (Nat.le_refl _)) ua _ uc (othL Bs b n) (HU.out.stays h (Nat.le_refl _)) (by omega) (othL_up Bs b n) (othL_mem Bs b n)
  unfold FV at hBA
  have HR3 := Lib.hid RF3
  have HZ3 := Lib.hid RZ3
  clear hS hb3 hU RF2 RZ2 RZ3 j0 j1 j2 j3
  have j0 := RF3.cell 0 (by simp)
  have j1 := RF3.cell 1 (by simp)
  have j2 := RF3.cell 2 (by simp)
  have j3 := RF3.cell 3 (by simp)
  simp only [List.getD_cons_zero, List.getD_cons_succ] at j0 j1 j2 j3
  clear RF3
  obtain ⟨L, hL⟩ : ∃ L, L = othL Bs b n := ⟨_, rfl⟩
  rw [← hL] at hBA HU hol
  rw [← hL]
  have HLe := Lib.hid hL
  clear hL
  have hBA2 : ∀ (w' : World), Below w3.heap.size w3 w' → Calls Try.prog 141 #[.agg #[.complex .f32 (s 0) (s 1), .complex .f32 (s 2) (s 3), .complex .f32 (s 4) (s 5), .slice (some ⟨g, 0, none⟩) n c], .slice ua L.length uc] w' fun e w5 => ∃ g' c' R, e = .returned (.slice (some ⟨g', 0, none⟩) L.length c') ∧ Hid (RenL Bs L L.length R ∧ w5.ownsRow w.heap.size 89 8 (.slice (some ⟨g', 0, none⟩) L.length c') L.length (flat R) ∧ w.heap.size + 2 ≤ g' ∧ Below w3.heap.size w3 w5 ∧ RL w5 (w.heap.size + 1) 40 [.complex .f32 0 0, .complex .f32 0 0, .complex .f32 0 0, .slice none 0 0]) ∧
      w5.cell? ⟨w.heap.size, 0, none⟩ = some (.complex .f32 (s 0) (s 1)) ∧ w5.cell? ⟨w.heap.size, 1, none⟩ = some (.complex .f32 (s 2) (s 3)) ∧ w5.cell? ⟨w.heap.size, 2, none⟩ = some (.complex .f32 (s 4) (s 5)) ∧ w5.cell? ⟨w.heap.size + 1, 0, none⟩ = some (.complex .f32 0 0) ∧ w5.cell? ⟨w.heap.size + 1, 1, none⟩ = some (.complex .f32 0 0) ∧ w5.cell? ⟨w.heap.size + 1, 2, none⟩ = some (.complex .f32 0 0) ∧ w5.cell? ⟨w.heap.size + 1, 3, none⟩ = some (.slice none 0 0) ∧
      w5.frozen? ⟨w.heap.size + 1, 0, none⟩ = false ∧ w5.frozen? ⟨w.heap.size + 1, 1, none⟩ = false ∧ w5.frozen? ⟨w.heap.size + 1, 2, none⟩ = false ∧ w5.frozen? ⟨w.heap.size + 1, 3, none⟩ = false := fun w' h => (hBA w' h).mono (fun e w5 hh => by
    obtain ⟨g', c', R, rfl, hRen, hown, hb5⟩ := hh
    have h5 : Below w3.heap.size w3 w5 := h.trans (hb5.mono h.size)
    have hs' := h.size
    have hlo := (own_lt hown).1
    have K := HR3.out.below h5 HR3.out.lt
    have Z := HZ3.out.below h5 HZ3.out.lt
    exact ⟨g', c', R, rfl, Lib.hid ⟨hRen, own_baseB hown (by omega), by omega, h5, Z⟩, K.cell 0 (by simp), K.cell 1 (by simp), K.cell 2 (by simp), Z.cell 0 (by simp), Z.cell 1 (by simp), Z.cell 2 (by simp), Z.cell 3 (by simp), Z.frozen 0, Z.frozen 1, Z.frozen 2, Z.frozen 3⟩)
  have hBA3 := hBA2 w3.drew ⟨rfl, rfl, rfl, Nat.le_refl _, fun _ _ => rfl⟩
  have Hhx := Lib.hid (And.intro hsz1 (And.intro hsz2 hsz3))
  clear hBA hBA2 hsz1 hsz2 hsz3
  go_wp2_with fail
  go_region_with (go_at_call 141; refine hBA3.mono ?_; rintro e w5 ⟨g', c', R, rfl, HH, k0, k1, k2, z0, z1, z2, z3, y0, y1, y2, y3⟩)
  all_goals
    have R6 := (((HH.out.2.2.2.2.set 0 (.complex .f32 (s 0) (s 1))).set 1 (.complex .f32 (s 2) (s 3))).set 2 (.complex .f32 (s 4) (s 5))).set 3 (.slice (some ⟨g', 0, none⟩) L.length c')
    have v0 := R6.cell 0 (by simp)
    have v1 := R6.cell 1 (by simp)
    have v2 := R6.cell 2 (by simp)
    have v3 := R6.cell 3 (by simp)
    simp only [List.set_cons_zero, List.set_cons_succ, List.getD_cons_zero, List.getD_cons_succ] at v0 v1 v2 v3
    have hgl := (own_lt HH.out.2.1).2.1
    have HE := Lib.hid (((((Hb3.out.trans (HH.out.2.2.2.1.mono (by have := Hhx.out.2.2; have := Hhx.out.2.1; have := Hhx.out.1; omega))).setCell (p := ⟨w.heap.size + 1, 0, none⟩) (Nat.le_succ _) (.complex .f32 (s 0) (s 1))).setCell (p := ⟨w.heap.size + 1, 1, none⟩) (Nat.le_succ _) (.complex .f32 (s 2) (s 3))).setCell (p := ⟨w.heap.size + 1, 2, none⟩) (Nat.le_succ _) (.complex .f32 (s 4) (s 5))).setCell (p := ⟨w.heap.size + 1, 3, none⟩) (Nat.le_succ _) (.slice (some ⟨g', 0, none⟩) L.length c'))
    have hge := HH.out.2.2.1
    have HO := Lib.hid (own_other (own_other (own_other (own_other HH.out.2.1 (b := w.heap.size + 1) (by omega) 0 (.complex .f32 (s 0) (s 1))) (b := w.heap.size + 1) (by omega) 1 (.complex .f32 (s 2) (s 3))) (b := w.heap.size + 1) (by omega) 2 (.complex .f32 (s 4) (s 5))) (b := w.heap.size + 1) (by omega) 3 (.slice (some ⟨g', 0, none⟩) L.length c'))
    clear R6
    go_wp2_with fail
    try simp only [Exit.inBlock, Exit.then]
    refine bodyPost_ret (by simp [results, Try.results60, go_sem, v0, v1, v2, v3]; try rfl) rfl ?_
    rw [← HLe.out]
    exact ⟨g', c', R, rfl, HH.out.1, HO.out, HE.out⟩
end Go.Proofs.Ytbcjgjdkapdihaa
