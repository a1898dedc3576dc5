/-
  Rows of phases, copies of them, in the program. No theorem of a claim stands here.
-/
import Derived.Test.YtbcjgjdkapdihaaPhs2
import Derived.Test.YtbcjgjdkapdihaaSumD
import Derived.Test.YtbcjgjdkapdihaaCust
import Derived.Test.YtbcjgjdkapdihaaCv
set_option linter.unusedVariables false
set_option linter.unusedSimpArgs false
set_option maxRecDepth 8000
namespace Go.Proofs.Ytbcjgjdkapdihaa
open Go Go.RowKit Go.Shelf Go.Deep Go.Proofs.Ytbcjgjdkapdihaa.Fl

def pcell (S : Nat → Nat → Nat) (i q : Nat) : Value := .complex .f32 (S i (2 * q)) (S i (2 * q + 1))
def plist (S : Nat → Nat → Nat) : Nat → List Value
  | 0 => []
  | n + 1 => plist S n ++ [pcell S n 0, pcell S n 1, pcell S n 2]
theorem plist_len (S : Nat → Nat → Nat) : ∀ n, (plist S n).length = n * 3
  | 0 => rfl
  | n + 1 => by unfold plist; rw [List.length_append, plist_len S n]; simp; omega
theorem plist_get (S : Nat → Nat → Nat) : ∀ n i q, i < n → q < 3 → (plist S n)[i * 3 + q]? = some (pcell S i q)
  | 0, i, q, h, _ => by omega
  | n + 1, i, q, h, hq => by
    unfold plist
    by_cases hi : i < n
    · rw [List.getElem?_append_left (by rw [plist_len]; omega)]
      exact plist_get S n i q hi hq
    · obtain rfl : i = n := by omega
      rw [List.getElem?_append_right (by rw [plist_len]; omega), plist_len, show i * 3 + q - i * 3 = q by omega]
      obtain rfl | rfl | rfl : q = 0 ∨ q = 1 ∨ q = 2 := by omega
      all_goals rfl
theorem plist_congr (S T : Nat → Nat → Nat) : ∀ n, (∀ i, i < n → T i = S i) → plist T n = plist S n
  | 0, _ => rfl
  | n + 1, h => by
    unfold plist pcell
    rw [plist_congr S T n (fun i hi => h i (by omega)), h n (by omega)]
theorem plist_one (S : Nat → Nat → Nat) : ∀ n, ∀ u ∈ plist S n, u.oneCell' = true
  | 0, u, h => by cases h
  | n + 1, u, h => by
    unfold plist at h
    rcases List.mem_append.1 h with h | h
    · exact plist_one S n u h
    · simp only [List.mem_cons, List.mem_nil_iff, or_false] at h
      rcases h with rfl | rfl | rfl <;> rfl

/-- Block g holds phases S 0, .., S (n - 1). -/
def PhR (w : World) (g n : Nat) (S : Nat → Nat → Nat) : Prop := ∃ m f, n * 3 ≤ m ∧ w.rowIs g 37 m f ∧ ∀ i, i < n → ∀ q, q < 3 → f (i * 3 + q) = pcell S i q
theorem PhR.lt {w : World} {g n : Nat} {S : Nat → Nat → Nat} (h : PhR w g n S) : g < w.heap.size := by
  obtain ⟨m, f, _, h2, _⟩ := h
  exact World.rowIs.lt h2
theorem PhR.cell {w : World} {g n : Nat} {S : Nat → Nat → Nat} (h : PhR w g n S) {i q : Nat} (hi : i < n) (hq : q < 3) : w.cell? ⟨g, i * 3 + q, none⟩ = some (pcell S i q) := by
  obtain ⟨m, f, h1, h2, h3⟩ := h
  rw [← h3 i hi q hq]
  exact h2.cell (by omega)
theorem PhR.frozen {w : World} {g n : Nat} {S : Nat → Nat → Nat} (h : PhR w g n S) (k : Nat) : w.frozen? ⟨g, k, none⟩ = false := by
  obtain ⟨m, f, _, h2, _⟩ := h
  exact h2.frozen k
theorem PhR.below {w w' : World} {g n B : Nat} {S : Nat → Nat → Nat} (h : PhR w g n S) (hb : Below B w w') (hB : g < B) : PhR w' g n S := by
  obtain ⟨m, f, h1, h2, h3⟩ := h
  exact ⟨m, f, h1, World.rowIs.of_block h2 (hb.block g hB), h3⟩
theorem PhR.set3 {w : World} {g n : Nat} {S T : Nat → Nat → Nat} (h : PhR w g n S) {i : Nat} (hi : i < n) (hT : ∀ j, j ≠ i → T j = S j) :
    PhR (((w.setCell ⟨g, i * 3, none⟩ (pcell T i 0)).setCell ⟨g, i * 3 + 1, none⟩ (pcell T i 1)).setCell ⟨g, i * 3 + 2, none⟩ (pcell T i 2)) g n T := by
  obtain ⟨m, f, h1, h2, h3⟩ := h
  refine ⟨m, _, h1, ((h2.set (i * 3) (pcell T i 0)).set (i * 3 + 1) (pcell T i 1)).set (i * 3 + 2) (pcell T i 2), fun j hj q hq => ?_⟩
  by_cases e : j = i
  · subst e
    obtain rfl | rfl | rfl : q = 0 ∨ q = 1 ∨ q = 2 := by omega
    all_goals simp
  · have hne : ∀ r, r < 3 → j * 3 + q ≠ i * 3 + r := fun r hr => by omega
    have e0 := hne 0 (by omega)
    have e1 := hne 1 (by omega)
    have e2 := hne 2 (by omega)
    rw [Nat.add_zero] at e0
    simp only [e0, e1, e2, if_false]
    rw [h3 j hj q hq]
    unfold pcell
    rw [hT j e]
theorem phR_own {w : World} {base g n c : Nat} {S : Nat → Nat → Nat} (h : w.ownsRow base 37 3 (.slice (some ⟨g, 0, none⟩) n c) n (plist S n)) : PhR w g n S := by
  rcases h.2 with ⟨h2, _⟩ | ⟨g2, c2, cur, e1, h1, h2, h3, h4, h5, h6⟩
  · cases h2
  · simp at e1
    obtain ⟨rfl, rfl⟩ := e1
    refine ⟨c * 3, fun i => cur.getD i (.bool false), by omega, ⟨cur, h2, h5, fun i hi => ?_⟩, fun i hi q hq => ?_⟩
    · have : i < cur.size := by omega
      simp [Array.getD, this]
    · have hp := plist_get S n i q hi hq
      rw [← h6, List.getElem?_take, if_pos (by omega), Array.getElem?_toList] at hp
      simp [hp]
theorem phR_own_from {β : Type} (g n : Nat) (f : β → Nat → Nat → Nat) : Own (fun s W => PhR W g n (f s)) := fun s X Y row hs hg hrow => by
  obtain ⟨m, F, h1, h2, h3⟩ := hs
  exact ⟨m, F, h1, rowOwn g _ m (fun (_ : Unit) j => F j) () X Y row h2 hg hrow, h3⟩
theorem infoPh : (Try.prog.info? 37).map (fun i => (i.zero, i.size, i.bytes)) = some (some (.agg #[.complex .f32 0 0, .complex .f32 0 0, .complex .f32 0 0]), 3, 24) := by kernel_rfl

set_option maxHeartbeats 4000000 in
theorem cloneP_any (w : World) (g n c : Nat) (S : Nat → Nat → Nat) (h1 : 1 ≤ n) (h2 : n ≤ 1000) (hR : PhR w g n S) :
    Calls Try.prog 168 #[.slice (some ⟨g, 0, none⟩) n c] w fun e w' => ∃ g' c', e = .returned (.slice (some ⟨g', 0, none⟩) n c') ∧ w.heap.size ≤ g' ∧ PhR w' g' n S ∧ n ≤ c' ∧ c' ≤ maxLen ∧ Below w.heap.size w w' := by
  obtain ⟨i0, hz, hz0, hz1, hz2⟩ := info_parts infoPh
  have hnil : ∀ w : World, Sem.run Try.prog (binOp BinOp.eql 42 (Value.slice (some ⟨g, 0, none⟩) n c) (Value.slice none 0 0)) w = .ok (.bool false) w := fun w => by kernel_rfl
  have Ho1 : Hid ((w.alloc (.cells #[] 37)).ownsRow w.heap.size 37 3 (.slice (some ⟨w.heap.size, 0, none⟩) 0 0) 0 (plist S 0)) := Lib.hid (World.ownsRow_lit w #[] 0 (Nat.le_refl _) (by simp [maxLen]) rfl)
  have hcell : Hid (∀ j u, (plist S n)[j]? = some u → (w.alloc (.cells #[] 37)).cell? ((⟨g, 0, none⟩ : Addr).add j) = some u) := Lib.hid (fun j u hj => by
    have hR2 := hR.below (bel_alloc w (.cells #[] 37)) hR.lt
    have hlt : j < n * 3 := by
      have := (List.getElem?_eq_some_iff.1 hj).1
      rwa [plist_len] at this
    have hq := plist_get S n (j / 3) (j % 3) (by omega) (by omega)
    have hc := hR2.cell (i := j / 3) (q := j % 3) (by omega) (by omega)
    rw [show j / 3 * 3 + j % 3 = j by omega] at hq hc
    rw [hq] at hj
    rw [badd_none, Nat.zero_add, hc]
    exact hj)
  clear hR
  go_enter Try.func168, Try.ntmps168
  go_wp2_with (at_builtin; refine wpList_append_own _ rfl (.tmp 5) (.tmp 6) 42 rfl w.heap.size 37 i0 _ 3 24 Try.underlying42 hz hz0 hz1 hz2 rfl (by decide) (.slice (some ⟨w.heap.size, 0, none⟩) 0 0) 0 _ rfl Ho1.out ⟨g, 0, none⟩ n c (plist S n) rfl (plist_len S n) hcell.out (plist_one S n) (by unfold maxLen; omega) (by omega) (by simp) ?_; intro v' w3 hown' hgrow3 hnil3; rw [Nat.zero_add] at hown'; have Ho := Lib.hid hown'; have Hb := Lib.hid ((bel_alloc w (.cells #[] 37)).grown hgrow3 (by simp) (by intro x hx; simp [Value.ownBlock] at hx; omega)); clear hown' hgrow3 hnil3)
  obtain ⟨m, rfl⟩ : ∃ m, n = m + 1 := ⟨n - 1, by omega⟩
  obtain ⟨g', c', rfl⟩ := own_form Ho.out
  have hlt := own_lt Ho.out
  go_wp2
  go_ret
  exact ⟨g', c', rfl, hlt.1, phR_own (by simpa [plist] using Ho.out), hlt.2.2.1, hlt.2.2.2, Hb.out⟩

theorem hasP_any (w : World) (s : Nat → Nat) (g n c : Nat) (Bs : List BusV) (hF : Fdr w g n c Bs) (g2 c2 : Nat) : Calls Try.prog 102 #[FV s g n c, .slice (some ⟨g2, 0, none⟩) n c2] w fun e w' => e = .returned (.bool true) ∧ Below w.heap.size w w' := by
  have hV := valid_any (w.alloc (.cells #[.complex .f32 (s 0) (s 1), .complex .f32 (s 2) (s 3), .complex .f32 (s 4) (s 5), .slice (some ⟨g, 0, none⟩) n c] 40)) s g n c Bs (hF.below (bel_alloc _ _) (Nat.le_refl _))
  unfold FV at *
  go_enter Try.func102, Try.ntmps102
  go_wp2_with fail
  refine hV.mono ?_
  rintro e w2 ⟨rfl, hbb⟩
  have Hb := Lib.hid (bel_then (bel_alloc _ _) hbb)
  have HR2 := RL.below (RL.new w [.complex .f32 (s 0) (s 1), .complex .f32 (s 2) (s 3), .complex .f32 (s 4) (s 5), .slice (some ⟨g, 0, none⟩) n c] 40) hbb (by simp)
  have j3 := HR2.cell 3 (by simp)
  simp only [List.getD_cons_zero, List.getD_cons_succ] at j3
  clear hbb hV
  go_wp2
  go_ret
  exact ⟨rfl, Hb.out⟩
end Go.Proofs.Ytbcjgjdkapdihaa
