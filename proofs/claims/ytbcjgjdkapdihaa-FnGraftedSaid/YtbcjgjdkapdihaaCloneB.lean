/-
  A copy of a row of buses, in the program. No theorem of a claim stands here.
-/
import Derived.Test.YtbcjgjdkapdihaaPartP
set_option linter.unusedVariables false
set_option linter.unusedSimpArgs false
set_option maxRecDepth 8000
namespace Go.Proofs.Ytbcjgjdkapdihaa
open Go Go.RowKit Go.Shelf Go.Deep Go.Proofs.Ytbcjgjdkapdihaa.Fl

theorem flat_one : ∀ (R : List BusV), ∀ u ∈ flat R, u.oneCell' = true := fun R u h => by
  obtain ⟨B, _, hu⟩ := List.mem_flatMap.1 h
  exact one_vals B u hu
set_option maxHeartbeats 4000000 in
theorem cloneB_any (w : World) (g n c : Nat) (R : List BusV) (h1 : 1 ≤ n) (h2 : n ≤ 1000) (hl : R.length = n) (hR : BusRd w g R) :
    Calls Try.prog 128 #[.slice (some ⟨g, 0, none⟩) n c] w fun e w' => ∃ g' c', e = .returned (.slice (some ⟨g', 0, none⟩) n c') ∧ w.heap.size ≤ g' ∧ BuR w' g' n R ∧ n ≤ c' ∧ c' ≤ maxLen ∧ Below w.heap.size w w' := by
  obtain ⟨i0, hz, hz0, hz1, hz2⟩ := info_parts infoBus
  have hnil : ∀ w : World, Sem.run Try.prog (binOp BinOp.eql 38 (Value.slice (some ⟨g, 0, none⟩) n c) (Value.slice none 0 0)) w = .ok (.bool false) w := fun w => by kernel_rfl
  have Ho1 : Hid ((w.alloc (.cells #[] 89)).ownsRow w.heap.size 89 8 (.slice (some ⟨w.heap.size, 0, none⟩) 0 0) 0 (flat [])) := Lib.hid (World.ownsRow_lit w #[] 0 (Nat.le_refl _) (by simp [maxLen]) rfl)
  have hfl : (flat R).length = n * 8 := by rw [flat_len, hl]
  have hcell : Hid (∀ j u, (flat R)[j]? = some u → (w.alloc (.cells #[] 89)).cell? ((⟨g, 0, none⟩ : Addr).add j) = some u) := Lib.hid (fun j u hj => by
    have hR2 := hR.below (bel_alloc w (.cells #[] 89)) hR.1
    have hlt : j < n * 8 := by
      have := (List.getElem?_eq_some_iff.1 hj).1
      rwa [hfl] at this
    have hk : j / 8 < R.length := by omega
    have hq := flat_get R (j / 8) (j % 8) hk (by omega)
    have hc := hR2.2 (j / 8) hk (j % 8) (by omega)
    rw [show j / 8 * 8 + j % 8 = j by omega] at hq hc
    have hv : j % 8 < R[j / 8].vals.length := by show j % 8 < 8; omega
    rw [hj, List.getElem?_eq_getElem hv] at hq
    rw [iadd_none, Nat.zero_add, hc]
    simp at hq
    simp [List.getD, hv, hq])
  clear hR
  go_enter Try.func128, Try.ntmps128
  go_wp2_with (at_builtin; refine wpList_append_own _ rfl (.tmp 5) (.tmp 6) 38 rfl w.heap.size 89 i0 _ 8 64 Try.underlying38 hz hz0 hz1 hz2 rfl (by decide) (.slice (some ⟨w.heap.size, 0, none⟩) 0 0) 0 _ rfl Ho1.out ⟨g, 0, none⟩ n c (flat R) rfl hfl hcell.out (flat_one R) (by unfold maxLen; omega) (by omega) (by simp) ?_; intro v' w3 hown' hgrow3 hnil3; rw [Nat.zero_add] at hown'; have Ho := Lib.hid hown'; have Hb := Lib.hid ((bel_alloc w (.cells #[] 89)).grown hgrow3 (by simp) (by intro x hx; simp [Value.ownBlock] at hx; omega)); clear hown' hgrow3 hnil3)
  obtain ⟨m, rfl⟩ : ∃ m, n = m + 1 := ⟨n - 1, by omega⟩
  obtain ⟨g', c', rfl⟩ := own_form Ho.out
  have hlt := own_lt Ho.out
  go_wp2
  go_ret
  exact ⟨g', c', rfl, hlt.1, buR_own (by simpa [flat] using Ho.out) hl, hlt.2.2.1, hlt.2.2.2, Hb.out⟩
end Go.Proofs.Ytbcjgjdkapdihaa
