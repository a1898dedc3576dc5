/-
  Two rows of buses, one behind the other: slices.Concat, in the program. No theorem of a claim stands here.
-/
import Derived.Test.YtbcjgjdkapdihaaGrowB
set_option linter.unusedVariables false
set_option linter.unusedSimpArgs false
set_option maxRecDepth 8000
namespace Go.Proofs.Ytbcjgjdkapdihaa
open Go Go.RowKit Go.Shelf Go.Deep Go.Proofs.Ytbcjgjdkapdihaa.Fl

theorem flat_cells {w : World} {g : Nat} {R : List BusV} (hR : BusRd w g R) : ∀ j u, (flat R)[j]? = some u → w.cell? ((⟨g, 0, none⟩ : Addr).add j) = some u := fun j u hj => by
  have hlt : j < R.length * 8 := by
    have := (List.getElem?_eq_some_iff.1 hj).1
    rwa [flat_len] at this
  have hk : j / 8 < R.length := by omega
  have hq := flat_get R (j / 8) (j % 8) hk (by omega)
  have hc := hR.2 (j / 8) hk (j % 8) (by omega)
  rw [show j / 8 * 8 + j % 8 = j by omega] at hq hc
  have hv : j % 8 < R[j / 8].vals.length := by show j % 8 < 8; omega
  rw [hj, List.getElem?_eq_getElem hv] at hq
  rw [iadd_none, Nat.zero_add, hc]
  simp at hq
  simp [List.getD, hv, hq]
theorem own_formP {w : World} {base n s : Nat} {e : TypeId} {v : Value} {xs : List Value} (h : w.ownsRow base e s v n xs) (hn : 0 < n) : ∃ g cap, v = .slice (some ⟨g, 0, none⟩) n cap := by
  rcases h.2 with ⟨_, h2⟩ | ⟨g, c, cur, e1, _⟩
  · omega
  · exact ⟨g, c, e1⟩
def szC (n1 n2 : Nat) : Nat → Nat
  | 0 => 0
  | 1 => n1
  | _ => n1 + n2
def lsC (A B : List BusV) : Nat → List BusV
  | 0 => []
  | 1 => A
  | _ => A ++ B

set_option maxHeartbeats 8000000 in
theorem concat_any (w : World) (gc g1 n1 c1 g2 n2 c2 : Nat) (A B : List BusV) (hA : A.length = n1) (hB : B.length = n2) (k1 : 1 ≤ n1) (k2 : 1 ≤ n2) (h16 : n1 + n2 ≤ 16) (hR1 : BusRd w g1 A) (hR2 : BusRd w g2 B)
    (hc0 : w.cell? ⟨gc, 0, none⟩ = some (.slice (some ⟨g1, 0, none⟩) n1 c1)) (hc1 : w.cell? ⟨gc, 1, none⟩ = some (.slice (some ⟨g2, 0, none⟩) n2 c2)) :
    Calls Try.prog 142 #[.slice (some ⟨gc, 0, none⟩) 2 2] w fun e w' => ∃ g' c', e = .returned (.slice (some ⟨g', 0, none⟩) (n1 + n2) c') ∧ w'.ownsRow w.heap.size 89 8 (.slice (some ⟨g', 0, none⟩) (n1 + n2) c') (n1 + n2) (flat (A ++ B)) ∧ Below w.heap.size w w' := by
  obtain ⟨i0, hz, hz0, hz1, hz2⟩ := info_parts infoBus
  have hGr := growB_any w (n1 + n2) (by omega) h16
  rw [show ((n1 + n2 : Nat) : Int) = (n1 : Int) + (n2 : Int) by omega] at hGr
  go_enter Try.func142, Try.ntmps142
  go_wp2_with fail
  go_loopw [11, 3] (fun I S wr => ∃ (k : Nat) (z : Int), I = .int .i64 k ∧ S = .int .i64 z ∧ k ≤ 2 ∧ (k = 0 → z = 0) ∧ (k = 1 → z = n1) ∧ (k = 2 → z = (n1 : Int) + n2) ∧ wr = w) (fun I _ _ => 2 - (intOf I).toNat)
  case atStart => exact ⟨0, 0, rfl, rfl, by omega, fun _ => rfl, fun h => by omega, fun h => by omega, rfl⟩
  case round =>
    obtain ⟨k, z, rfl, rfl, hk, q0, q1, q2, hwr⟩ := hrel
    have hwr2 := hwr.symm
    subst hwr2
    obtain rfl | rfl | rfl : k = 0 ∨ k = 1 ∨ k = 2 := by omega
    · obtain rfl := q0 rfl
      clear q0 q1 q2
      go_wp2_with fail
      go_roundw
      case rel => exact ⟨1, n1, rfl, by go_num, by omega, fun h => by omega, fun _ => rfl, fun h => by omega, by first | rfl | trivial⟩
      case measure => simp [intOf]
    · obtain rfl := q1 rfl
      clear q0 q1 q2
      go_wp2_with fail
      go_roundw
      case rel => exact ⟨2, (n1 : Int) + n2, rfl, by go_num, by omega, fun h => by omega, fun h => by omega, fun _ => rfl, by first | rfl | trivial⟩
      case measure => simp [intOf]
    · obtain rfl := q2 rfl
      clear q0 q1 q2
      go_wp2_with fail
      refine hGr.mono ?_
      rintro e w2 ⟨g0, c0', rfl, hO, hb⟩
      have HO := Lib.hid hO
      have Hb0 := Lib.hid hb
      clear hGr hO hb
      go_wp2_with fail
      go_loopw [27, 6] (fun I O wr => ∃ (k m g' c' : Nat) (L : List BusV), I = .int .i64 k ∧ O = .slice (some ⟨g', 0, none⟩) m c' ∧ k ≤ 2 ∧ Hid ((k = 0 → m = 0 ∧ L = []) ∧ (k = 1 → m = n1 ∧ L = A) ∧ (k = 2 → m = n1 + n2 ∧ L = A ++ B)) ∧ Hid (wr.ownsRow w.heap.size 89 8 (.slice (some ⟨g', 0, none⟩) m c') m (flat L)) ∧ Hid (Below w.heap.size w wr)) (fun I _ _ => 2 - (intOf I).toNat)
      case atStart => exact ⟨0, 0, g0, c0', [], rfl, rfl, by omega, Lib.hid ⟨fun _ => ⟨rfl, rfl⟩, fun h => by omega, fun h => by omega⟩, HO, Hb0⟩
      case round =>
        obtain ⟨k, m, g', c', L, rfl, rfl, hk, Hk, Ho, Hb⟩ := hrel
        obtain rfl | rfl | rfl : k = 0 ∨ k = 1 ∨ k = 2 := by omega
        · obtain ⟨rfl, rfl⟩ := Hk.out.1 rfl
          have hRd := hR1.below Hb.out hR1.1
          have Hc := Lib.hid (flat_cells hRd)
          have hcz := (Hb.out.cell (p := ⟨gc, 0, none⟩) (World.block_lt_of_cell? w _ hc0)).trans hc0
          have hg' := (own_lt Ho.out).1
          have hflA : (flat A).length = n1 * 8 := by rw [flat_len]; omega
          clear hRd
          go_wp2_with (at_builtin; refine wpList_append_own _ rfl (.tmp 31) (.tmp 32) 38 rfl w.heap.size 89 i0 _ 8 64 Try.underlying38 hz hz0 hz1 hz2 rfl (by decide) (.slice (some ⟨g', 0, none⟩) 0 c') 0 _ rfl Ho.out ⟨g1, 0, none⟩ n1 c1 (flat A) rfl hflA Hc.out (flat_one A) (by unfold maxLen; omega) (by omega) Hb.out.size ?_; intro v' w3 hown' hgrow3 hnil3; obtain ⟨gx, cx, rfl⟩ := own_formP hown' (by omega); have Ho4 := Lib.hid hown'; have Hb4 := Lib.hid (Hb.out.grown hgrow3 Hb.out.size (by intro x hx; simp [Value.ownBlock] at hx; omega)); clear hown' hgrow3 hnil3)
          go_roundw
          case rel => exact ⟨1, n1, gx, cx, A, by go_num, by first | rfl | simp, by omega, Lib.hid ⟨fun h => by omega, fun _ => ⟨rfl, rfl⟩, fun h => by omega⟩, Lib.hid (by have h := Ho4.out; rw [Nat.zero_add] at h; simpa [flat] using h), Hb4⟩
          case measure => simp [intOf]
        · obtain ⟨e1, e2⟩ := Hk.out.2.1 rfl
          have e1' := e1.symm
          have e2' := e2.symm
          subst e1' e2'
          have hRd := hR2.below Hb.out hR2.1
          have Hc := Lib.hid (flat_cells hRd)
          have hcz := (Hb.out.cell (p := ⟨gc, 1, none⟩) (World.block_lt_of_cell? w _ hc1)).trans hc1
          have hg' := (own_lt Ho.out).1
          have hflA : (flat B).length = n2 * 8 := by rw [flat_len]; omega
          clear hRd
          go_wp2_with (at_builtin; refine wpList_append_own _ rfl (.tmp 31) (.tmp 32) 38 rfl w.heap.size 89 i0 _ 8 64 Try.underlying38 hz hz0 hz1 hz2 rfl (by decide) (.slice (some ⟨g', 0, none⟩) n1 c') n1 _ rfl Ho.out ⟨g2, 0, none⟩ n2 c2 (flat B) rfl hflA Hc.out (flat_one B) (by unfold maxLen; omega) (by omega) Hb.out.size ?_; intro v' w3 hown' hgrow3 hnil3; obtain ⟨gx, cx, rfl⟩ := own_formP hown' (by omega); have Ho4 := Lib.hid hown'; have Hb4 := Lib.hid (Hb.out.grown hgrow3 Hb.out.size (by intro x hx; simp [Value.ownBlock] at hx; omega)); clear hown' hgrow3 hnil3)
          go_roundw
          case rel => exact ⟨2, (n1 + n2), gx, cx, (A ++ B), by go_num, by first | rfl | simp, by omega, Lib.hid ⟨fun h => by omega, fun h => by omega, fun _ => ⟨rfl, rfl⟩⟩, Lib.hid (by have h := Ho4.out; unfold flat at h ⊢; rw [List.flatMap_append]; exact h), Hb4⟩
          case measure => simp [intOf]
        · obtain ⟨e1, e2⟩ := Hk.out.2.2 rfl
          subst e1 e2
          go_wp2_with fail
          go_ret
          exact ⟨g', c', rfl, Ho.out, Hb.out⟩
end Go.Proofs.Ytbcjgjdkapdihaa
