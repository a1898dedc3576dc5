/-
  A list of integers turned around in place. No theorem of a claim stands here.
-/
import Derived.Test.YtbcjgjdkapdihaaKids
import Derived.Test.YtbcjgjdkapdihaaTail
import Derived.BigRegion
set_option linter.unusedVariables false
set_option linter.unusedSimpArgs false
set_option maxRecDepth 8000
namespace Go.Proofs.Ytbcjgjdkapdihaa
open Go Go.RowKit Go.Shelf Go.Deep Go.Proofs.Ytbcjgjdkapdihaa.Fl

def turned (zs : Nat → Int) (F : Nat → Value) (len k : Nat) (j : Nat) : Value := if j < len ∧ (j < k ∨ len ≤ j + k) then .int .i64 (zs (len - 1 - j)) else F j
theorem turned_mid {zs : Nat → Int} {F : Nat → Value} {len k j : Nat} (h1 : k ≤ j) (h2 : j + k < len) : turned zs F len k j = F j := by
  unfold turned; rw [if_neg (by omega)]

set_option maxHeartbeats 2000000 in
theorem rev_any (w : World) (g cap len : Nat) (F : Nat → Value) (zs : Nat → Int) (h : w.rowIs g 2 cap F) (hF : ∀ j, j < len → F j = .int .i64 (zs j)) (h1 : 1 ≤ len) (hl : len ≤ cap) (h2 : len ≤ 1000) :
    Calls Try.prog 123 #[.slice (some ⟨g, 0, none⟩) len cap] w fun e w' => e = .returned (.tuple #[]) ∧ w'.rowIs g 2 cap (fun j => if j < len then .int .i64 (zs (len - 1 - j)) else F j) ∧ Below g w w' := by
  have HF := Lib.hid hF
  have H := Lib.hid h
  clear hF h
  go_enter Try.func123, Try.ntmps123
  go_wp2
  go_loopw [2, 3] (fun I J wr => ∃ k q : Nat, k + q + 1 = len ∧ k ≤ q + 1 ∧ I = .int .i64 k ∧ J = .int .i64 q ∧ Hid (wr.rowIs g 2 cap (turned zs F len k)) ∧ Hid (Below g w wr)) (fun I _ _ => len - (intOf I).toNat)
  case atStart =>
    refine ⟨0, len - 1, by omega, by omega, rfl, by go_num, Lib.hid (H.out.congr fun j hj => ?_), Lib.hid (Below.refl _ _)⟩
    unfold turned; rw [if_neg (by omega)]
  case round =>
    obtain ⟨k, q, hkq, hkq2, rfl, rfl, Hr, Hw⟩ := hrel
    by_cases hlt : k < q
    · have hkl : k < len := by omega
      have hql : q < len := by omega
      have ck : wr.cell? ⟨g, k, none⟩ = some (.int .i64 (zs k)) := by rw [Hr.out.cell (by omega), turned_mid (Nat.le_refl _) (by omega), HF.out k (by omega)]
      have cq : wr.cell? ⟨g, q, none⟩ = some (.int .i64 (zs q)) := by rw [Hr.out.cell (by omega), turned_mid (by omega) (by omega), HF.out q (by omega)]
      have fk := Hr.out.frozen k
      have fq := Hr.out.frozen q
      have R1 := (Hr.out.drew).set k (.int .i64 (zs q))
      have cq1 := R1.cell (i := q) (by omega)
      have fq1 := R1.frozen q
      have R2 := R1.set q (.int .i64 (zs k))
      have HR := Lib.hid (R2.congr (g := turned zs F len (k + 1)) (fun j hj => by
        unfold turned
        by_cases e1 : j = q
        · rw [if_pos e1, if_pos (by omega), show len - 1 - j = k by omega]
        · rw [if_neg e1]
          by_cases e2 : j = k
          · rw [if_pos e2, if_pos (by omega), show len - 1 - j = q by omega]
          · rw [if_neg e2]
            by_cases e3 : j < len ∧ (j < k ∨ len ≤ j + k)
            · rw [if_pos e3, if_pos (by omega)]
            · rw [if_neg e3, if_neg (by omega)]))
      have HB := Lib.hid (((Hw.out.drew).setCell (p := ⟨g, k, none⟩) (Nat.le_refl _) (.int .i64 (zs q))).setCell (p := ⟨g, q, none⟩) (Nat.le_refl _) (.int .i64 (zs k)))
      clear R1 R2
      generalize zs k = x at *
      generalize zs q = y at *
      go_wp2_with fail
      go_region
      go_wp2_with fail
      go_roundw
      case rel => exact ⟨k + 1, q - 1, by omega, by omega, by go_num, by go_num, HR, HB⟩
      case measure => simp [intOf]; omega
    · go_wp2_with fail
      refine bodyPost_end (v := .tuple #[]) (by simp [results, Try.results123, go_sem]; try rfl) rfl ?_
      refine ⟨rfl, Hr.out.congr fun j hj => ?_, Hw.out⟩
      unfold turned
      by_cases e : j < len
      · rw [if_pos e]
        by_cases e2 : j < k ∨ len ≤ j + k
        · rw [if_pos ⟨e, e2⟩]
        · rw [if_neg (by omega), HF.out j e, show len - 1 - j = j by omega]
      · rw [if_neg e, if_neg (by omega)]
end Go.Proofs.Ytbcjgjdkapdihaa
