/-
  A slice of floats copied, read as a list. No theorem of a claim stands here.
-/
import Derived.Test.YthkjikennlaelaaRowF
import Derived.Test.YthkjikennlaelaaSum
set_option linter.unusedVariables false
set_option maxRecDepth 8000
namespace Go.Proofs.Ythkjikennlaelaa
open Go Go.RowKit Go.Deep Go.Proofs.Ythkjikennlaelaa.Fl

theorem fown_new (w : World) (l : List Nat) (hl : l.length ≤ 1048576) : OwnF w.heap.size (w.alloc (.cells (fcells l) 28)) (some ⟨w.heap.size, 0, none⟩) l.length l := by
  have h : (w.alloc (.cells (fcells l) 28)).ownsRow w.heap.size 28 1 (.slice (some ⟨w.heap.size, 0, none⟩) l.length l.length) l.length (fcells l).toList := World.ownsRow_lit w (fcells l) l.length (Nat.le_refl _) (by unfold maxLen; omega) (by simp [fcells])
  exact h
theorem copyF_any (w : World) (a : Option Addr) (len cap : Nat) (l : List Nat) (ha : FRd w a len cap l) (hl : len ≤ 1048576) :
    Calls Try.prog 43 #[.slice a len cap] w fun e w' => e = .returned (.slice (some ⟨w.heap.size, 0, none⟩) len len) ∧ OwnF w.heap.size w' (some ⟨w.heap.size, 0, none⟩) len l ∧ Below w.heap.size w w' ∧ w'.heap.size = w.heap.size + 1 := by
  have hlen : l.length = len := ha.1
  have hmk := run_make_row' (P := Try.prog) 24 28 (.float .f32 0) 4 Try.underlying24 infoF rfl .i64 .i64 len (by omega) (by omega)
  rw [cpA_zero l] at hmk
  have Hfull := Lib.hid (cpA_full l len hlen)
  have hst := fun (a : Addr) (v : Nat) (m : Mode) (w : World) => run_store Try.prog w a (.float .f32 v) m rfl
  have Ha := Lib.hid ha
  have Hn := Lib.hid (show OwnF w.heap.size (w.alloc (.cells (fcells l) 28)) (some ⟨w.heap.size, 0, none⟩) len l by have := fown_new w l (by omega); rwa [hlen] at this)
  clear ha
  go_enter Try.func43, Try.ntmps43
  go_wp2
  go_loopw [4] (fun i wr => ∃ k : Nat, k ≤ len ∧ i = .int .i64 k ∧ wr = w.alloc (.cells (cpA l len k) 28)) (fun i _ => len - (intOf i).toNat)
  case atStart => exact ⟨0, Nat.zero_le _, rfl, rfl⟩
  case round =>
    obtain ⟨k, hk, rfl, rfl⟩ := hrel
    by_cases hlt : k < len
    · obtain ⟨b, o, rfl, hc, hbs⟩ := Ha.out.2.2.1 k hlt
      have hcap := Ha.out.2.1
      have c1 : (w.alloc (.cells (cpA l len k) 28)).cell? ⟨b, o + k, none⟩ = some (.float .f32 (l.getD k 0)) := by
        rw [World.cell?_alloc_lt _ _ _ hbs]; exact hc
      have c2 : (w.alloc (.cells (cpA l len k) 28)).cell? ⟨w.heap.size, k, none⟩ = some (.float .f32 0) := by
        rw [World.cell?_alloc_new]; exact cpA_get _ len k hlt
      have c4 := cpA_get l len k hlt
      have c3 := frozen_new w (cpA l len k) 28 k
      have Hs := Lib.hid (cpA_step l len k)
      generalize l.getD k 0 = v at c1 Hs
      clear hlen hc
      go_wp2
      go_roundw
      case rel => exact ⟨k + 1, by omega, by go_num, by rw [← Hs.out]⟩
      case measure => simp [intOf]; omega
    · obtain rfl : k = len := by omega
      clear hlen
      go_wp2
      go_ret
      refine ⟨rfl, by rw [Hfull.out]; exact Hn.out, (Below.refl _ w).alloc (Nat.le_refl _) _, by simp⟩
end Go.Proofs.Ythkjikennlaelaa
