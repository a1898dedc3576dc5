/-
  Slices of bytes that come in. No theorem of a claim stands here.
-/
import Derived.Test.YthkjikennlaelaaSrc
set_option linter.unusedVariables false
namespace Go.Proofs.Ythkjikennlaelaa
open Go Go.RowKit Go.Deep Go.ChangeShapes Go.WideShapes

/-- The slice (a, len, cap) reads as bytes. -/
def Rd8 (w : World) (a : Option Addr) (len cap : Nat) : Prop :=
  len ≤ cap ∧ cap ≤ maxLen ∧ ∀ k, k < len → ∃ b o v, a = some ⟨b, o, none⟩ ∧ b < w.heap.size ∧ 0 ≤ v ∧ v ≤ 255 ∧ w.cell? ⟨b, o + k, none⟩ = some (.int .u8 v)
theorem Rd8.bytes {w : World} {a : Option Addr} {len cap : Nat} (h : Rd8 w a len cap) (hl : len ≤ 1048576) : BRd w.heap.size w a len cap := ⟨h.1, h.2.1, hl, h.2.2⟩
theorem badd_none (b o i : Nat) : (Addr.add ⟨b, o, none⟩ i) = ⟨b, o + i, none⟩ := by
  unfold Addr.add
  by_cases h : i = 0
  · subst h; rfl
  · rw [if_neg h]
theorem rd8_of {H : Type} {enc : TypeId × Value → H} {P : Program} {w : World} {base : Nat} {held : Bool} {t e : TypeId} {fuel : Nat} {a : Option Addr} {len cap : Nat} {x : DataW H × List MemPlace} (ht : P.underlying t = some (.slice e)) (he : P.underlying e = some (.int .u8)) (hc : P.cellsOf e = 1)
    (h : DataW.trod enc P w base (fun _ => true) held fuel t (Value.slice a len cap).cells.toList = some x) : Rd8 w a len cap := by
  rcases open_ints ht he hc h with ⟨hcs, _⟩ | ⟨x, l, c, zs, hcs, _, hl, hm, hz, _, hcell, hwz⟩
  · simp [Value.cells] at hcs
    obtain ⟨rfl, rfl, rfl⟩ := hcs
    exact ⟨Nat.le_refl _, Nat.zero_le _, fun k hk => absurd hk (by omega)⟩
  · simp [Value.cells] at hcs
    obtain ⟨rfl, rfl, rfl⟩ := hcs
    have hz : zs.length = cap := by simpa using hz
    refine ⟨hl, hm, fun k hk => ?_⟩
    obtain ⟨b, o, s⟩ := x
    have hx0 := hcell 0 (by omega)
    obtain rfl : s = none := by simpa [Addr.add] using World.cell?_spot hx0
    have h0 := hcell k (by omega)
    rw [badd_none] at h0
    have hlt : k < zs.length := by omega
    have hv := hwz (zs.getD k 0) (by simp [List.getD, hlt])
    have hb : 0 ≤ zs.getD k 0 ∧ zs.getD k 0 ≤ 255 := by
      generalize zs.getD k 0 = v at hv
      have e1 : IntKind.u8.min = 0 := by decide
      have e2 : IntKind.u8.max = 255 := by decide
      simp [Lit.wf, e1, e2] at hv
      omega
    exact ⟨b, o, _, rfl, World.block_lt_of_cell? w _ h0, hb.1, hb.2, h0⟩
end Go.Proofs.Ythkjikennlaelaa
