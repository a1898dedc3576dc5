/-
  From float32 to float64 as an equation on the run; slices of floats made anew and compared. No theorem of a claim stands here.
-/
import Derived.Test.YthkjikennlaelaaSame
import Derived.Test.YthkjikennlaelaaFe
import Derived.Deep.RegionWith
set_option linter.unusedVariables false
namespace Go.Proofs.Ythkjikennlaelaa.Fl
open Go Go.RowKit

def cvv (b : Nat) (w : World) : Nat := if vl .f32 b = none then (Question.nanConv .f64 b).cut (w.tape w.drawn (.nanConv .f64 b)) else (fcv .f32 .f64 (vl .f32 b)).getD 0
def cvn (b : Nat) : Nat := if vl .f32 b = none then 1 else 0

theorem fcv_some (b : Nat) (h : vl .f32 b = some b) : ∃ r, floatToFloatBits .f32 b .f64 = some r ∧ vl .f64 r = some r ∧ fcv .f32 .f64 (vl .f32 b) = some r ∧ r < 2 ^ 64 := by
  have ho := over_widen' b
  rw [h] at ho
  have hd : ∃ d, FloatKind.f32.decode b = d ∧ d.isNaN = false := by
    refine ⟨_, rfl, ?_⟩
    unfold vl at h
    cases hn : (FloatKind.f32.decode b).isNaN
    · rfl
    · rw [hn] at h; simp at h
  obtain ⟨d, hd, hn⟩ := hd
  have hr : floatToFloatBits .f32 b .f64 = some (FloatKind.f64.encode d) := by
    simp only [over, Option.any_some] at ho
    unfold floatToFloatBits
    rw [if_neg (by decide)]
    rw [hd] at ho ⊢
    cases d with
    | nan s t => simp [Ieee.Datum.isNaN] at hn
    | infinity s => rfl
    | number s m i =>
      simp [Ieee.Datum.isInfinity] at ho
      simp only
      rw [if_neg (by simp [Ieee.Datum.isInfinity]; exact ho)]
  refine ⟨_, hr, vl_write .f64 d hn, ?_, ?_⟩
  · rw [h]; exact hr
  · exact Ieee.Format.write_lt _ _

theorem vl_cvv (b : Nat) (w : World) : vl .f64 (cvv b w) = fcv .f32 .f64 (vl .f32 b) := by
  unfold cvv
  rcases vl_cases .f32 b with h | h
  · rw [if_pos h, (cut_conv .f64 b _).1, h]; rfl
  · rw [if_neg (by rw [h]; simp)]
    obtain ⟨r, _, h2, h3, _⟩ := fcv_some b h
    rw [h3]; exact h2

theorem cvv_lt (b : Nat) (w : World) : cvv b w < 2 ^ 64 := by
  unfold cvv
  rcases vl_cases .f32 b with h | h
  · rw [if_pos h]; exact (cut_conv .f64 b _).2
  · rw [if_neg (by rw [h]; simp)]
    obtain ⟨r, _, _, h3, h4⟩ := fcv_some b h
    rw [h3]; exact h4

theorem run_cv (b : Nat) (w : World) : (convert 28 51 (.float .f32 b)).run Try.prog w = .ok (.float .f64 (cvv b w)) (w.drewN (cvn b)) := by
  unfold cvv cvn
  rcases vl_cases .f32 b with h | h
  · rw [if_pos h, if_pos h]
    cases hd : FloatKind.f32.decode b with
    | nan s t => simp [convert, run_underlying Try.underlying28, run_underlying Try.underlying51, Conv.floatToFloat, hd, Question.forced, World.drew_is_drewN]
    | number s m i => simp [vl, hd, Ieee.Datum.isNaN] at h
    | infinity s => simp [vl, hd, Ieee.Datum.isNaN] at h
  · rw [if_neg (by rw [h]; simp), if_neg (by rw [h]; simp)]
    obtain ⟨r, h1, h2, h3, h4⟩ := fcv_some b h
    rw [h3]
    exact run_convert_float_float w 28 51 .f32 .f64 b r isSome_f32 Try.underlying51 h1

theorem same_cvv (b : Nat) (w w' : World) : vl .f64 (cvv b w) = vl .f64 (cvv b w') := by rw [vl_cvv, vl_cvv]

theorem add_none (b o k : Nat) : (⟨b, o, none⟩ : Addr).add k = ⟨b, o + k, none⟩ := by
  unfold Addr.add
  split
  · rename_i h; simp_all
  · rfl

/-- A row of floats in one block of the call's own. -/
def fcells (l : List Nat) : Array Value := (l.map (Value.float .f32)).toArray

theorem isRowF_alloc {w : World} {a : Option Addr} {len cap : Nat} {zs : List Nat} (h : IsRowF .f32 w a len cap zs) (o : Obj) : IsRowF .f32 (w.alloc o) a len cap zs := by
  rcases h with h | ⟨x, h1, h2, h3, h4, h5, h6⟩
  · exact .inl h
  · refine .inr ⟨x, h1, h2, h3, h4, fun i hi => ?_, h6⟩
    have hc := h5 i hi
    have hlt : (x.add i).block < w.heap.size := by
      unfold World.cell? at hc
      cases hb : w.heap[(x.add i).block]? with
      | none => rw [hb] at hc; simp at hc
      | some o' => exact (Array.getElem?_eq_some_iff.1 hb).1
    rw [World.cell?_alloc_lt _ _ _ hlt]; exact hc

theorem isRowF_drewN {k : FloatKind} {w : World} {a : Option Addr} {len cap : Nat} {zs : List Nat} (h : IsRowF k w a len cap zs) (n : Nat) : IsRowF k (w.drewN n) a len cap zs := h

theorem isRowF_new (w : World) (E : TypeId) (l : List Nat) (hm : l.length ≤ maxLen) (hl : ∀ n ∈ l, n < 2 ^ 32) : IsRowF .f32 (w.alloc (.cells (fcells l) E)) (some ⟨w.heap.size, 0, none⟩) l.length l.length l := by
  refine .inr ⟨_, rfl, Nat.le_refl _, hm, rfl, fun i hi => ?_, hl⟩
  rw [add_none, Nat.zero_add]
  rw [World.cell?_alloc_new]
  unfold fcells
  rw [List.getElem?_toArray, List.getElem?_map, List.getElem?_eq_getElem hi]
  simp [List.getD, hi]

theorem eqFloats_nil (w : World) (a b : Option Addr) (cap cap2 : Nat) :
    Calls Try.prog 44 #[.slice a 0 cap, .slice b 0 cap2] w (VRet (.bool true) w) := by
  go_enter Try.func44, Try.ntmps44
  go_wp2
  go_loop [5] (fun i => i = .int .i64 0) (fun i => 0)
  case atStart => rfl
  case round =>
    obtain rfl := hrel
    go_wp2
    go_ret
    exact ⟨0, rfl, rfl⟩

set_option maxHeartbeats 4000000 in
theorem eqFloats_any (w : World) (a b : Option Addr) (len cap cap2 : Nat) (zs ys : List Nat) (ha : IsRowF .f32 w a len cap zs) (hb : IsRowF .f32 w b len cap2 ys) (hl : len ≤ 1048576) (he : zs.take len = ys.take len) :
    Calls Try.prog 44 #[.slice a len cap, .slice b len cap2] w (VRet (.bool true) w) := by
  by_cases h0 : len = 0
  · subst h0; exact eqFloats_nil w a b cap cap2
  rcases ha with ⟨_, rfl, _, _⟩ | ⟨x, rfl, h2, h3, h4, h5, h6⟩
  · exact absurd rfl h0
  rcases hb with ⟨_, rfl, _, _⟩ | ⟨y, rfl, g2, g3, g4, g5, g6⟩
  · exact absurd rfl h0
  obtain ⟨xb, xo, xs⟩ := x
  obtain ⟨yb, yo, ys'⟩ := y
  have hx0 := h5 0 (by omega)
  have hy0 := g5 0 (by omega)
  obtain rfl : xs = none := by simpa [Addr.add] using World.cell?_spot hx0
  obtain rfl : ys' = none := by simpa [Addr.add] using World.cell?_spot hy0
  clear hx0 hy0
  have hcv := run_cv
  have hne : ((len : Int) != (len : Int)) = false := by simp
  go_enter Try.func44, Try.ntmps44
  go_wp2
  go_loopw [5] (fun i wr => ∃ k n : Nat, k ≤ len ∧ i = .int .i64 k ∧ wr = w.drewN n) (fun i _ => len - (intOf i).toNat)
  case atStart => exact ⟨0, 0, Nat.zero_le _, rfl, rfl⟩
  case round =>
    obtain ⟨k, n, hk, rfl, rfl⟩ := hrel
    by_cases hlt : k < len
    · have c1 : w.cell? ⟨xb, xo + k, none⟩ = some (.float .f32 (zs.getD k 0)) := by have := h5 k (by omega); rwa [add_none] at this
      have c2 : w.cell? ⟨yb, yo + k, none⟩ = some (.float .f32 (zs.getD k 0)) := by
        have := g5 k (by omega)
        have e : ys.getD k 0 = zs.getD k 0 := by
          have e1 : (ys.take len).getD k 0 = (zs.take len).getD k 0 := by rw [he]
          simpa [List.getD, List.getElem?_take, hlt] using e1
        rw [e] at this
        rwa [add_none] at this
      generalize zs.getD k 0 = v at c1 c2
      clear h5 g5 h6 g6 he h4 g4
      go_wp2
      go_region_with (go_at_call 33; refine (sameFloat_any _ _ (same_cvv _ _ _) _).mono ?_; rintro e w' ⟨m, rfl, rfl⟩)
      all_goals go_wp2
      all_goals (go_roundw; (case rel => exact ⟨k + 1, _, by omega, by go_num, rfl⟩); (case measure => simp [intOf]; omega))
    · obtain rfl : k = len := by omega
      clear h5 g5 h6 g6 he h4 g4
      go_wp2
      go_ret
      exact ⟨n, rfl, rfl⟩
end Go.Proofs.Ythkjikennlaelaa.Fl
