/-
  Rows of taps: read, copied, held against one another. No theorem of a claim stands here.
-/
import Derived.Test.YtbcjgjdkapdihabTapV
import Derived.Test.YtbcjgjdkapdihabTapO
import Derived.Test.YtbcjgjdkapdihabCv
import Derived.Outline
import Derived.OwnWalk
import Derived.Deep.OwnRows
import Derived.Deep.Slices
import Derived.Laws.AppendOwn
import Derived.Lib.Hide
set_option linter.unusedVariables false
set_option linter.unusedSimpArgs false
set_option maxRecDepth 8000
namespace Go.Proofs.Ytbcjgjdkapdihab
open Go Go.RowKit Go.Deep Go.Proofs.Ytbcjgjdkapdihab.Fl

/-- The numbers of a tap. -/
structure TapN where
  b : Int
  x : Int
  y : Int
  z : Int
  e : Nat
def tv (t : TapN) (q : Nat) : Value := match q with
  | 0 => .int .i64 t.b
  | 1 => .int .i64 t.x
  | 2 => .int .i64 t.y
  | 3 => .int .i64 t.z
  | _ => .float .f32 t.e
/-- Block g is a row of m cells of taps, the first k of which are S. -/
def TR (w : World) (g m k : Nat) (S : Nat → TapN) : Prop := ∃ f, w.rowIs g 32 m f ∧ ∀ i, i < k → ∀ q, q < 5 → f (i * 5 + q) = tv (S i) q
theorem TR.lt {w : World} {g m k : Nat} {S : Nat → TapN} (h : TR w g m k S) : g < w.heap.size := by
  obtain ⟨f, h2, _⟩ := h
  exact World.rowIs.lt h2
theorem TR.cell {w : World} {g m k : Nat} {S : Nat → TapN} (h : TR w g m k S) {i q : Nat} (hi : i < k) (hq : q < 5) (hm : i * 5 + q < m) : w.cell? ⟨g, i * 5 + q, none⟩ = some (tv (S i) q) := by
  obtain ⟨f, h2, h3⟩ := h
  rw [← h3 i hi q hq]
  exact h2.cell hm
theorem TR.there {w : World} {g m k : Nat} {S : Nat → TapN} (h : TR w g m k S) {j : Nat} (hm : j < m) : ∃ v, w.cell? ⟨g, j, none⟩ = some v := by
  obtain ⟨f, h2, h3⟩ := h
  exact ⟨_, h2.cell hm⟩
theorem TR.frozen {w : World} {g m k : Nat} {S : Nat → TapN} (h : TR w g m k S) (j : Nat) : w.frozen? ⟨g, j, none⟩ = false := by
  obtain ⟨f, h2, _⟩ := h
  exact h2.frozen j
theorem TR.below {w w' : World} {g m k B : Nat} {S : Nat → TapN} (h : TR w g m k S) (hb : Below B w w') (hB : g < B) : TR w' g m k S := by
  obtain ⟨f, h2, h3⟩ := h
  exact ⟨f, World.rowIs.of_block h2 (hb.block g hB), h3⟩
theorem TR.block {w w' : World} {g m k : Nat} {S : Nat → TapN} (h : TR w g m k S) (hb : w'.heap[g]? = w.heap[g]?) : TR w' g m k S := by
  obtain ⟨f, h2, h3⟩ := h
  exact ⟨f, World.rowIs.of_block h2 hb, h3⟩
theorem TR.set5 {w : World} {g m k : Nat} {S : Nat → TapN} (h : TR w g m k S) :
    TR (((((w.setCell ⟨g, k * 5, none⟩ (tv (S k) 0)).setCell ⟨g, k * 5 + 1, none⟩ (tv (S k) 1)).setCell ⟨g, k * 5 + 2, none⟩ (tv (S k) 2)).setCell ⟨g, k * 5 + 3, none⟩ (tv (S k) 3)).setCell ⟨g, k * 5 + 4, none⟩ (tv (S k) 4)) g m (k + 1) S := by
  obtain ⟨f, h2, h3⟩ := h
  refine ⟨_, (((((h2.set (k * 5) (tv (S k) 0)).set (k * 5 + 1) (tv (S k) 1)).set (k * 5 + 2) (tv (S k) 2)).set (k * 5 + 3) (tv (S k) 3)).set (k * 5 + 4) (tv (S k) 4)), fun j hj q hq => ?_⟩
  by_cases e : j = k
  · subst e
    obtain rfl | rfl | rfl | rfl | rfl : q = 0 ∨ q = 1 ∨ q = 2 ∨ q = 3 ∨ q = 4 := by omega
    all_goals simp
  · have hne : ∀ r, r < 5 → j * 5 + q ≠ k * 5 + r := fun r hr => by omega
    have e0 := hne 0 (by omega)
    have e1 := hne 1 (by omega)
    have e2 := hne 2 (by omega)
    have e3 := hne 3 (by omega)
    have e4 := hne 4 (by omega)
    rw [Nat.add_zero] at e0
    simp only [e0, e1, e2, e3, e4, if_false]
    exact h3 j (by omega) q hq
theorem TR.new (w : World) (C : Array Value) (S : Nat → TapN) : TR (w.alloc (.cells C 32)) w.heap.size C.size 0 S :=
  ⟨fun i => C.getD i (.bool false), World.rowIs_alloc w C _ _ (fun i hi => by simp [Array.getD, hi]), fun i hi => by omega⟩

/-- The slice (a, len, cap) reads as the taps S in w. -/
def TRd (w : World) (a : Option Addr) (len cap : Nat) (S : Nat → TapN) : Prop :=
  len ≤ cap ∧ cap ≤ maxLen ∧ ∀ k, k < len → ∃ b o, a = some ⟨b, o, none⟩ ∧ b < w.heap.size ∧ (S k).e < 2 ^ 32 ∧ ∀ q, q < 5 → w.cell? ⟨b, o + k * 5 + q, none⟩ = some (tv (S k) q)
theorem TRd.stays {w w' : World} {a : Option Addr} {len cap : Nat} {S : Nat → TapN} {B : Nat} (h : TRd w a len cap S) (hb : Below B w w') (hB : w.heap.size ≤ B) : TRd w' a len cap S := by
  obtain ⟨h1, h2, h3⟩ := h
  refine ⟨h1, h2, fun k hk => ?_⟩
  obtain ⟨b, o, e, hl, h4, hc⟩ := h3 k hk
  exact ⟨b, o, e, Nat.lt_of_lt_of_le hl hb.size, h4, fun q hq => (hb.cell (show (⟨b, o + k * 5 + q, none⟩ : Addr).block < B from Nat.lt_of_lt_of_le hl hB)).trans (hc q hq)⟩

theorem tadd_none (b o i : Nat) : (Addr.add ⟨b, o, none⟩ i) = ⟨b, o + i, none⟩ := by
  unfold Addr.add
  by_cases h : i = 0
  · subst h; rfl
  · rw [if_neg h]
theorem cells5 {w : World} {base : Nat} {a : Addr} {v0 v1 v2 v3 v4 : Value} (h : w.cells? base a 5 = some [v0, v1, v2, v3, v4]) : w.cell? (a.add 0) = some v0 ∧ w.cell? (a.add 1) = some v1 ∧ w.cell? (a.add 2) = some v2 ∧ w.cell? (a.add 3) = some v3 ∧ w.cell? (a.add 4) = some v4 := by
  unfold World.cells? at h
  split at h
  · simp only [List.range_succ_eq_map, List.range_zero, List.map_cons, List.map_nil, List.mapM_cons, List.mapM_nil] at h
    simp [Option.bind_eq_some_iff] at h
    obtain ⟨h0, h1, h2, h3, h4⟩ := h
    exact ⟨h0, h1, h2, h3, h4⟩
  · cases h
theorem tRd_of {H : Type} {enc : TypeId × Value → H} {w : World} {base : Nat} {held : Bool} {fuel : Nat} {a : Option Addr} {len cap : Nat} {r : DataW H × List MemPlace}
    (h : DataW.trod enc Try.prog w base (fun _ => true) held fuel 22 (Value.slice a len cap).cells.toList = some r) : ∃ S, TRd w a len cap S := by
  rcases open_slice Try.underlying22 h with ⟨hcs, _⟩ | ⟨x, l, c, m, n, D, Pl, hcs, _, hl, hm, hmm, _, hel⟩
  · simp [Value.cells] at hcs
    obtain ⟨rfl, rfl, rfl⟩ := hcs
    exact ⟨fun _ => ⟨0, 0, 0, 0, 0⟩, Nat.le_refl _, Nat.zero_le _, fun k hk => absurd hk (by omega)⟩
  · simp [Value.cells] at hcs
    obtain ⟨rfl, rfl, rfl⟩ := hcs
    simp at hmm; subst hmm
    have each : ∀ i, i < m → ∃ t : TapN, t.e < 2 ^ 32 ∧ ∀ q, q < 5 → w.cell? ((x.add (i * 5)).add q) = some (tv t q) := by
      intro i hi
      obtain ⟨cs', hcs', htr⟩ := hel i hi
      obtain ⟨b, x', y, z, e, rfl, _, _, _, _, _, he⟩ := tap_trod htr
      rw [cT] at hcs'
      obtain ⟨h0, h1, h2, h3, h4⟩ := cells5 hcs'
      refine ⟨⟨b, x', y, z, e⟩, he, fun q hq => ?_⟩
      obtain rfl | rfl | rfl | rfl | rfl : q = 0 ∨ q = 1 ∨ q = 2 ∨ q = 3 ∨ q = 4 := by omega
      · exact h0
      · exact h1
      · exact h2
      · exact h3
      · exact h4
    obtain ⟨S, hS⟩ : ∃ S : Nat → TapN, ∀ i, i < m → (S i).e < 2 ^ 32 ∧ ∀ q, q < 5 → w.cell? ((x.add (i * 5)).add q) = some (tv (S i) q) := by
      refine ⟨fun i => if hi : i < m then (each i hi).choose else ⟨0, 0, 0, 0, 0⟩, fun i hi => ?_⟩
      simp only [hi, dif_pos]
      exact (each i hi).choose_spec
    refine ⟨S, hl, hm, fun k hk => ?_⟩
    obtain ⟨b, o, s⟩ := x
    have hx0 := (hS 0 (by omega)).2 0 (by omega)
    obtain rfl : s = none := by simpa [Addr.add] using World.cell?_spot hx0
    obtain ⟨he, hc⟩ := hS k (by omega)
    refine ⟨b, o, rfl, ?_, he, fun q hq => ?_⟩
    · have h0 := World.block_lt_of_cell? w _ hx0
      simpa [tadd_none] using h0
    · have := hc q hq
      rwa [tadd_none, tadd_none] at this

theorem sz_any (w : World) (a : Option Addr) (len cap : Nat) (left : Int) (h1 : len ≤ 9223372036854775807) (h2 : 0 ≤ left ∧ left ≤ 1048576) : Calls Try.prog 4 #[.slice a len cap, .int .i64 left] w fun e w' => e = .returned (.int .i64 (if left - len < 0 then -1 else left - len)) ∧ w' = w := by
  by_cases h : left - (len : Int) < 0
  · rw [if_pos h]
    go_enter Try.func4, Try.ntmps4
    go_wp2
    all_goals go_ret
    all_goals exact ⟨rfl, rfl⟩
  · rw [if_neg h]
    go_enter Try.func4, Try.ntmps4
    go_wp2
    all_goals go_ret
    all_goals exact ⟨rfl, rfl⟩
theorem infoT : (Try.prog.info? 32).map (fun i => (i.zero, i.size, i.bytes)) = some (some (.agg #[.int .i64 0, .int .i64 0, .int .i64 0, .int .i64 0, .float .f32 0]), 5, 40) := by kernel_rfl
theorem info_partsT {o : Option TypeInfo} {z : Value} {s b : Nat} (h : o.map (fun i => (i.zero, i.size, i.bytes)) = some (some z, s, b)) : ∃ i, o = some i ∧ i.zero = some z ∧ i.size = s ∧ i.bytes = b := by
  cases o with
  | none => cases h
  | some i => simp at h; exact ⟨i, rfl, h.1, h.2.1, h.2.2⟩
set_option maxHeartbeats 4000000 in
theorem toTapS_any (w : World) (a : Option Addr) (len cap : Nat) (S : Nat → TapN) (ha : TRd w a len cap S) (hl : len ≤ 1048576) :
    Calls Try.prog 6 #[.slice a len cap] w fun en w' => ∃ g, en = .returned (.slice (some ⟨g, 0, none⟩) len len) ∧ w.heap.size ≤ g ∧ TR w' g (len * 5) len S ∧ Below w.heap.size w w' := by
  obtain ⟨i0, hz, hz0, hz1, hz2⟩ := info_partsT infoT
  have hT := fun (t : TapN) (w : World) => toTap_any t.b t.x t.y t.z t.e w
  unfold TV at hT
  have hmk := run_make (P := Try.prog) w 24 32 i0 _ Try.underlying24 hz hz0 .i64 .i64 len len (by omega) (by omega) (by rw [hz2]; omega) (by omega)
  obtain ⟨C, hC, hCs⟩ : ∃ C, madeCells (Value.agg #[.int .i64 0, .int .i64 0, .int .i64 0, .int .i64 0, .float .f32 0]).cells ((len : Int).toNat * i0.size) = C ∧ C.size = len * 5 := ⟨_, rfl, by rw [hz1]; simp [madeCells, Value.cells]⟩
  rw [hC] at hmk
  have hN := TR.new w C S
  rw [hCs] at hN
  have HN := Lib.hid hN
  have HB := Lib.hid ((Below.refl _ w).alloc (Nat.le_refl _) (.cells C 32))
  have Ha := Lib.hid ha
  have hst := fun (a : Addr) (v : Nat) (m : Mode) (w : World) => run_store Try.prog w a (.float .f32 v) m rfl
  clear ha hN hC hCs hz hz0 hz1 hz2
  go_enter Try.func6, Try.ntmps6
  go_wp2
  go_loopw [4] (fun i wr => ∃ k : Nat, k ≤ len ∧ i = .int .i64 k ∧ Hid (TR wr w.heap.size (len * 5) k S) ∧ Hid (Below w.heap.size w wr)) (fun i _ => len - (intOf i).toNat)
  case atStart => exact ⟨0, Nat.zero_le _, rfl, HN, HB⟩
  case round =>
    obtain ⟨k, hk, rfl, Hr, Hw⟩ := hrel
    clear HN HB
    by_cases hlt : k < len
    · obtain ⟨b, o, rfl, hbs, he, hc⟩ := (Ha.out.stays Hw.out (Nat.le_refl _)).2.2 k hlt
      have hcap := Ha.out.1
      have hT2 := fun w => hT (S k) w
      have c0 := hc 0 (by omega)
      have c1 := hc 1 (by omega)
      have c2 := hc 2 (by omega)
      have c3 := hc 3 (by omega)
      have c4 := hc 4 (by omega)
      have hst5 := fun (w' : World) (h : TR w' w.heap.size (len * 5) k S) => h.set5
      simp only [tv, Nat.add_zero] at c0 c1 c2 c3 c4 hst5
      have H5 := Lib.hid hst5
      generalize (S k).b = vb at *
      generalize (S k).x = vx at *
      generalize (S k).y = vy at *
      generalize (S k).z = vz at *
      generalize (S k).e = ve at *
      clear hc hT hst5
      go_wp2_with (go_at_call 11; refine (hT2 _).mono ?_; clear hT2; rintro en w2 ⟨rfl, hb2⟩; have Hw2 := Lib.hid (Hw.out.trans (hb2.mono Hw.out.size)); have Hr2 := Lib.hid (Hr.out.below hb2 Hr.out.lt); obtain ⟨d0, z0⟩ := Hr2.out.there (j := k * 5) (by omega); obtain ⟨d1, z1⟩ := Hr2.out.there (j := k * 5 + 1) (by omega); obtain ⟨d2, z2⟩ := Hr2.out.there (j := k * 5 + 2) (by omega); obtain ⟨d3, z3⟩ := Hr2.out.there (j := k * 5 + 3) (by omega); obtain ⟨d4, z4⟩ := Hr2.out.there (j := k * 5 + 4) (by omega); have f0 := Hr2.out.frozen (k * 5); have f1 := Hr2.out.frozen (k * 5 + 1); have f2 := Hr2.out.frozen (k * 5 + 2); have f3 := Hr2.out.frozen (k * 5 + 3); have f4 := Hr2.out.frozen (k * 5 + 4); clear hb2)
      go_roundw
      case rel => exact ⟨k + 1, by omega, by go_num, Lib.hid (H5.out _ Hr2.out), Lib.hid (((((Hw2.out.setCell (Nat.le_refl _) _).setCell (Nat.le_refl _) _).setCell (Nat.le_refl _) _).setCell (Nat.le_refl _) _).setCell (Nat.le_refl _) _)⟩
      case measure => simp [intOf]; omega
    · obtain rfl : k = len := by omega
      go_wp2
      go_ret
      exact ⟨_, rfl, Nat.le_refl _, Hr.out, Hw.out⟩
end Go.Proofs.Ytbcjgjdkapdihab
