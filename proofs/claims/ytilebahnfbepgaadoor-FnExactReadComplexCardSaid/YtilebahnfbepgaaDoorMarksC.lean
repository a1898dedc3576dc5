/-
  Lists of complex numbers that a call owns: compared, marked, held against the marks. No theorem of a claim stands here.
-/
import Derived.Test.YtilebahnfbepgaaDoorCplxS
import Derived.Laws.ComplexArith
set_option linter.unusedVariables false
namespace Go.Proofs.YtilebahnfbepgaaDoor
open Go Go.RowKit Go.Deep Go.Proofs.YtilebahnfbepgaaDoor.Fl

theorem OwnC.below {base : Nat} {w w' : World} {a : Option Addr} {cap : Nat} {l : List (Nat × Nat)} {B : Nat} (h : OwnC base w a cap l) (hb : Below B w w') (hB : w.heap.size ≤ B) : OwnC base w' a cap l := by
  refine ⟨h.1, ?_⟩
  rcases h.2 with h2 | ⟨g, c, cur, e1, h1, h2, h3⟩
  · exact .inl h2
  · have := (Array.getElem?_eq_some_iff.1 h2).1
    exact .inr ⟨g, c, cur, e1, h1, by rw [hb.block g (by omega)]; exact h2, h3⟩
theorem OwnC.base {b1 b2 : Nat} {w : World} {a : Option Addr} {cap : Nat} {l : List (Nat × Nat)} (h : OwnC b1 w a cap l) (hb : b2 ≤ b1) : OwnC b2 w a cap l := by
  refine ⟨h.1, ?_⟩
  rcases h.2 with h2 | ⟨g, c, cur, e1, h1, h2, h3⟩
  · exact .inl h2
  · exact .inr ⟨g, c, cur, e1, by omega, h2, h3⟩
theorem OwnC.cell {base : Nat} {w : World} {a : Option Addr} {cap : Nat} {l : List (Nat × Nat)} (h : OwnC base w a cap l) {k : Nat} (hk : k < l.length) :
    ∃ g, a = some ⟨g, 0, none⟩ ∧ base ≤ g ∧ g < w.heap.size ∧ l.length ≤ cap ∧ w.cell? ⟨g, k, none⟩ = some (.complex .f32 (l.getD k (0, 0)).1 (l.getD k (0, 0)).2) := by
  rcases h.2 with ⟨_, h2⟩ | ⟨g, c, cur, e1, h1, h2, h3, h4, h5, h6⟩
  · omega
  · simp at e1
    obtain ⟨rfl, rfl⟩ := e1
    refine ⟨g, rfl, h1, (Array.getElem?_eq_some_iff.1 h2).1, h3, ?_⟩
    have := h.cells (g := g) rfl k (.complex .f32 (l.getD k (0, 0)).1 (l.getD k (0, 0)).2) (by unfold cvals; rw [List.getElem?_map, List.getElem?_eq_getElem hk]; simp [List.getD, hk])
    rwa [add_none, Nat.zero_add] at this
theorem OwnC.row {base : Nat} {w : World} {a : Option Addr} {cap : Nat} {l : List (Nat × Nat)} (h : OwnC base w a cap l) (hl : l ≠ []) :
    ∃ (g : Nat) (f : Nat → Value), a = some ⟨g, 0, none⟩ ∧ base ≤ g ∧ g < w.heap.size ∧ l.length ≤ cap ∧ cap ≤ maxLen ∧ w.rowIs g 38 cap f := by
  rcases h.2 with ⟨_, h2⟩ | ⟨g, c, cur, e1, h1, h2, h3, h4, h5, h6⟩
  · exact absurd (List.length_eq_zero_iff.1 h2) hl
  · simp at e1
    obtain ⟨rfl, rfl⟩ := e1
    exact ⟨g, fun i => cur.getD i (.bool false), rfl, h1, (Array.getElem?_eq_some_iff.1 h2).1, h3, h4, cur, h2, by omega, fun i hi => by
      have : i < cur.size := by omega
      simp [Array.getD, this]⟩
theorem own_of_rowC {base g cap : Nat} {w : World} {f : Nat → Value} {l : List (Nat × Nat)} (h : w.rowIs g 38 cap f) (hb : base ≤ g) (hc : l.length ≤ cap) (hm : cap ≤ maxLen) (hf : ∀ i, i < l.length → f i = .complex .f32 (l.getD i (0, 0)).1 (l.getD i (0, 0)).2) : OwnC base w (some ⟨g, 0, none⟩) cap l := by
  obtain ⟨cur, h2, h3, h4⟩ := h
  refine ⟨by simp [cvals], .inr ⟨g, cap, cur, rfl, hb, h2, hc, hm, by omega, ?_⟩⟩
  apply List.ext_getElem?
  intro j
  rw [List.getElem?_take, Nat.mul_one]
  unfold cvals
  rw [List.getElem?_map]
  by_cases hj : j < l.length
  · rw [if_pos hj, Array.getElem?_toList, h4 j (by omega), hf j hj, List.getElem?_eq_getElem hj]
    simp [List.getD, hj]
  · rw [if_neg hj, List.getElem?_eq_none (by omega)]
    rfl



/-- The slice (a, len, cap) reads as the complex numbers l in w. -/
def CRd (w : World) (a : Option Addr) (len cap : Nat) (l : List (Nat × Nat)) : Prop :=
  l.length = len ∧ len ≤ cap ∧ ∀ k, k < len → ∃ b o, a = some ⟨b, o, none⟩ ∧ w.cell? ⟨b, o + k, none⟩ = some (.complex .f32 (l.getD k (0, 0)).1 (l.getD k (0, 0)).2) ∧ b < w.heap.size
theorem CRd.stays {w w' : World} {a : Option Addr} {len cap : Nat} {l : List (Nat × Nat)} {B : Nat} (h : CRd w a len cap l) (hb : Below B w w') (hB : w.heap.size ≤ B) : CRd w' a len cap l := by
  obtain ⟨h1, h2, h4⟩ := h
  refine ⟨h1, h2, fun k hk => ?_⟩
  obtain ⟨b, o, e, hc, hl⟩ := h4 k hk
  exact ⟨b, o, e, (hb.cell (show (⟨b, o + k, none⟩ : Addr).block < B from Nat.lt_of_lt_of_le hl hB)).trans hc, Nat.lt_of_lt_of_le hl hb.size⟩
theorem OwnC.reads {base : Nat} {w : World} {a : Option Addr} {cap : Nat} {l : List (Nat × Nat)} (h : OwnC base w a cap l) : CRd w a l.length cap l := by
  refine ⟨rfl, ?_, fun k hk => ?_⟩
  · rcases h.2 with ⟨e, h2⟩ | ⟨g, c, cur, e1, h1, h2, h3, _⟩
    · simp at e; omega
    · simp at e1; omega
  · obtain ⟨g, e, _, hl, _, hc⟩ := h.cell hk
    exact ⟨g, 0, e, by rw [Nat.zero_add]; exact hc, hl⟩

set_option maxHeartbeats 4000000 in
theorem eqC_any (w : World) (a b : Option Addr) (len cap cap2 : Nat) (l : List (Nat × Nat)) (ha : CRd w a len cap l) (hb : CRd w b len cap2 l) (hl : len ≤ 1048576) :
    Calls Tryd.prog 8 #[.slice a len cap, .slice b len cap2] w (VRet (.bool true) w) := by
  have hne : ((len : Int) != (len : Int)) = false := by simp
  have hcv := run_ccv
  have Ha := Lib.hid ha
  have Hb := Lib.hid hb
  clear ha hb
  go_enter Tryd.func8, Tryd.ntmps8
  go_wp2
  go_loopw [5] (fun i wr => ∃ k n : Nat, k ≤ len ∧ i = .int .i64 k ∧ wr = w.drewN n) (fun i _ => len - (intOf i).toNat)
  case atStart => exact ⟨0, 0, Nat.zero_le _, rfl, rfl⟩
  case round =>
    obtain ⟨k, n, hk, rfl, rfl⟩ := hrel
    by_cases hlt : k < len
    · obtain ⟨b1, o1, rfl, c1, hbs1⟩ := Ha.out.2.2 k hlt
      obtain ⟨b2, o2, rfl, c2, hbs2⟩ := Hb.out.2.2 k hlt
      have hc1 := Ha.out.2.1
      have hc2 := Hb.out.2.1
      generalize (l.getD k (0, 0)).1 = v1 at c1 c2
      generalize (l.getD k (0, 0)).2 = v2 at c1 c2
      go_wp2
      go_region_with (go_at_call 22; refine (sameComplex_any _ _ _ _ (same_cvv _ _ _) (same_cvv _ _ _) _).mono ?_; rintro e w' ⟨m, rfl, rfl⟩)
      all_goals go_wp2
      all_goals (go_roundw; (case rel => exact ⟨k + 1, _, by omega, by go_num, rfl⟩); (case measure => simp [intOf]; omega))
    · obtain rfl : k = len := by omega
      go_wp2
      go_ret
      exact ⟨n, rfl, rfl⟩

/-- The real part that a mark is. -/
def cm (m : Nat) : Nat := (floatToFloatBits .f64 (floatOfInt .f64 (m : Int)) .f32).getD 0
theorem cm_good : ∀ m : Nat, m < 300 → cConvBits .f64 (floatOfInt .f64 (m : Int)) 4607182418800017408 .f32 = some (cm m, 1065353216) ∧ (vl .f32 (cm m)).isSome = true := by decide +kernel
def cmarks (n : Nat) : List (Nat × Nat) := (List.range n).map fun j => (cm (1 + j), 1065353216)
theorem cmarks_len (n : Nat) : (cmarks n).length = n := by simp [cmarks]
theorem cmarks_get {n k : Nat} (hk : k < n) : (cmarks n).getD k (0, 0) = (cm (1 + k), 1065353216) := by simp [cmarks, List.getD, hk]
theorem c64_some : (Tryd.prog.underlying 41).isSome = true := by rw [Tryd.underlying41]; rfl
theorem run_mark {m : Nat} (h : m < 300) (w : World) : (convert 41 38 (.complex .f64 (floatOfInt .f64 (m : Int)) 4607182418800017408)).run Tryd.prog w = .ok (.complex .f32 (cm m) 1065353216) w :=
  run_convert_complex (P := Tryd.prog) w 41 38 .f64 .f32 _ _ _ _ c64_some Tryd.underlying38 (cm_good m h).1

theorem markC_any (w : World) (base : Nat) (a : Option Addr) (cap : Nat) (l : List (Nat × Nat)) (ha : OwnC base w a cap l) (hl : l.length ≤ 256) (hb : base ≤ w.heap.size) :
    Calls Tryd.prog 9 #[.slice a l.length cap, .int .i64 1] w fun e w' => e = .returned (.int .i64 (1 + l.length)) ∧ OwnC base w' a cap (cmarks l.length) ∧ Below base w w' := by
  by_cases hz : l = []
  · subst hz
    go_enter Tryd.func9, Tryd.ntmps9
    go_wp2
    go_loopw [1, 5] (fun M i wr => M = .int .i64 1 ∧ i = .int .i64 0 ∧ wr = w) (fun _ i _ => 0)
    case atStart => exact ⟨rfl, rfl, rfl⟩
    case round =>
      obtain ⟨rfl, rfl, rfl⟩ := hrel
      go_wp2
      go_ret
      exact ⟨by simp, ha, Below.refl _ _⟩
  obtain ⟨g, f, rfl, hg, hgs, hc, hcm, hrow⟩ := ha.row hz
  have hst := fun (a : Addr) (v1 v2 : Nat) (m : Mode) (w : World) => run_store Tryd.prog w a (.complex .f32 v1 v2) m rfl
  generalize hn : l.length = n at *
  clear ha hz
  go_enter Tryd.func9, Tryd.ntmps9
  go_wp2
  go_loopw [1, 5] (fun M i wr => ∃ k : Nat, k ≤ n ∧ M = .int .i64 (1 + k) ∧ i = .int .i64 k ∧ Hid (wr.rowIs g 38 cap (fun j => if j < k then .complex .f32 (cm (1 + j)) 1065353216 else f j)) ∧ Hid (Below base w wr)) (fun _ i _ => n - (intOf i).toNat)
  case atStart => exact ⟨0, Nat.zero_le _, by simp, rfl, Lib.hid (by simpa using hrow), Lib.hid (Below.refl _ _)⟩
  case round =>
    obtain ⟨k, hk, rfl, rfl, Hr, Hw⟩ := hrel
    by_cases hlt : k < n
    · have c1 := Hr.out.cell (i := k) (by omega)
      have c3 := Hr.out.frozen k
      rw [if_neg (Nat.lt_irrefl k)] at c1
      have hfm := run_mark (m := 1 + k) (by omega)
      rw [show (((1 + k : Nat) : Int)) = 1 + (k : Int) by omega] at hfm
      have Hr2 := Lib.hid (Hr.out.set k (.complex .f32 (cm (1 + k)) 1065353216))
      have Hw2 := Lib.hid (Hw.out.setCell (p := ⟨g, k, none⟩) hg (.complex .f32 (cm (1 + k)) 1065353216))
      generalize f k = fv at c1
      generalize hF : cm (1 + k) = F at hfm Hr2 Hw2
      go_wp2
      go_roundw
      case rel =>
        refine ⟨k + 1, by omega, by go_num, by go_num, Lib.hid ?_, Hw2⟩
        refine Hr2.out.congr fun j hj => ?_
        by_cases e : j = k
        · subst e; simp [hF]
        · by_cases e2 : j < k
          · rw [if_neg e, if_pos e2, if_pos (by omega)]
          · rw [if_neg e, if_neg e2, if_neg (by omega)]
      case measure => simp [intOf]; omega
    · obtain rfl : k = n := by omega
      go_wp2
      go_ret
      refine ⟨rfl, own_of_rowC Hr.out hg (by rw [cmarks_len]; exact hc) hcm (fun i hi => ?_), Hw.out⟩
      rw [cmarks_len] at hi
      rw [if_pos hi, cmarks_get hi]

theorem heldC_any (w : World) (a : Option Addr) (cap : Nat) (n : Nat) (ha : CRd w a n cap (cmarks n)) (hl : n ≤ 256) :
    Calls Tryd.prog 10 #[.slice a n cap, .int .i64 1] w fun e w' => e = .returned (.int .i64 (1 + n)) ∧ w' = w := by
  have Ha := Lib.hid ha
  clear ha
  have ho2 := order_self_num' (k := .f32) (b := 1065353216) (c := 1065353216) (by decide)
  go_enter Tryd.func10, Tryd.ntmps10
  go_wp2
  go_loop [1, 5] (fun M i => ∃ k : Nat, k ≤ n ∧ M = .int .i64 (1 + k) ∧ i = .int .i64 k) (fun _ i => n - (intOf i).toNat)
  case atStart => exact ⟨0, Nat.zero_le _, by simp, rfl⟩
  case round =>
    obtain ⟨k, hk, rfl, rfl⟩ := hrel
    by_cases hlt : k < n
    · obtain ⟨b, o, rfl, hc, hbs⟩ := Ha.out.2.2 k hlt
      have hcap := Ha.out.2.1
      rw [cmarks_get hlt] at hc
      simp only at hc
      have hfm := run_mark (m := 1 + k) (by omega)
      rw [show (((1 + k : Nat) : Int)) = 1 + (k : Int) by omega] at hfm
      obtain ⟨c, hcs⟩ := Option.isSome_iff_exists.1 (cm_good (1 + k) (by omega)).2
      have ho1 := order_self_num' hcs
      generalize cm (1 + k) = F at hc hfm ho1
      clear hcs
      go_wp2
      go_round
      case rel => exact ⟨k + 1, by omega, by go_num, by go_num⟩
      case measure => simp [intOf]; omega
    · obtain rfl : k = n := by omega
      go_wp2
      go_ret
      exact ⟨rfl, rfl⟩
end Go.Proofs.YtilebahnfbepgaaDoor
