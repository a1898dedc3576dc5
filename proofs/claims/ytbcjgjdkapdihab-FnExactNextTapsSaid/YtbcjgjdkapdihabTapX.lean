/-
  Taps whose phases go around; rows of taps that are marked. No theorem of a claim stands here.
-/
import Derived.Test.YtbcjgjdkapdihabTapS
import Derived.Test.YtbcjgjdkapdihabFe
import Derived.BigRegion
set_option linter.unusedVariables false
set_option linter.unusedSimpArgs false
set_option maxRecDepth 8000
namespace Go.Proofs.Ytbcjgjdkapdihab
open Go Go.RowKit Go.Deep Go.Proofs.Ytbcjgjdkapdihab.Fl

/-- The tap whose phases have gone around. -/
def nxt (t : TapN) : TapN := ⟨t.b, t.z, t.x, t.y, t.e⟩
theorem tbel (w : World) (o : Obj) : Below w.heap.size w (w.alloc o) := (Below.refl _ w).alloc (Nat.le_refl _) _
theorem info_partsX {o : Option TypeInfo} {z : Value} {s b : Nat} (h : o.map (fun i => (i.zero, i.size, i.bytes)) = some (some z, s, b)) : ∃ i, o = some i ∧ i.zero = some z ∧ i.size = s ∧ i.bytes = b := info_partsT h
def tvals (t : TapN) : List Value := [.int .i64 t.b, .int .i64 t.x, .int .i64 t.y, .int .i64 t.z, .float .f32 t.e]
def tlist (S : Nat → TapN) : Nat → List Value
  | 0 => []
  | n + 1 => tlist S n ++ tvals (S n)
theorem tlist_len (S : Nat → TapN) : ∀ n, (tlist S n).length = n * 5
  | 0 => rfl
  | n + 1 => by unfold tlist; rw [List.length_append, tlist_len S n]; simp [tvals]; omega
theorem tvals_get (t : TapN) {q : Nat} (hq : q < 5) : (tvals t)[q]? = some (tv t q) := by
  obtain rfl | rfl | rfl | rfl | rfl : q = 0 ∨ q = 1 ∨ q = 2 ∨ q = 3 ∨ q = 4 := by omega
  all_goals rfl
theorem tlist_get (S : Nat → TapN) : ∀ n i q, i < n → q < 5 → (tlist S n)[i * 5 + q]? = some (tv (S i) q)
  | 0, i, q, h, _ => by omega
  | n + 1, i, q, h, hq => by
    unfold tlist
    by_cases hi : i < n
    · rw [List.getElem?_append_left (by rw [tlist_len]; omega)]
      exact tlist_get S n i q hi hq
    · obtain rfl : i = n := by omega
      rw [List.getElem?_append_right (by rw [tlist_len]; omega), tlist_len, show i * 5 + q - i * 5 = q by omega]
      exact tvals_get _ hq
theorem tvals_one (t : TapN) : ∀ u ∈ tvals t, u.oneCell' = true := by
  intro u h
  unfold tvals at h
  simp only [List.mem_cons, List.mem_nil_iff, or_false] at h
  rcases h with rfl | rfl | rfl | rfl | rfl <;> rfl
theorem tlist_one (S : Nat → TapN) : ∀ n, ∀ u ∈ tlist S n, u.oneCell' = true
  | 0, u, h => by cases h
  | n + 1, u, h => by
    unfold tlist at h
    rcases List.mem_append.1 h with h | h
    · exact tlist_one S n u h
    · exact tvals_one _ u h
theorem tR_own {w : World} {base g n c : Nat} {S : Nat → TapN} (h : w.ownsRow base 32 5 (.slice (some ⟨g, 0, none⟩) n c) n (tlist S n)) : base ≤ g ∧ g < w.heap.size ∧ n ≤ c ∧ TR w g (c * 5) n S := by
  rcases h.2 with ⟨h2, _⟩ | ⟨g2, c2, cur, e1, h1, h2, h3, h4, h5, h6⟩
  · cases h2
  · simp at e1
    obtain ⟨rfl, rfl⟩ := e1
    refine ⟨h1, (Array.getElem?_eq_some_iff.1 h2).1, h3, fun i => cur.getD i (.bool false), ⟨cur, h2, h5, fun i hi => ?_⟩, fun i hi q hq => ?_⟩
    · have : i < cur.size := by omega
      simp [Array.getD, this]
    · have hp := tlist_get S n i q hi hq
      rw [← h6, List.getElem?_take, if_pos (by omega), Array.getElem?_toList] at hp
      simp [hp]
theorem own_formX {w : World} {base n s : Nat} {e : TypeId} {v : Value} {xs : List Value} (h : w.ownsRow base e s v n xs) (hn : v ≠ .slice none 0 0) : ∃ g cap, v = .slice (some ⟨g, 0, none⟩) n cap := by
  rcases h.2 with ⟨h2, _⟩ | ⟨g, c, cur, e1, _⟩
  · exact absurd h2 hn
  · exact ⟨g, c, e1⟩
theorem own_ltX {w : World} {base n s : Nat} {e : TypeId} {g c : Nat} {xs : List Value} (h : w.ownsRow base e s (.slice (some ⟨g, 0, none⟩) n c) n xs) : base ≤ g ∧ g < w.heap.size ∧ n ≤ c ∧ c ≤ maxLen := by
  rcases h.2 with ⟨h2, _⟩ | ⟨g2, c2, cur, e1, h1, h2, h3, h4, _⟩
  · cases h2
  · simp at e1
    obtain ⟨rfl, rfl⟩ := e1
    exact ⟨h1, (Array.getElem?_eq_some_iff.1 h2).1, h3, h4⟩
theorem newsX (w : World) (o : Obj) (L : List Value) (t : TypeId) : ∀ j u, L[j]? = some u → ((w.alloc o).alloc (.cells L.toArray t)).cell? ((⟨w.heap.size + 1, 0, none⟩ : Addr).add j) = some u := by
  intro j u hu
  have h := World.cell?_alloc_new (w.alloc o) L.toArray t j
  rw [World.size_alloc] at h
  rw [tadd_none, Nat.zero_add, h]
  simpa using hu
/-- What came of a row of taps: another one, of the call's own. -/
def NxPost (n : Nat) (S : Nat → TapN) (w : World) (en : Ending) (w' : World) : Prop := ∃ g c m, en = .returned (.slice (some ⟨g, 0, none⟩) n c) ∧ w.heap.size ≤ g ∧ n ≤ c ∧ n * 5 ≤ m ∧ TR w' g m n S ∧ Below w.heap.size w w'

set_option maxHeartbeats 4000000 in
theorem specNext_any (w : World) (g n m c : Nat) (S : Nat → TapN) (h : TR w g m n S) (hm : n * 5 ≤ m) (hl : n ≤ 1048576) (hc : n ≤ c) :
    Calls Try.prog 5 #[.slice (some ⟨g, 0, none⟩) n c] w (NxPost n (fun i => nxt (S i)) w) := by
  obtain ⟨i0, hz, hz0, hz1, hz2⟩ := info_partsT infoT
  have Ho1 : Hid ((w.alloc (.cells #[] 32)).ownsRow w.heap.size 32 5 (.slice (some ⟨w.heap.size, 0, none⟩) 0 0) 0 (tlist (fun i => nxt (S i)) 0)) := Lib.hid (World.ownsRow_lit w #[] 0 (Nat.le_refl _) (by simp [maxLen]) rfl)
  have hst := fun (a : Addr) (v : Nat) (m : Mode) (w : World) => run_store Try.prog w a (.float .f32 v) m rfl
  have H := Lib.hid h
  have HB := Lib.hid (tbel w (.cells #[] 32))
  clear h
  unfold NxPost
  go_enter Try.func5, Try.ntmps5
  go_wp2
  go_loopw [3, 9] (fun R I wr => ∃ (k g' c' : Nat), k ≤ n ∧ I = .int .i64 k ∧ R = .slice (some ⟨g', 0, none⟩) k c' ∧ Hid (wr.ownsRow w.heap.size 32 5 (.slice (some ⟨g', 0, none⟩) k c') k (tlist (fun i => nxt (S i)) k)) ∧ Hid (Below w.heap.size w wr)) (fun _ I _ => n - (intOf I).toNat)
  case atStart => exact ⟨0, w.heap.size, 0, Nat.zero_le _, rfl, rfl, Ho1, HB⟩
  case round =>
    obtain ⟨k, g', c', hk, rfl, rfl, Ho, Hw⟩ := hrel
    clear Ho1 HB
    by_cases hlt : k < n
    · have r1 := H.out.below Hw.out H.out.lt
      have a0 := r1.cell (i := k) (q := 0) hlt (by omega) (by omega)
      have a1 := r1.cell (i := k) (q := 1) hlt (by omega) (by omega)
      have a2 := r1.cell (i := k) (q := 2) hlt (by omega) (by omega)
      have a3 := r1.cell (i := k) (q := 3) hlt (by omega) (by omega)
      have a4 := r1.cell (i := k) (q := 4) hlt (by omega) (by omega)
      have hT : tlist (fun i => nxt (S i)) (k + 1) = tlist (fun i => nxt (S i)) k ++ [.int .i64 (S k).b, .int .i64 (S k).z, .int .i64 (S k).x, .int .i64 (S k).y, .float .f32 (S k).e] := rfl
      have HT := Lib.hid hT
      have Hsz := Lib.hid Hw.out.size
      have hob := own_ltX Ho.out
      simp only [tv, Nat.add_zero] at a0 a1 a2 a3 a4
      generalize (S k).b = vb at *
      generalize (S k).x = vx at *
      generalize (S k).y = vy at *
      generalize (S k).z = vz at *
      generalize (S k).e = ve at *
      clear r1 hT
      have HO : ∀ o1 o2, ((wr.alloc o1).alloc o2).ownsRow w.heap.size 32 5 (.slice (some ⟨g', 0, none⟩) k c') k (tlist (fun i => nxt (S i)) k) := fun o1 o2 => (Ho.out.alloc o1).alloc o2
      go_wp2_with (at_builtin; go_loud (refine wpList_append_own _ rfl (.tmp 16) (.tmp 28) 24 rfl w.heap.size 32 i0 _ 5 40 Try.underlying24 hz hz0 hz1 hz2 rfl (by decide) (.slice (some ⟨g', 0, none⟩) k c') k _ rfl (HO _ _) ⟨wr.heap.size + 1, 0, none⟩ 1 1 [.int .i64 vb, .int .i64 vz, .int .i64 vx, .int .i64 vy, .float .f32 ve] rfl rfl (newsX _ _ _ _) (tvals_one ⟨vb, vz, vx, vy, ve⟩) (by unfold maxLen; omega) (by omega) (by have := Hsz.out; simp; omega) ?_); intro v' w25 hown' hgrow hnil; obtain ⟨g2, c2, rfl⟩ := own_formX hown' (fun e => by have := (hnil.1 e).2; omega); have Ho6 := Lib.hid hown'; have Hb6 := Lib.hid (((Hw.out.alloc Hsz.out _).alloc (by have := Hsz.out; simp; omega) _).grown hgrow (by have := Hsz.out; simp; omega) (by intro x hx; simp [Value.ownBlock] at hx; omega)); clear hown' hgrow hnil)
      go_roundw
      case rel => exact ⟨k + 1, g2, c2, by omega, by go_num, rfl, Lib.hid (by rw [HT.out]; exact Ho6.out), Hb6⟩
      case measure => simp [intOf]; omega
    · obtain rfl : k = n := by omega
      obtain ⟨h1, h2, h3, h4⟩ := tR_own Ho.out
      go_wp2
      go_ret
      exact ⟨g', c', _, rfl, h1, h3, Nat.mul_le_mul_right 5 h3, h4, Hw.out⟩
set_option maxHeartbeats 4000000 in
theorem cloneT_any (w : World) (g n m c : Nat) (S : Nat → TapN) (h : TR w g m n S) (hm : n * 5 ≤ m) (hl : n ≤ 1048576) :
    Calls Try.prog 12 #[.slice (some ⟨g, 0, none⟩) n c] w (NxPost n S w) := by
  obtain ⟨i0, hz, hz0, hz1, hz2⟩ := info_partsT infoT
  have hnil : ∀ w : World, Sem.run Try.prog (binOp BinOp.eql 24 (Value.slice (some ⟨g, 0, none⟩) n c) (Value.slice none 0 0)) w = .ok (.bool false) w := fun w => by kernel_rfl
  have Ho1 : Hid ((w.alloc (.cells #[] 32)).ownsRow w.heap.size 32 5 (.slice (some ⟨w.heap.size, 0, none⟩) 0 0) 0 (tlist S 0)) := Lib.hid (World.ownsRow_lit w #[] 0 (Nat.le_refl _) (by simp [maxLen]) rfl)
  have hcell : Hid (∀ j u, (tlist S n)[j]? = some u → (w.alloc (.cells #[] 32)).cell? ((⟨g, 0, none⟩ : Addr).add j) = some u) := Lib.hid (fun j u hj => by
    have hR2 := h.below (tbel w (.cells #[] 32)) h.lt
    have hlt : j < n * 5 := by
      have := (List.getElem?_eq_some_iff.1 hj).1
      rwa [tlist_len] at this
    have hq := tlist_get S n (j / 5) (j % 5) (by omega) (by omega)
    have hc := hR2.cell (i := j / 5) (q := j % 5) (by omega) (by omega) (by omega)
    rw [show j / 5 * 5 + j % 5 = j by omega] at hq hc
    rw [hq] at hj
    rw [tadd_none, Nat.zero_add, hc]
    exact hj)
  clear h
  unfold NxPost
  go_enter Try.func12, Try.ntmps12
  go_wp2_with (at_builtin; refine wpList_append_own _ rfl (.tmp 5) (.tmp 6) 24 rfl w.heap.size 32 i0 _ 5 40 Try.underlying24 hz hz0 hz1 hz2 rfl (by decide) (.slice (some ⟨w.heap.size, 0, none⟩) 0 0) 0 _ rfl Ho1.out ⟨g, 0, none⟩ n c (tlist S n) rfl (tlist_len S n) hcell.out (tlist_one S n) (by unfold maxLen; omega) (by omega) (by simp) ?_; intro v' w3 hown' hgrow3 hnil3; obtain ⟨g', c', rfl⟩ := own_formX hown' (fun e => by have := (hnil3.1 e).1; cases this); rw [Nat.zero_add] at hown'; have Ho := Lib.hid hown'; have Hb := Lib.hid ((tbel w (.cells #[] 32)).grown hgrow3 (by simp) (by intro x hx; simp [Value.ownBlock] at hx; omega)); clear hown' hgrow3 hnil3)
  obtain ⟨h1, h2, h3, h4⟩ := tR_own (show _ from (by simpa [tlist] using Ho.out))
  go_wp2
  go_ret
  exact ⟨g', c', _, by simp, h1, h3, Nat.mul_le_mul_right 5 h3, h4, Hb.out⟩
theorem TR.set3 {w : World} {g m n : Nat} {S T : Nat → TapN} (h : TR w g m n S) {k : Nat} (hk : k < n) (hT : ∀ j, j ≠ k → T j = S j) (hb : (T k).b = (S k).b) (he : (T k).e = (S k).e) :
    TR (((w.setCell ⟨g, k * 5 + 1, none⟩ (tv (T k) 1)).setCell ⟨g, k * 5 + 2, none⟩ (tv (T k) 2)).setCell ⟨g, k * 5 + 3, none⟩ (tv (T k) 3)) g m n T := by
  obtain ⟨f, h2, h3⟩ := h
  refine ⟨_, ((h2.set (k * 5 + 1) (tv (T k) 1)).set (k * 5 + 2) (tv (T k) 2)).set (k * 5 + 3) (tv (T k) 3), fun j hj q hq => ?_⟩
  by_cases e : j = k
  · subst e
    have p := h3 j hj
    obtain rfl | rfl | rfl | rfl | rfl : q = 0 ∨ q = 1 ∨ q = 2 ∨ q = 3 ∨ q = 4 := by omega
    · have := p 0 (by omega)
      simp only [tv, Nat.add_zero] at this ⊢
      simp [this, hb]
    · simp
    · simp
    · simp
    · have := p 4 (by omega)
      simp only [tv] at this ⊢
      simp [this, he]
  · have hne : ∀ r, r < 5 → j * 5 + q ≠ k * 5 + r := fun r hr => by omega
    have e1 := hne 1 (by omega)
    have e2 := hne 2 (by omega)
    have e3 := hne 3 (by omega)
    simp only [e1, e2, e3, if_false]
    rw [h3 j hj q hq, hT j e]
/-- The first k taps have gone around. -/
def part (S : Nat → TapN) (k : Nat) : Nat → TapN := fun i => if i < k then nxt (S i) else S i
theorem TR.congr {w : World} {g m n : Nat} {S T : Nat → TapN} (h : TR w g m n S) (hT : ∀ i, i < n → T i = S i) : TR w g m n T := by
  obtain ⟨f, h2, h3⟩ := h
  exact ⟨f, h2, fun i hi q hq => by rw [h3 i hi q hq, hT i hi]⟩
set_option maxHeartbeats 4000000 in
theorem implNext_any (w : World) (g n m c : Nat) (S : Nat → TapN) (h : TR w g m n S) (hm : n * 5 ≤ m) (hl : n ≤ 1048576) (hc : n ≤ c) :
    Calls Try.prog 7 #[.slice (some ⟨g, 0, none⟩) n c] w (NxPost n (fun i => nxt (S i)) w) := by
  have hC := cloneT_any w g n m c S h hm hl
  have hst := fun (a : Addr) (v : Nat) (m : Mode) (w : World) => run_store Try.prog w a (.float .f32 v) m rfl
  have H := Lib.hid h
  clear h
  unfold NxPost at *
  go_enter Try.func7, Try.ntmps7
  go_wp2_with fail
  refine hC.mono ?_
  rintro en w1 ⟨g1, c1, m1, rfl, hg1, hc1, hm1, r1, b1⟩
  have B1 := Lib.hid b1
  have R1 := Lib.hid r1
  clear b1 r1 hC
  go_wp2_with fail
  go_loopw [10] (fun I wr => ∃ k : Nat, k ≤ n ∧ I = .int .i64 k ∧ Hid (TR wr g1 m1 n (part S k)) ∧ Hid (Below w.heap.size w wr)) (fun I _ => n - (intOf I).toNat)
  case atStart => exact ⟨0, Nat.zero_le _, rfl, Lib.hid (R1.out.congr (fun i hi => by unfold part; rw [if_neg (by omega)])), B1⟩
  case round =>
    obtain ⟨k, hk, rfl, Hr, Hw⟩ := hrel
    clear R1 B1
    by_cases hlt : k < n
    · have r0 := H.out.below Hw.out H.out.lt
      have a0 := r0.cell (i := k) (q := 0) hlt (by omega) (by omega)
      have a1 := r0.cell (i := k) (q := 1) hlt (by omega) (by omega)
      have a2 := r0.cell (i := k) (q := 2) hlt (by omega) (by omega)
      have a3 := r0.cell (i := k) (q := 3) hlt (by omega) (by omega)
      have a4 := r0.cell (i := k) (q := 4) hlt (by omega) (by omega)
      simp only [tv, Nat.add_zero] at a0 a1 a2 a3 a4
      have hS3 := fun (w' : World) (h : TR w' g1 m1 n (part S k)) => h.set3 (T := part S (k + 1)) hlt (fun j hj => by unfold part; by_cases e : j < k
                                                                                                                      · rw [if_pos e, if_pos (by omega)]
                                                                                                                      · rw [if_neg e, if_neg (by omega)]) (by unfold part nxt; rw [if_pos (by omega), if_neg (by omega)]) (by unfold part nxt; rw [if_pos (by omega), if_neg (by omega)])
      rw [show part S (k + 1) k = nxt (S k) by unfold part; rw [if_pos (by omega)]] at hS3
      simp only [tv, nxt] at hS3
      have H3 := Lib.hid hS3
      have Hsz := Lib.hid Hw.out.size
      have hg1s := Hr.out.lt
      generalize (S k).b = vb at *
      generalize (S k).x = vx at *
      generalize (S k).y = vy at *
      generalize (S k).z = vz at *
      generalize (S k).e = ve at *
      clear r0 hS3
      go_wp2_with fail
      have hb7 := tbel wr (.cells #[.int .i64 vb, .int .i64 vx, .int .i64 vy, .int .i64 vz, .float .f32 ve] 32)
      have p1 : (wr.alloc (.cells #[.int .i64 vb, .int .i64 vx, .int .i64 vy, .int .i64 vz, .float .f32 ve] 32)).cell? ⟨wr.heap.size, 1, none⟩ = some (.int .i64 vx) := by simp [go_sem]
      have p2 : (wr.alloc (.cells #[.int .i64 vb, .int .i64 vx, .int .i64 vy, .int .i64 vz, .float .f32 ve] 32)).cell? ⟨wr.heap.size, 2, none⟩ = some (.int .i64 vy) := by simp [go_sem]
      have p3 : (wr.alloc (.cells #[.int .i64 vb, .int .i64 vx, .int .i64 vy, .int .i64 vz, .float .f32 ve] 32)).cell? ⟨wr.heap.size, 3, none⟩ = some (.int .i64 vz) := by simp [go_sem]
      generalize hW7 : (wr.alloc (.cells #[.int .i64 vb, .int .i64 vx, .int .i64 vy, .int .i64 vz, .float .f32 ve] 32)) = W7 at *
      have Hr7 := Lib.hid (Hr.out.below hb7 hg1s)
      have Hw7 := Lib.hid (Hw.out.trans (hb7.mono Hw.out.size))
      obtain ⟨d1, z1⟩ := Hr7.out.there (j := k * 5 + 1) (by omega)
      obtain ⟨d2, z2⟩ := Hr7.out.there (j := k * 5 + 2) (by omega)
      obtain ⟨d3, z3⟩ := Hr7.out.there (j := k * 5 + 3) (by omega)
      have f1 := Hr7.out.frozen (k * 5 + 1)
      have f2 := Hr7.out.frozen (k * 5 + 2)
      have f3 := Hr7.out.frozen (k * 5 + 3)
      have hne : g1 ≠ wr.heap.size := by omega
      clear hW7 hb7 a0 a1 a2 a3 a4 Hr Hw
      go_region
      go_wp2
      go_roundw
      case rel => exact ⟨k + 1, by omega, by go_num, Lib.hid (H3.out _ Hr7.out), Lib.hid (((Below.setCell (p := ⟨g1, k * 5 + 3, none⟩) (Below.setCell (p := ⟨g1, k * 5 + 2, none⟩) (Below.setCell (p := ⟨g1, k * 5 + 1, none⟩) Hw7.out hg1 _) hg1 _) hg1 _)).trans ⟨rfl, rfl, rfl, Nat.le_refl _, fun _ _ => rfl⟩)⟩
      case measure => simp [intOf]; omega
    · obtain rfl : k = n := by omega
      have hcg := Hr.out.congr (T := fun i => nxt (S i)) (fun i hi => by unfold part; rw [if_pos hi])
      go_wp2
      go_ret
      exact ⟨g1, c1, m1, rfl, hg1, hc1, hm1, hcg, Hw.out⟩
/-- The marks of a tap: five numbers one after another, from 1 on. -/
def mkK (i : Nat) : Int := 1 + 5 * (i : Int)
def mkT (i : Nat) : TapN := ⟨mkK i, mkK i + 1, mkK i + 1 + 1, mkK i + 1 + 1 + 1, floatOfInt .f32 (mkK i + 1 + 1 + 1 + 1)⟩
theorem mark_fin {n : Int} (h0 : 0 ≤ n) (h1 : n < 9007199254740992) : vl .f32 (floatOfInt .f32 n) = some (floatOfInt .f32 n) := by
  refine fin_vl ?_
  have hb := nearest_bd .f32 (decide (n < 0)) n.natAbs 0 53 (by
    by_cases h0 : n.natAbs = 0
    · exact .inl h0
    · right
      have := (Nat.log2_lt h0).2 (show n.natAbs < 2 ^ 53 by omega)
      omega)
  have hb2 : rung .f32 (floatOfInt .f32 n) ≤ (53 + bias .f32) * FloatKind.f32.format.binade := hb
  exact Nat.lt_of_le_of_lt hb2 (by decide)
set_option maxHeartbeats 4000000 in
theorem markT_any (w : World) (g n m c base : Nat) (S : Nat → TapN) (h : TR w g m n S) (hm : n * 5 ≤ m) (hl : n ≤ 1048576) (hc : n ≤ c) (hbg : base ≤ g) :
    Calls Try.prog 9 #[.slice (some ⟨g, 0, none⟩) n c, .int .i64 1] w fun en w' => en = .returned (.int .i64 (mkK n)) ∧ TR w' g m n mkT ∧ Below base w w' ∧ ∀ b, b ≠ g → w'.heap[b]? = w.heap[b]? := by
  have hst := fun (a : Addr) (v : Nat) (m : Mode) (w : World) => run_store Try.prog w a (.float .f32 v) m rfl
  have H : Hid (TR w g m 0 mkT) := Lib.hid (by obtain ⟨f, h2, _⟩ := h; exact ⟨f, h2, fun i hi => by omega⟩)
  clear h
  go_enter Try.func9, Try.ntmps9
  go_wp2
  go_loopw [1, 5] (fun M I wr => ∃ (k : Nat) (K : Int), k ≤ n ∧ M = .int .i64 K ∧ Hid (K = mkK k) ∧ 0 ≤ K ∧ K ≤ 1 + 5 * (k : Int) ∧ I = .int .i64 k ∧ Hid (TR wr g m k mkT) ∧ Hid (Below base w wr) ∧ Hid (∀ b, b ≠ g → wr.heap[b]? = w.heap[b]?)) (fun _ I _ => n - (intOf I).toNat)
  case atStart => exact ⟨0, 1, Nat.zero_le _, rfl, Lib.hid rfl, by omega, by omega, rfl, H, Lib.hid (Below.refl _ _), Lib.hid (fun _ _ => rfl)⟩
  case round =>
    obtain ⟨k, K, hk, rfl, HK, hK0, hK1, rfl, Hr, Hw, Hb⟩ := hrel
    clear H
    by_cases hlt : k < n
    · obtain ⟨d0, z0⟩ := Hr.out.there (j := k * 5) (by omega)
      obtain ⟨d1, z1⟩ := Hr.out.there (j := k * 5 + 1) (by omega)
      obtain ⟨d2, z2⟩ := Hr.out.there (j := k * 5 + 2) (by omega)
      obtain ⟨d3, z3⟩ := Hr.out.there (j := k * 5 + 3) (by omega)
      obtain ⟨d4, z4⟩ := Hr.out.there (j := k * 5 + 4) (by omega)
      have f0 := Hr.out.frozen (k * 5)
      have f1 := Hr.out.frozen (k * 5 + 1)
      have f2 := Hr.out.frozen (k * 5 + 2)
      have f3 := Hr.out.frozen (k * 5 + 3)
      have f4 := Hr.out.frozen (k * 5 + 4)
      have H5 := Hr.out.set5
      have Hw5 := Below.setCell (p := ⟨g, k * 5 + 4, none⟩) (Below.setCell (p := ⟨g, k * 5 + 3, none⟩) (Below.setCell (p := ⟨g, k * 5 + 2, none⟩) (Below.setCell (p := ⟨g, k * 5 + 1, none⟩) (Below.setCell (p := ⟨g, k * 5, none⟩) Hw.out hbg (.int .i64 K)) hbg (.int .i64 (K + 1))) hbg (.int .i64 (K + 1 + 1))) hbg (.int .i64 (K + 1 + 1 + 1))) hbg (.float .f32 (floatOfInt .f32 (K + 1 + 1 + 1 + 1)))
      simp only [tv, mkT] at H5
      rw [← HK.out] at H5
      have HH5 := Lib.hid H5
      have HW5 := Lib.hid Hw5
      clear H5 Hw5
      have HK2 : Hid (K + 1 + 1 + 1 + 1 + 1 = mkK (k + 1)) := Lib.hid (by rw [HK.out]; unfold mkK; omega)
      go_wp2
      exact ⟨⟨k + 1, _, by omega, rfl, HK2, by omega, by omega, by go_num, HH5, HW5, Lib.hid (fun b hb => by rw [Below.heap_setCell _ _ _ _ (by exact hb), Below.heap_setCell _ _ _ _ (by exact hb), Below.heap_setCell _ _ _ _ (by exact hb), Below.heap_setCell _ _ _ _ (by exact hb), Below.heap_setCell _ _ _ _ (by exact hb)]; exact Hb.out b hb)⟩, by simp [intOf]; omega⟩
    · obtain rfl : k = n := by omega
      go_wp2
      go_ret
      exact ⟨by rw [← HK.out]; rfl, Hr.out, Hw.out, Hb.out⟩
set_option maxHeartbeats 4000000 in
theorem heldT_any (w : World) (g n m c : Nat) (h : TR w g m n mkT) (hm : n * 5 ≤ m) (hl : n ≤ 1048576) (hc : n ≤ c) :
    Calls Try.prog 10 #[.slice (some ⟨g, 0, none⟩) n c, .int .i64 1] w fun en w' => en = .returned (.int .i64 (mkK n)) ∧ w' = w := by
  have H := Lib.hid h
  clear h
  go_enter Try.func10, Try.ntmps10
  go_wp2
  go_loop [1, 5] (fun M I => ∃ (k : Nat) (K : Int), k ≤ n ∧ M = .int .i64 K ∧ Hid (K = mkK k) ∧ 0 ≤ K ∧ K ≤ 1 + 5 * (k : Int) ∧ I = .int .i64 k) (fun _ I => n - (intOf I).toNat)
  case atStart => exact ⟨0, 1, Nat.zero_le _, rfl, Lib.hid rfl, by omega, by omega, rfl⟩
  case round =>
    obtain ⟨k, K, hk, rfl, HK, hK0, hK1, rfl⟩ := hrel
    by_cases hlt : k < n
    · have a0 := H.out.cell (i := k) (q := 0) hlt (by omega) (by omega)
      have a1 := H.out.cell (i := k) (q := 1) hlt (by omega) (by omega)
      have a2 := H.out.cell (i := k) (q := 2) hlt (by omega) (by omega)
      have a3 := H.out.cell (i := k) (q := 3) hlt (by omega) (by omega)
      have a4 := H.out.cell (i := k) (q := 4) hlt (by omega) (by omega)
      simp only [tv, mkT, Nat.add_zero] at a0 a1 a2 a3 a4
      rw [← HK.out] at a0 a1 a2 a3 a4
      have HK2 : Hid (K + 1 + 1 + 1 + 1 + 1 = mkK (k + 1)) := Lib.hid (by rw [HK.out]; unfold mkK; omega)
      have hne := order_self_num (mark_fin (n := K + 1 + 1 + 1 + 1) (by omega) (by omega))
      generalize hF : floatOfInt .f32 (K + 1 + 1 + 1 + 1) = F at a4 hne
      go_wp2
      exact ⟨⟨k + 1, _, by omega, rfl, HK2, by omega, by omega, by go_num⟩, by simp [intOf]; omega⟩
    · obtain rfl : k = n := by omega
      go_wp2
      go_ret
      exact ⟨by rw [← HK.out]; rfl, rfl⟩
end Go.Proofs.Ytbcjgjdkapdihab
