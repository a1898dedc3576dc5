/-
  The walk of the law on fuses.
-/
import Derived.Test.YthkjikennlaelaaFuseT
import Derived.Deep.Cut
import Derived.Deep.CutRange
import Derived.Test.YthkjikennlaelaaFuseD
import Derived.Test.YthkjikennlaelaaRowC
import Derived.Test.YthkjikennlaelaaB10S
import Derived.Test.YthkjikennlaelaaBytes
import Derived.Deep.RegionHeld3
import Derived.Test.YthkjikennlaelaaEqFu
import Derived.Test.YthkjikennlaelaaHotR
set_option linter.unusedVariables false
set_option linter.unusedSimpArgs false
set_option maxRecDepth 8000
namespace Go.Proofs.Ythkjikennlaelaa.fnFuses
open Go Go.RowKit Go.Deep Go.Proofs.Ythkjikennlaelaa.Fl Go.Proofs.Ythkjikennlaelaa

theorem dy_half : Dy .f32 1 1056964608 1 := ⟨by decide, by decide +kernel, fun _ => by decide⟩
theorem dy_int {n : Nat} (h : n < 1000) : Dy .f32 5 (floatOfInt .f32 (n : Int)) ((n : Int) * 32) := by
  have hw := wh_ofInt .f32 (n : Int) (by have : (2 * FloatKind.f32.format.binade : Nat) = 16777216 := by decide
                                         rw [this]; omega)
  have := (wh_dy hw).finer 5
  simpa using this
/-- The list, and the two byte rows. -/
structure LSt (w wr : World) (code : Option Addr) (cl cc : Nat) (more : Option Addr) (ml mc : Nat) (h l c : Nat) : Prop where
  fuse : RL wr w.heap.size 39 [.float .f32 h, .float .f32 l, .float .f32 c]
  code : BRd w.heap.size wr code cl cc
  more : BRd w.heap.size wr more ml mc
  below : Below w.heap.size w wr
theorem LSt.call {w wr w' : World} {code more : Option Addr} {cl cc ml mc h l c : Nat} (s : LSt w wr code cl cc more ml mc h l c) (hb : Below wr.heap.size wr w') : LSt w w' code cl cc more ml mc h l c :=
  ⟨s.fuse.below hb s.fuse.lt, s.code.below hb s.below.size, s.more.below hb s.below.size, s.below.trans (hb.mono s.below.size)⟩
theorem LSt.grown {w wr w' : World} {code more : Option Addr} {cl cc ml mc h l c : Nat} (s : LSt w wr code cl cc more ml mc h l c) {r : Option Nat} (hg : wr.grownBy w' r) (hr : ∀ k, r = some k → w.heap.size < k) : LSt w w' code cl cc more ml mc h l c :=
  ⟨s.fuse.kept hg (fun k e h => by have := hr k e; omega), s.code.keep (s.below.size) hg (fun k e => Nat.le_of_lt (hr k e)), s.more.keep (s.below.size) hg (fun k e => Nat.le_of_lt (hr k e)), s.below.grown hg s.below.size (fun k e => Nat.le_of_lt (hr k e))⟩

theorem runR_some {h l c t r : Nat} {j : Int} {zs : List Nat} (h1 : okU h l c = true) (h2 : amtB t = true) (h3 : zs.length ≤ 256) (h4 : runU l c t h zs 0 = some (j, r)) : runR h l c t zs = .tuple #[.int .i64 j, .agg #[.float .f32 r, .float .f32 l, .float .f32 c], .bool true] := by
  unfold runR runOk
  rw [h1, h2, h4, decide_eq_true h3]
  rfl
theorem frd_take {w : World} {g n c : Nat} {l : List Nat} (h : FRd w (some ⟨g, 0, none⟩) n c l) {k : Nat} (hk : k ≤ n) : FRd w (some ⟨g, 0, none⟩) k c (l.take k) := by
  obtain ⟨h1, h2, h3, h4⟩ := h
  refine ⟨by simp; omega, by omega, fun j hj => ?_, fun x hx => h4 x (List.mem_of_mem_take hx)⟩
  obtain ⟨b, o, e, q, hb⟩ := h3 j (by omega)
  refine ⟨b, o, e, ?_, hb⟩
  rw [q]
  simp [List.getD, hj]
theorem frd_drop {w : World} {g n c : Nat} {l : List Nat} (h : FRd w (some ⟨g, 0, none⟩) n c l) {k : Nat} (hk : k ≤ n) : FRd w (some ⟨g, k, none⟩) (n - k) (c - k) (l.drop k) := by
  obtain ⟨h1, h2, h3, h4⟩ := h
  refine ⟨by simp; omega, by omega, fun j hj => ?_, fun x hx => h4 x (List.mem_of_mem_drop hx)⟩
  obtain ⟨b, o, e, q, hb⟩ := h3 (k + j) (by omega)
  cases e
  refine ⟨g, k, rfl, ?_, hb⟩
  rw [Nat.zero_add] at q
  rw [q]
  simp [List.getD]
theorem frd_dropI {w : World} {g n c : Nat} {l : List Nat} (h : FRd w (some ⟨g, 0, none⟩) n c l) {k : Nat} (hk : k ≤ n) : FRd w (if c = k then some ⟨g, 0, none⟩ else some ⟨g, k, none⟩) (n - k) (c - k) (l.drop k) := by
  have h' := frd_drop h hk
  by_cases e : c = k
  · rw [if_pos e]
    have := h.2.1
    exact ⟨h'.1, h'.2.1, fun j hj => absurd hj (by omega), h'.2.2.2⟩
  · rw [if_neg e]; exact h'
theorem run_lt {l c t : Nat} : ∀ {xs : List Nat} {h i r : Nat} {j : Int}, runU l c t h xs i = some (j, r) → h < 2 ^ 32 → r < 2 ^ 32
  | [], h, i, r, j, e, hh => by cases e; exact hh
  | x :: xs, h, i, r, j, e, hh => by
    rw [runU_cons] at e
    cases hx : heat h c x t with
    | none => rw [hx] at e; cases e
    | some q =>
      rw [hx] at e
      simp only at e
      have hq := (heat_some hx).2.1
      split at e
      · cases e; exact hq
      · exact run_lt e hq
theorem bel1 (w : World) (o : Obj) : Below w.heap.size w (w.alloc o) := (Below.refl _ w).alloc (Nat.le_refl _) _
theorem fi_lt : ∀ n : Nat, n < 128 → floatOfInt .f32 (n : Int) < 4294967296 := by decide +kernel
set_option maxHeartbeats 8000000 in
theorem walk (a0 : Option Addr) (len0 cap0 : Nat) (a1 : Option Addr) (len1 cap1 : Nat) (w : World) (h0 : Rd8 w a0 len0 cap0) (h1 : Rd8 w a1 len1 cap1) :
    Calls Try.prog 4 #[.slice a0 len0 cap0, .slice a1 len1 cap1] w fun e w' => e = .returned (.bool true) ∧ Below w.heap.size w w' := by
  by_cases hlong : 1048576 < len0 ∨ 1048576 < len1
  · have d1 : decide (1048576 < len0 ∨ 1048576 < len1) = true := by simp [hlong]
    go_enter Try.func4, Try.ntmps4
    go_wp2_with (go_at_call 14; refine (b10Long_any _ _ _ _ _ _ _).mono ?_; rintro e w' ⟨rfl, rfl⟩; rw [d1])
    go_ret
    exact ⟨rfl, Below.refl _ _⟩
  have hl0 : len0 ≤ 1048576 := by omega
  have hl1 : len1 ≤ 1048576 := by omega
  have d1 : decide (1048576 < len0 ∨ 1048576 < len1) = false := by simp; omega
  have C0 := Lib.hid (h0.bytes hl0)
  have C1 := Lib.hid (h1.bytes hl1)
  obtain ⟨i0, hz, hz0, hz1, hz2⟩ := info_parts infoF32
  clear h0 h1 hl0 hl1 hlong
  have hst := fun (a : Addr) (v : Nat) (m : Mode) (w : World) => run_store Try.prog w a (.float .f32 v) m rfl
  have hce := cmpFu
  have hcn := cmpFuN
  go_enter Try.func4, Try.ntmps4
  go_wp2_with (go_at_call 14; refine (b10Long_any _ _ _ _ _ _ _).mono ?_; rintro e w' ⟨rfl, hx⟩; obtain rfl := hx.symm; clear hx; rw [d1])
  refine (show Calls Try.prog 17 #[.slice a0 len0 cap0, .int .i64 0, .int .i64 6] w _ from b10At_any w.heap.size a0 len0 cap0 0 6 w C0.out (by omega) (by omega)).mono ?_
  rintro e w' ⟨v0, rfl, p0, p0', hx⟩
  obtain rfl := hx.symm
  clear hx
  go_wp2_with fail
  refine (show Calls Try.prog 17 #[.slice a0 len0 cap0, .int .i64 1, .int .i64 60] w _ from b10At_any w.heap.size a0 len0 cap0 1 60 w C0.out (by omega) (by omega)).mono ?_
  rintro e w' ⟨v1, rfl, p1, p1', hx⟩
  obtain rfl := hx.symm
  clear hx
  go_wp2_with fail
  refine (show Calls Try.prog 17 #[.slice a0 len0 cap0, .int .i64 2, .int .i64 5] w _ from b10At_any w.heap.size a0 len0 cap0 2 5 w C0.out (by omega) (by omega)).mono ?_
  rintro e w' ⟨v2, rfl, p2, p2', hx⟩
  obtain rfl := hx.symm
  clear hx
  obtain ⟨n0, rfl⟩ := Int.eq_ofNat_of_zero_le p0
  obtain ⟨n1, rfl⟩ := Int.eq_ofNat_of_zero_le p1
  obtain ⟨n2, rfl⟩ := Int.eq_ofNat_of_zero_le p2
  have hq := fun w : World => run_float_arith (P := Try.prog) w .quo 28 .f32 _ _ _ (quarter_ok n2 (by omega)).1
  go_upto_region 4 with fail
  have e10 : (10 : Int) + (n1 : Int) = ((10 + n1 : Nat) : Int) := by simp
  rw [e10]
  have hh := dy_int (n := n0) (by omega)
  have hl' := dy_int (n := 10 + n1) (by omega)
  have lh : floatOfInt .f32 (n0 : Int) < 2 ^ 32 := fi_lt n0 (by omega)
  have ll : floatOfInt .f32 ((10 + n1 : Nat) : Int) < 2 ^ 32 := fi_lt (10 + n1) (by omega)
  have lc : quarter n2 < 2 ^ 32 := (quarter_ok n2 (by omega)).2.2
  have hc := quarter_dy (m := n2) (by omega)
  generalize floatOfInt .f32 (n0 : Int) = h at *
  generalize floatOfInt .f32 ((10 + n1 : Nat) : Int) = l at *
  generalize quarter n2 = c at *
  have hp : posB l = true := posB_of hl'.1 (by
    have e := dy_sv hl'
    have hu : (0 : Int) < (un1 .f32 : Nat) := by have := un1_pos .f32; omega
    have h1 : (0 : Int) < (((10 + n1 : Nat) : Int) * 32) * (un1 .f32 : Nat) := Int.mul_pos (by omega) hu
    rw [← e] at h1
    exact Int.pos_of_mul_pos_left h1 (by decide)  )
  have T := bx1 w [.float .f32 h, .float .f32 l, .float .f32 c] 39
  have L0 := Lib.hid (show LSt w (w.alloc (.cells #[.float .f32 h, .float .f32 l, .float .f32 c] 39)) a0 len0 cap0 a1 len1 cap1 h l c from ⟨T.1, C0.out.below T.2 (Nat.le_refl _), C1.out.below T.2 (Nat.le_refl _), T.2⟩)
  have hsz : (w.alloc (.cells #[.float .f32 h, .float .f32 l, .float .f32 c] 39)).heap.size = w.heap.size + 1 := by simp
  have Hh := Lib.hid (And.intro hh (And.intro hl' (And.intro hc hp)))
  clear T C0 C1 hq hh hl' hc hp e10 d1
  generalize (w.alloc (.cells #[.float .f32 h, .float .f32 l, .float .f32 c] 39)) = W at *
  have aw := (Below.refl W.heap.size W).alloc (Nat.le_refl _) (.cells #[] 28)
  have L1 := Lib.hid (L0.out.call aw)
  have Ho1 : Hid ((W.alloc (.cells #[] 28)).ownsRow (w.heap.size + 1) 28 1 (.slice (some ⟨w.heap.size + 1, 0, none⟩) 0 0) 0 (fvals [])) := Lib.hid ⟨rfl, .inr ⟨w.heap.size + 1, 0, #[], rfl, Nat.le_refl _, by rw [← hsz]; show (W.heap.push _)[W.heap.size]? = _; simp, Nat.le_refl _, by simp [maxLen], rfl, rfl⟩⟩
  have hs1 : w.heap.size + 1 < (W.alloc (.cells #[] 28)).heap.size := by simp; omega
  go_upto_region 6 with fail
  try simp only [hsz]
  clear L0 aw
  generalize (W.alloc (.cells #[] 28)) = W1 at *
  clear hsz
  go_loopw [6, 7] (fun O I wr => ∃ (k : Nat) (L : List Nat) (g cc : Nat), O = .slice (some ⟨g, 0, none⟩) k cc ∧ I = .int .i64 k ∧ L.length = k ∧ k ≤ 8 ∧ Hid (∀ x ∈ L, x < 2 ^ 32 ∧ ∃ m : Int, Dy .f32 2 x m ∧ 0 ≤ m ∧ m ≤ 20) ∧ w.heap.size + 1 ≤ g ∧ g < wr.heap.size ∧
    Hid (wr.ownsRow (w.heap.size + 1) 28 1 (.slice (some ⟨g, 0, none⟩) k cc) k (fvals L)) ∧ Hid (LSt w wr a0 len0 cap0 a1 len1 cap1 h l c)) (fun _ I _ => 8 - (intOf I).toNat)
  case atStart => exact ⟨0, [], w.heap.size + 1, 0, rfl, rfl, rfl, by omega, Lib.hid (fun x hx => by cases hx), Nat.le_refl _, hs1, Ho1, L1⟩
  case round =>
    clear L1 Ho1 hs1
    obtain ⟨k, L, g, cc, rfl, rfl, hL, hk, HL, hg0, hgs, Ho, Hs⟩ := hrel
    have hwsz := Hs.out.below.size
    by_cases hlt : k < 8
    · go_wp2_with (first | (go_at_call 17; refine (b10At_any w.heap.size a1 len1 cap1 k 20 _ Hs.out.more (by omega) (by omega)).mono ?_; rintro e w' ⟨v, rfl, v0, v0', hx⟩; obtain rfl := hx.symm; clear hx; obtain ⟨q, rfl⟩ := Int.eq_ofNat_of_zero_le v0; have hq := fun w : World => run_float_arith (P := Try.prog) w .quo 28 .f32 _ _ _ (quarter_ok q (by omega)).1) | (at_builtin; refine wpList_append_own _ rfl (.tmp 41) (.tmp 47) 24 rfl (w.heap.size + 1) 28 i0 (.float .f32 0) 1 4 Try.underlying24 hz hz0 hz1 hz2 rfl (by decide) (.slice (some ⟨g, 0, none⟩) k cc) k _ rfl (Ho.out.alloc _) ⟨wr.heap.size, 0, none⟩ 1 1 [.float .f32 (quarter q)] rfl (by simp) (cell_newrowB _ _ _) (f_one _) (by unfold maxLen; omega) (by omega) (by simp; omega) ?_; intro v' w3 hown' hgrow3 hnil3; obtain ⟨g', c', rfl, hg0', hgs', hc'⟩ := form_own hown'; have Hs3 := Lib.hid ((Hs.out.call (bel1 wr _)).grown hgrow3 (by intro x hx; simp [Value.ownBlock] at hx; omega)); have Ho3 := Lib.hid hown'; clear hown' hgrow3 hnil3))
      go_roundw
      case rel => exact ⟨_, .int .i64 ((k + 1 : Nat) : Int), _, _, _, _, _, _, _, _, _, _, _, _, ⟨k + 1, L ++ [quarter q], g', c', rfl, rfl, by simp [hL], by omega, Lib.hid (fun x hx => by rcases List.mem_append.1 hx with h | h; exact HL.out x h; simp at h; subst h; exact ⟨(quarter_ok q (by omega)).2.2, q, quarter_dy (by omega), by omega, by omega⟩), hg0', hgs', Lib.hid (by rw [fvals_snoc]; exact Ho3.out), Hs3⟩, by first | rfl | simp⟩
      case measure => simp [intOf]; omega
    · obtain rfl : k = 8 := by omega
      have hO : OwnF (w.heap.size + 1) wr (some ⟨g, 0, none⟩) cc L := by unfold OwnF; rw [hL]; exact Ho.out
      have F0 := hO.reads (fun x hx => (HL.out x hx).1)
      rw [hL] at F0
      have F0 := Lib.hid F0
      clear hO Ho hwsz hg0
      have hok : okU h l c = true := by
        unfold okU
        rw [amtB_of Hh.out.1.1 (dy_nonneg Hh.out.1 (by omega)), amtB_of Hh.out.2.2.1.1 (dy_nonneg Hh.out.2.2.1 (by omega)), Hh.out.2.2.2]; rfl
      obtain ⟨at1, r1, m1, e1, d1, m10, m11, hat⟩ := runU_dy (l := l) (t := 1056964608) Hh.out.2.2.1 dy_half ⟨by omega, by omega⟩ L h 0 _ Hh.out.1 (by omega) (by rw [hL]; omega) (fun x hx => (HL.out x hx).2)
      rw [hL] at hat m11
      have G1 := Lib.hid (runR_some hok (by decide) (by rw [hL]; decide) e1)
      go_wp2_with fail
      refine (show Calls Try.prog 17 #[.slice a0 len0 cap0, .int .i64 3, .int .i64 9] wr _ from b10At_any w.heap.size a0 len0 cap0 3 9 wr Hs.out.code (by omega) (by omega)).mono ?_
      rintro e w' ⟨v, rfl, v0, v0', hx⟩
      obtain rfl := hx.symm
      clear hx
      obtain ⟨cut, rfl⟩ := Int.eq_ofNat_of_zero_le v0
      have c0 := Hs.out.fuse.cell 0 (by simp)
      have c1 := Hs.out.fuse.cell 1 (by simp)
      have c2 := Hs.out.fuse.cell 2 (by simp)
      simp only [List.getD_cons_zero, List.getD_cons_succ] at c0 c1 c2
      go_wp2_with fail
      refine (show Calls Try.prog _ _ _ _ from implRun_any h l c 1056964608 _ 8 cc L lh ll lc (by decide) wr F0.out (by omega)).mono ?_
      rintro e w4 ⟨hen, hb4⟩
      rw [G1.out] at hen
      subst hen
      have L4 := Lib.hid (Hs.out.call hb4)
      have F4 := Lib.hid (F0.out.stays hb4 (Nat.le_refl _))
      clear hb4 Hs F0 c0 c1 c2
      go_upto_region 11 with fail
      have aw := bel1 w4 (.cells [Value.float .f32 r1, .float .f32 l, .float .f32 c].toArray 39)
      have L5 := Lib.hid (L4.out.call aw)
      have F5 := Lib.hid (F4.out.stays aw (Nat.le_refl _))
      have E5 := Lib.hid (RL.new w4 [Value.float .f32 r1, .float .f32 l, .float .f32 c] 39)
      clear L4 F4 aw
      generalize hG4 : w4.heap.size = pe at *
      generalize (w4.alloc (.cells [Value.float .f32 r1, .float .f32 l, .float .f32 c].toArray 39)) = w5 at *
      have hcc : 8 ≤ cc := F5.out.2.1
      have hcut0 : (0 : Int) ≤ (cut : Int) := by omega
      have hcutc : (cut : Int) ≤ (cc : Int) := by omega
      have FP := Lib.hid (fun (w' : World) (hB : Below w5.heap.size w5 w') => frd_take (F5.out.stays hB (Nat.le_refl _)) (k := cut) (by omega))
      obtain ⟨at2, r2, m2, e2, d2, m20, m21, hat2⟩ := runU_dy (l := l) (t := 1056964608) Hh.out.2.2.1 dy_half ⟨by omega, by omega⟩ (L.take cut) h 0 _ Hh.out.1 (by omega) (by simp; omega) (fun x hx => (HL.out x (List.mem_of_mem_take hx)).2)
      have G2 := Lib.hid (runR_some hok (by decide) (by simp; omega) e2)
      have SS : ∀ w' : World, Below w5.heap.size w5 w' → w'.cell? ⟨w.heap.size, 0, none⟩ = some (.float .f32 h) ∧ w'.cell? ⟨w.heap.size, 1, none⟩ = some (.float .f32 l) ∧ w'.cell? ⟨w.heap.size, 2, none⟩ = some (.float .f32 c) ∧ Below w5.heap.size w5 w' := fun w' hB =>
        have q := (L5.out.call hB).fuse
        ⟨q.cell 0 (by simp), q.cell 1 (by simp), q.cell 2 (by simp), hB⟩
      have hRun := fun (w' : World) (hB : Below w5.heap.size w5 w') => (show Calls Try.prog 24 #[.agg #[.float .f32 h, .float .f32 l, .float .f32 c], .slice (some ⟨g, 0, none⟩) cut cc, .float .f32 1056964608] w' (RB7 (runR h l c 1056964608 (L.take cut)) w') from implRun_any h l c 1056964608 _ cut cc (L.take cut) lh ll lc (by decide) w' (FP.out w' hB) (by omega))
      rw [G2.out] at hRun
      unfold RB7 at hRun
      have HRun := Lib.hid hRun
      clear hRun FP
      go_cut [12, 13, 14] from 58 (fun s12 s13 s14 wx => ∃ pp, s12 = .int .i64 at2 ∧ s13 = .pointer (some ⟨pp, 0, none⟩) ∧ s14 = .bool true ∧ Hid (Below w5.heap.size w5 wx ∧ RL wx pp 39 [.float .f32 r2, .float .f32 l, .float .f32 c]))
      case first =>
        go_region_held3 (fun w' => w'.cell? ⟨w.heap.size, 0, none⟩ = some (.float .f32 h) ∧ w'.cell? ⟨w.heap.size, 1, none⟩ = some (.float .f32 l) ∧ w'.cell? ⟨w.heap.size, 2, none⟩ = some (.float .f32 c) ∧ Below w5.heap.size w5 w')
          (first
            | exact SS _ hbw
            | exact SS _ (Below.alloc hbw (Below.size hbw) _)
            | exact SS _ (Below.setCell (Below.setCell (Below.setCell hbw (Nat.le_refl _) _) (Nat.le_refl _) _) (Nat.le_refl _) _)
            | exact SS _ ⟨rfl, rfl, rfl, Nat.le_refl _, fun _ _ => rfl⟩
            | (go_split_ands; exact SS _ (Below.alloc (by assumption) (Below.size (by assumption)) _)))
          (first
            | (go_at_call 24
               refine (HRun.out _ (by go_split_ands; assumption)).mono ?_
               rintro e w10 ⟨rfl, hb10⟩
               have hbw : Below w5.heap.size w5 w10 := by
                 go_split_ands
                 exact Below.trans (by assumption) (Below.mono hb10 (Below.size (by assumption)))
               first
                 | (have RZ := zbx hb10
                    obtain ⟨⟨u0, u1, u2⟩, v0, v1, v2⟩ := zbx3 RZ)
                 | skip))
        · go_wp2_with fail
          go_meet
          case rel => exact ⟨w10.heap.size, rfl, rfl, rfl, Lib.hid ⟨Below.alloc hbw (Below.size hbw) _, RL.new w10 _ _⟩⟩
        · go_wp2_with fail
          go_meet
          case rel => exact ⟨w5.heap.size, rfl, rfl, rfl, Lib.hid ⟨Below.setCell (Below.setCell (Below.setCell hbw (Nat.le_refl _) _) (Nat.le_refl _) _) (Nat.le_refl _) _, ((RZ.set 0 (.float .f32 r2)).set 1 (.float .f32 l)).set 2 (.float .f32 c)⟩⟩
      case rest =>
      obtain ⟨pm, rfl, rfl, rfl, H6⟩ := hcut
      have L6 := Lib.hid (L5.out.call H6.out.1)
      have F6 := Lib.hid (F5.out.stays H6.out.1 (Nat.le_refl _))
      have E6 := Lib.hid (E5.out.below H6.out.1 E5.out.lt)
      have M6 := Lib.hid H6.out.2
      clear H6 L5 F5 E5 SS HRun
      generalize wc = w6 at *
      have ev : vl .f32 r1 = some r1 := dy_vl d1
      have mv : vl .f32 r2 = some r2 := dy_vl d2
      have lv : vl .f32 l = some l := dy_vl Hh.out.2.1
      have cv : vl .f32 c = some c := dy_vl Hh.out.2.2.1
      have hv : vl .f32 h = some h := dy_vl Hh.out.1
      have l1 : r1 < 2 ^ 32 := run_lt e1 lh
      have l2 : r2 < 2 ^ 32 := run_lt e2 lh
      have hokc : amtB c = true ∧ posB l = true := by have := hok; unfold okU at this; simp only [Bool.and_eq_true] at this; exact this.2
      have k1 : okU r1 l c = true := by unfold okU; rw [amtB_of d1.1 (dy_nonneg d1 m10), hokc.1, hokc.2]; rfl
      have k2 : okU r2 l c = true := by unfold okU; rw [amtB_of d2.1 (dy_nonneg d2 m20), hokc.1, hokc.2]; rfl
      have HV1 := Lib.hid (fun w => validU_any r1 l c l1 ll lc w)
      have HV2 := Lib.hid (fun w => validU_any r2 l c l2 ll lc w)
      unfold RB7 UV at HV1 HV2
      rw [k1] at HV1
      rw [k2] at HV2
      have n0 := E6.out.cell 0 (by simp)
      have n1 := E6.out.cell 1 (by simp)
      have n2 := E6.out.cell 2 (by simp)
      simp only [List.getD_cons_zero, List.getD_cons_succ] at n0 n1 n2
      have ha1 : ¬ at1 < -1 := by omega
      have ha2 : ¬ 8 ≤ at1 := by omega
      go_wp2_with fail
      refine (HV1.out _).mono ?_
      rintro e w7 ⟨rfl, hb7⟩
      have L7 := Lib.hid (L6.out.call hb7)
      have F7 := Lib.hid (F6.out.stays hb7 (Nat.le_refl _))
      have E7 := Lib.hid (E6.out.below hb7 E6.out.lt)
      have M7 := Lib.hid (M6.out.below hb7 M6.out.lt)
      clear hb7 L6 F6 E6 M6 n0 n1 n2
      have n0 := M7.out.cell 0 (by simp)
      have n1 := M7.out.cell 1 (by simp)
      have n2 := M7.out.cell 2 (by simp)
      simp only [List.getD_cons_zero, List.getD_cons_succ] at n0 n1 n2
      go_wp2_with fail
      refine (HV2.out _).mono ?_
      rintro e w8 ⟨rfl, hb8⟩
      have L8 := Lib.hid (L7.out.call hb8)
      have F8 := Lib.hid (F7.out.stays hb8 (Nat.le_refl _))
      have E8 := Lib.hid (E7.out.below hb8 E7.out.lt)
      have M8 := Lib.hid (M7.out.below hb8 M7.out.lt)
      clear hb8 L7 F7 E7 M7 n0 n1 n2
      have n0 := E8.out.cell 0 (by simp)
      have n1 := E8.out.cell 1 (by simp)
      have n2 := E8.out.cell 2 (by simp)
      have o0 := M8.out.cell 0 (by simp)
      have o1 := M8.out.cell 1 (by simp)
      have o2 := M8.out.cell 2 (by simp)
      simp only [List.getD_cons_zero, List.getD_cons_succ] at n0 n1 n2 o0 o1 o2
      -- the run over the whole list, by the run over its beginning
      have happ := runU_append l c 1056964608 (L.take cut) (L.drop cut) h 0
      rw [List.take_append_drop, e1, e2] at happ
      simp only [Option.bind_some] at happ
      by_cases hf : 0 ≤ at2
      · rw [if_pos hf] at happ
        simp only [Option.some.injEq, Prod.mk.injEq] at happ
        obtain ⟨q1, q2⟩ := happ
        subst q1 q2
        have s1 := order_self_num' ev
        have s2 := order_self_num' lv
        have s3 := order_self_num' cv
        have hf' : (0 : Int) ≤ at1 := hf
        go_wp2_with fail
        go_ret
        exact ⟨rfl, L8.out.below⟩
      · rw [if_neg hf] at happ
        have hlt : (L.take cut).length = cut := by simp; omega
        obtain ⟨at3, r3, m3, e3, d3, m30, m31, hat3⟩ := runU_dy (l := l) (t := 1056964608) Hh.out.2.2.1 dy_half ⟨by omega, by omega⟩ (L.drop cut) r2 0 _ d2 m20 (by simp; omega) (fun x hx => (HL.out x (List.mem_of_mem_drop hx)).2)
        rw [runU_shift, e3, hlt, Option.map_some] at happ
        simp only [Option.some.injEq, Prod.mk.injEq] at happ
        obtain ⟨q1, q2⟩ := happ
        subst q2
        have Q1 := Lib.hid q1
        clear q1
        have hd8 : (L.drop cut).length = 8 - cut := by simp; omega
        have G3 := Lib.hid (runR_some k2 (by decide) (by rw [hd8]; omega) e3)
        have hf' : ¬ (0 : Int) ≤ at2 := hf
        have FP := Lib.hid (fun (w' : World) (hB : Below w8.heap.size w8 w') => frd_dropI (F8.out.stays hB (Nat.le_refl _)) (k := cut) (by omega))
        have SS : ∀ w' : World, Below w8.heap.size w8 w' → w'.cell? ⟨pm, 0, none⟩ = some (.float .f32 r2) ∧ w'.cell? ⟨pm, 1, none⟩ = some (.float .f32 l) ∧ w'.cell? ⟨pm, 2, none⟩ = some (.float .f32 c) ∧ Below w8.heap.size w8 w' := fun w' hB =>
          have q := M8.out.below hB M8.out.lt
          ⟨q.cell 0 (by simp), q.cell 1 (by simp), q.cell 2 (by simp), hB⟩
        have hRun := fun (w' : World) (hB : Below w8.heap.size w8 w') => (show Calls Try.prog 24 #[.agg #[.float .f32 r2, .float .f32 l, .float .f32 c], .slice (if cc = cut then some ⟨g, 0, none⟩ else some ⟨g, cut, none⟩) (8 - cut) (cc - cut), .float .f32 1056964608] w' (RB7 (runR r2 l c 1056964608 (L.drop cut)) w') from implRun_any r2 l c 1056964608 _ (8 - cut) (cc - cut) (L.drop cut) l2 ll lc (by decide) w' (FP.out w' hB) (by omega))
        rw [G3.out] at hRun
        unfold RB7 at hRun
        have HRun := Lib.hid hRun
        have hcut8 : (cut : Int) ≤ 8 := by omega
        clear hRun FP
        clear n0 n1 n2 o0 o1 o2
        go_wp2_with fail
        go_cut [15, 16, 17] from 101 (fun s15 s16 s17 wx => ∃ pp, s15 = .int .i64 at3 ∧ s16 = .pointer (some ⟨pp, 0, none⟩) ∧ s17 = .bool true ∧ Hid (Below w8.heap.size w8 wx ∧ RL wx pp 39 [.float .f32 r1, .float .f32 l, .float .f32 c]))
        case first =>
          by_cases hcw : cc = cut
          · obtain rfl : cut = 8 := by omega
            obtain rfl : cc = 8 := by omega
            have hR := fun (w' : World) (hB : Below w8.heap.size w8 w') => (show Calls Try.prog 24 #[.agg #[.float .f32 r2, .float .f32 l, .float .f32 c], .slice (some ⟨g, 0, none⟩) 0 0, .float .f32 1056964608] w' (fun e w'' => e = .returned (.tuple #[.int .i64 at3, .agg #[.float .f32 r1, .float .f32 l, .float .f32 c], .bool true]) ∧ Below w'.heap.size w' w'') from HRun.out w' hB)
            have HRun := Lib.hid hR
            clear hR
            go_region_held3 (fun w' => w'.cell? ⟨pm, 0, none⟩ = some (.float .f32 r2) ∧ w'.cell? ⟨pm, 1, none⟩ = some (.float .f32 l) ∧ w'.cell? ⟨pm, 2, none⟩ = some (.float .f32 c) ∧ Below w8.heap.size w8 w')
              (first
                | exact SS _ hbw
                | exact SS _ (Below.alloc hbw (Below.size hbw) _)
                | exact SS _ (Below.setCell (Below.setCell (Below.setCell hbw (Nat.le_refl _) _) (Nat.le_refl _) _) (Nat.le_refl _) _)
                | exact SS _ ⟨rfl, rfl, rfl, Nat.le_refl _, fun _ _ => rfl⟩
                | (go_split_ands; exact SS _ (Below.alloc (by assumption) (Below.size (by assumption)) _)))
              (first
                | (go_at_call 24
                   refine (HRun.out _ (by go_split_ands; assumption)).mono ?_
                   rintro e w10 ⟨rfl, hb10⟩
                   have hbw : Below w8.heap.size w8 w10 := by
                     go_split_ands
                     exact Below.trans (by assumption) (Below.mono hb10 (Below.size (by assumption)))
                   first
                     | (have RZ := zbx hb10
                        obtain ⟨⟨u0, u1, u2⟩, v0, v1, v2⟩ := zbx3 RZ)
                     | skip))
            · go_wp2_with fail
              go_meet
              case rel => exact ⟨w10.heap.size, rfl, rfl, rfl, Lib.hid ⟨Below.alloc hbw (Below.size hbw) _, RL.new w10 _ _⟩⟩
            · go_wp2_with fail
              go_meet
              case rel => exact ⟨w8.heap.size, rfl, rfl, rfl, Lib.hid ⟨Below.setCell (Below.setCell (Below.setCell hbw (Nat.le_refl _) _) (Nat.le_refl _) _) (Nat.le_refl _) _, ((RZ.set 0 (.float .f32 r1)).set 1 (.float .f32 l)).set 2 (.float .f32 c)⟩⟩
          · have hR := HRun.out
            rw [if_neg hcw] at hR
            have HRun := Lib.hid hR
            clear hR
            go_region_held3 (fun w' => w'.cell? ⟨pm, 0, none⟩ = some (.float .f32 r2) ∧ w'.cell? ⟨pm, 1, none⟩ = some (.float .f32 l) ∧ w'.cell? ⟨pm, 2, none⟩ = some (.float .f32 c) ∧ Below w8.heap.size w8 w')
              (first
                | exact SS _ hbw
                | exact SS _ (Below.alloc hbw (Below.size hbw) _)
                | exact SS _ (Below.setCell (Below.setCell (Below.setCell hbw (Nat.le_refl _) _) (Nat.le_refl _) _) (Nat.le_refl _) _)
                | exact SS _ ⟨rfl, rfl, rfl, Nat.le_refl _, fun _ _ => rfl⟩
                | (go_split_ands; exact SS _ (Below.alloc (by assumption) (Below.size (by assumption)) _)))
              (first
                | (go_at_call 24
                   refine (HRun.out _ (by go_split_ands; assumption)).mono ?_
                   rintro e w10 ⟨rfl, hb10⟩
                   have hbw : Below w8.heap.size w8 w10 := by
                     go_split_ands
                     exact Below.trans (by assumption) (Below.mono hb10 (Below.size (by assumption)))
                   first
                     | (have RZ := zbx hb10
                        obtain ⟨⟨u0, u1, u2⟩, v0, v1, v2⟩ := zbx3 RZ)
                     | skip))
            · go_wp2_with fail
              go_meet
              case rel => exact ⟨w10.heap.size, rfl, rfl, rfl, Lib.hid ⟨Below.alloc hbw (Below.size hbw) _, RL.new w10 _ _⟩⟩
            · go_wp2_with fail
              go_meet
              case rel => exact ⟨w8.heap.size, rfl, rfl, rfl, Lib.hid ⟨Below.setCell (Below.setCell (Below.setCell hbw (Nat.le_refl _) _) (Nat.le_refl _) _) (Nat.le_refl _) _, ((RZ.set 0 (.float .f32 r1)).set 1 (.float .f32 l)).set 2 (.float .f32 c)⟩⟩
        case rest =>
        obtain ⟨pn, rfl, rfl, rfl, H9⟩ := hcut
        have L9 := Lib.hid (L8.out.call H9.out.1)
        have F9 := Lib.hid (F8.out.stays H9.out.1 (Nat.le_refl _))
        have E9 := Lib.hid (E8.out.below H9.out.1 E8.out.lt)
        have N9 := Lib.hid H9.out.2
        clear H9 L8 F8 E8 M8 SS HRun
        generalize wc = w9 at *
        have n0 := E9.out.cell 0 (by simp)
        have n1 := E9.out.cell 1 (by simp)
        have n2 := E9.out.cell 2 (by simp)
        have o0 := N9.out.cell 0 (by simp)
        have o1 := N9.out.cell 1 (by simp)
        have o2 := N9.out.cell 2 (by simp)
        simp only [List.getD_cons_zero, List.getD_cons_succ] at n0 n1 n2 o0 o1 o2
        have s1 := order_self_num' ev
        have s2 := order_self_num' lv
        have s3 := order_self_num' cv
        have q1 := Q1.out
        clear Q1
        have hL0 : L.getD 0 0 ∈ L := by
          cases L with
          | nil => simp at hL
          | cons a t => simp
        obtain ⟨lx, mx, dx, mx0, mx1⟩ := HL.out _ hL0
        obtain ⟨r4, er4, hge⟩ := hotR Hh.out.1 dx (by omega) (by omega) ⟨mx0, mx1⟩ Hh.out.2.2.2
        unfold geF at er4 hge
        have SS : ∀ w' : World, Below w9.heap.size w9 w' → w'.cell? ⟨w.heap.size, 0, none⟩ = some (.float .f32 h) ∧ w'.cell? ⟨w.heap.size, 1, none⟩ = some (.float .f32 l) ∧ w'.cell? ⟨g, 0, none⟩ = some (.float .f32 (L.getD 0 0)) ∧ Below w9.heap.size w9 w' := fun w' hB =>
          have q := (L9.out.call hB).fuse
          have q2 := (F9.out.stays hB (Nat.le_refl _)).2.2.1 0 (by decide)
          ⟨q.cell 0 (by simp), q.cell 1 (by simp), by obtain ⟨b, o, e, qq, _⟩ := q2; cases e; exact qq, hB⟩
        have hRun := fun (w' : World) (hB : Below w9.heap.size w9 w') => (show Calls Try.prog 26 #[.agg #[.float .f32 h, .float .f32 l, .float .f32 0], .float .f32 (L.getD 0 0), .float .f32 1056964608] w' (RB7 (heatR h l 0 (L.getD 0 0) 1056964608) w') from implHeat_any h l 0 (L.getD 0 0) 1056964608 lh ll (by decide) lx (by decide) w')
        rw [er4] at hRun
        unfold RB7 at hRun
        have HRun := Lib.hid hRun
        have Hge := Lib.hid hge
        clear hRun hge er4 dx hL0
        generalize L.getD 0 0 = x0 at *
        by_cases h3 : 0 ≤ at3
        · have h3' : ¬ at3 < 0 := by omega
          rw [if_neg h3'] at q1
          have h3'' : (at1 != at3 + (cut : Int)) = false := by rw [q1]; simp
          have hb3 : at3 ≤ 8 := by omega
          clear q1
          go_wp2_with fail
          clear n0 n1 n2 o0 o1 o2 s1 s2 s3 h3 h3' h3''
          go_cut [18, 19, 20] from 136 (fun s18 s19 s20 wx => ∃ pp, s18 = .pointer (some ⟨pp, 0, none⟩) ∧ s19 = .bool (FloatKind.f32.format.order r4 l == some .gt || FloatKind.f32.format.order r4 l == some .eq) ∧ s20 = .bool true ∧ Hid (Below w9.heap.size w9 wx ∧ RL wx pp 39 [.float .f32 r4, .float .f32 l, .float .f32 0]))
          case first =>
            go_region_held3 (fun w' => w'.cell? ⟨w.heap.size, 0, none⟩ = some (.float .f32 h) ∧ w'.cell? ⟨w.heap.size, 1, none⟩ = some (.float .f32 l) ∧ w'.cell? ⟨g, 0, none⟩ = some (.float .f32 x0) ∧ Below w9.heap.size w9 w')
              (first
                | exact SS _ hbw
                | exact SS _ (Below.alloc hbw (Below.size hbw) _)
                | exact SS _ (Below.setCell (Below.setCell (Below.setCell hbw (Nat.le_refl _) _) (Nat.le_refl _) _) (Nat.le_refl _) _)
                | exact SS _ ⟨rfl, rfl, rfl, Nat.le_refl _, fun _ _ => rfl⟩
                | (go_split_ands; exact SS _ (Below.alloc (by assumption) (Below.size (by assumption)) _)))
              (first
                | (go_at_call 26
                   refine (HRun.out _ (by go_split_ands; assumption)).mono ?_
                   rintro e w10 ⟨rfl, hb10⟩
                   have hbw : Below w9.heap.size w9 w10 := by
                     go_split_ands
                     exact Below.trans (by assumption) (Below.mono hb10 (Below.size (by assumption)))
                   first
                     | (have RZ := zbx hb10
                        obtain ⟨⟨u0, u1, u2⟩, v0, v1, v2⟩ := zbx3 RZ)
                     | skip))
            · go_wp2_with fail
              go_meet
              case rel => exact ⟨w10.heap.size, rfl, rfl, rfl, Lib.hid ⟨Below.alloc hbw (Below.size hbw) _, RL.new w10 _ _⟩⟩
            · go_wp2_with fail
              go_meet
              case rel => exact ⟨w9.heap.size, rfl, rfl, rfl, Lib.hid ⟨Below.setCell (Below.setCell (Below.setCell hbw (Nat.le_refl _) _) (Nat.le_refl _) _) (Nat.le_refl _) _, ((RZ.set 0 (.float .f32 r4)).set 1 (.float .f32 l)).set 2 (.float .f32 0)⟩⟩
          case rest =>
          obtain ⟨pz, rfl, rfl, rfl, H10⟩ := hcut
          have L10 := Lib.hid (L9.out.call H10.out.1)
          have Z10 := Lib.hid H10.out.2
          clear H10 L9 F9 E9 N9 SS HRun
          generalize wc = w10 at *
          have n0 := L10.out.fuse.cell 0 (by simp)
          have n1 := L10.out.fuse.cell 1 (by simp)
          have o0 := Z10.out.cell 0 (by simp)
          have o1 := Z10.out.cell 1 (by simp)
          simp only [List.getD_cons_zero, List.getD_cons_succ] at n0 n1 o0 o1
          have hge := Hge.out
          go_wp2_with fail
          go_ret
          exact ⟨by simp [hge], L10.out.below⟩
        · have h3' : at3 < 0 := by omega
          rw [if_pos h3'] at q1
          have h3'' : (at1 != -1) = false := by rw [q1]; simp; omega
          clear q1
          go_wp2_with fail
          clear n0 n1 n2 o0 o1 o2 s1 s2 s3 h3 h3' h3''
          go_cut [18, 19, 20] from 136 (fun s18 s19 s20 wx => ∃ pp, s18 = .pointer (some ⟨pp, 0, none⟩) ∧ s19 = .bool (FloatKind.f32.format.order r4 l == some .gt || FloatKind.f32.format.order r4 l == some .eq) ∧ s20 = .bool true ∧ Hid (Below w9.heap.size w9 wx ∧ RL wx pp 39 [.float .f32 r4, .float .f32 l, .float .f32 0]))
          case first =>
            go_region_held3 (fun w' => w'.cell? ⟨w.heap.size, 0, none⟩ = some (.float .f32 h) ∧ w'.cell? ⟨w.heap.size, 1, none⟩ = some (.float .f32 l) ∧ w'.cell? ⟨g, 0, none⟩ = some (.float .f32 x0) ∧ Below w9.heap.size w9 w')
              (first
                | exact SS _ hbw
                | exact SS _ (Below.alloc hbw (Below.size hbw) _)
                | exact SS _ (Below.setCell (Below.setCell (Below.setCell hbw (Nat.le_refl _) _) (Nat.le_refl _) _) (Nat.le_refl _) _)
                | exact SS _ ⟨rfl, rfl, rfl, Nat.le_refl _, fun _ _ => rfl⟩
                | (go_split_ands; exact SS _ (Below.alloc (by assumption) (Below.size (by assumption)) _)))
              (first
                | (go_at_call 26
                   refine (HRun.out _ (by go_split_ands; assumption)).mono ?_
                   rintro e w10 ⟨rfl, hb10⟩
                   have hbw : Below w9.heap.size w9 w10 := by
                     go_split_ands
                     exact Below.trans (by assumption) (Below.mono hb10 (Below.size (by assumption)))
                   first
                     | (have RZ := zbx hb10
                        obtain ⟨⟨u0, u1, u2⟩, v0, v1, v2⟩ := zbx3 RZ)
                     | skip))
            · go_wp2_with fail
              go_meet
              case rel => exact ⟨w10.heap.size, rfl, rfl, rfl, Lib.hid ⟨Below.alloc hbw (Below.size hbw) _, RL.new w10 _ _⟩⟩
            · go_wp2_with fail
              go_meet
              case rel => exact ⟨w9.heap.size, rfl, rfl, rfl, Lib.hid ⟨Below.setCell (Below.setCell (Below.setCell hbw (Nat.le_refl _) _) (Nat.le_refl _) _) (Nat.le_refl _) _, ((RZ.set 0 (.float .f32 r4)).set 1 (.float .f32 l)).set 2 (.float .f32 0)⟩⟩
          case rest =>
          obtain ⟨pz, rfl, rfl, rfl, H10⟩ := hcut
          have L10 := Lib.hid (L9.out.call H10.out.1)
          have Z10 := Lib.hid H10.out.2
          clear H10 L9 F9 E9 N9 SS HRun
          generalize wc = w10 at *
          have n0 := L10.out.fuse.cell 0 (by simp)
          have n1 := L10.out.fuse.cell 1 (by simp)
          have o0 := Z10.out.cell 0 (by simp)
          have o1 := Z10.out.cell 1 (by simp)
          simp only [List.getD_cons_zero, List.getD_cons_succ] at n0 n1 o0 o1
          have hge := Hge.out
          go_wp2_with fail
          go_ret
          exact ⟨by simp [hge], L10.out.below⟩
end Go.Proofs.Ythkjikennlaelaa.fnFuses
