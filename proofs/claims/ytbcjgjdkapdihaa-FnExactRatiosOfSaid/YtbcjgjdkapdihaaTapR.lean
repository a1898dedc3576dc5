/-
  The ratios of a tap. No theorem of a claim stands here.
-/
import Derived.Test.YtbcjgjdkapdihaaTapV
import Derived.Test.YtbcjgjdkapdihaaRowF
import Derived.Test.YtbcjgjdkapdihaaFe
set_option linter.unusedVariables false
set_option linter.unusedSimpArgs false
set_option maxRecDepth 8000
namespace Go.Proofs.Ytbcjgjdkapdihaa
open Go Go.RowKit Go.Deep Go.Proofs.Ytbcjgjdkapdihaa.Fl

theorem each_fin {e : Nat} (h : eachOk e = true) : rung .f32 e < FloatKind.f32.format.infRung := by
  have e0 : FloatKind.f32.format.order e 0 = ford .f32 (vl .f32 e) (vl .f32 0) := order_vl _ _ _
  unfold eachOk at h
  rcases vl_cases .f32 e with hv | hv
  · rw [hv] at e0
    rw [show FloatKind.f32.format.order e 0 = none from e0] at h
    simp at h
  · have h1 := num_rung hv
    rcases Nat.lt_or_ge (rung .f32 e) FloatKind.f32.format.infRung with h2 | h2
    · exact h2
    · have h3 : rung .f32 e = FloatKind.f32.format.infRung := by omega
      have a := order_inf_fin .f32 e 0 h3 (by decide)
      have b := order_inf_fin .f32 e 1031798784 h3 (by decide)
      rw [show FloatKind.f32.format.order e 0 = _ from a, show FloatKind.f32.format.order e 1031798784 = _ from b] at h
      cases hn : neg .f32 e <;> rw [hn] at h <;> simp at h
theorem steps_fin {s : Int} (h : inS s = true) : rung .f32 (floatOfInt .f32 s) < FloatKind.f32.format.infRung := by
  obtain ⟨h1, h2⟩ := inS_true h
  have key : ∀ n : Fin 33, rung .f32 (floatOfInt .f32 ((n.1 : Int) - 16)) < FloatKind.f32.format.infRung := by decide +kernel
  have := key ⟨(s + 16).toNat, by omega⟩
  rw [show (((s + 16).toNat : Int) - 16) = s by omega] at this
  exact this
theorem mul_some {a b : Nat} (fa : rung .f32 a < FloatKind.f32.format.infRung) (fb : rung .f32 b < FloatKind.f32.format.infRung) : ∃ r, floatBits .mul .f32 a b = some r := by
  obtain ⟨m, i, h1, _⟩ := read_units .f32 a fa
  obtain ⟨n, j, h2, _⟩ := read_units .f32 b fb
  simp only [floatBits, Ieee.Format.mul]
  rw [show FloatKind.f32.format.read a = _ from h1, show FloatKind.f32.format.read b = _ from h2]
  exact ⟨_, rfl⟩
theorem add_some {a b : Nat} (fa : rung .f32 a < FloatKind.f32.format.infRung) (hb : vl .f32 b = some b) : ∃ r, floatBits .add .f32 a b = some r := by
  obtain ⟨m, i, h1, _⟩ := read_units .f32 a fa
  simp only [floatBits, Ieee.Format.add]
  rw [show FloatKind.f32.format.read a = _ from h1]
  cases hd : FloatKind.f32.format.read b with
  | number s n j => exact ⟨_, rfl⟩
  | infinity s => exact ⟨_, rfl⟩
  | nan s n =>
    exfalso
    unfold vl at hb
    rw [show FloatKind.f32.decode b = FloatKind.f32.format.read b from rfl, hd] at hb
    simp [Ieee.Datum.isNaN] at hb
/-- One plus steps times each. -/
def rat (s : Int) (e : Nat) : Nat := ((floatBits .mul .f32 (floatOfInt .f32 s) e).bind fun p => floatBits .add .f32 1065353216 p).getD 0
theorem rat_some {s : Int} {e : Nat} (hs : inS s = true) (he : eachOk e = true) : ∃ p, floatBits .mul .f32 (floatOfInt .f32 s) e = some p ∧ floatBits .add .f32 1065353216 p = some (rat s e) ∧ vl .f32 (rat s e) = some (rat s e) ∧ rat s e < 2 ^ 32 := by
  obtain ⟨p, hp⟩ := mul_some (steps_fin hs) (each_fin he)
  obtain ⟨r, hr⟩ := add_some (a := 1065353216) (by decide) (floatBits_nan hp).1
  have e1 : rat s e = r := by unfold rat; rw [hp]; simp [hr]
  rw [e1]
  exact ⟨p, hp, hr, (floatBits_nan hr).1, lt_of_wf (floatBits_wf hr)⟩

theorem l05Ratio_any {s : Int} {e : Nat} (hs : inS s = true) (he : eachOk e = true) (w : World) : Calls Try.prog 195 #[.int .i64 s, .float .f32 e] w fun en w' => en = .returned (.float .f32 (rat s e)) ∧ w' = w := by
  obtain ⟨p, h1, h2, _⟩ := rat_some hs he
  have hm := fun w : World => run_float_arith (P := Try.prog) w .mul 28 .f32 _ _ _ h1
  have ha := fun w : World => run_float_arith (P := Try.prog) w .add 28 .f32 _ _ _ h2
  clear h1 h2
  generalize hF : floatOfInt .f32 s = F at *
  go_enter Try.func195, Try.ntmps195
  go_wp2
  go_ret
  exact ⟨rfl, rfl⟩
theorem mulN_any {x y p : Nat} (h1 : floatBits .mul .f32 x y = some p) (w : World) : Calls Try.prog 149 #[.float .f32 x, .float .f32 y] w fun en w' => en = .returned (.float .f32 p) ∧ w' = w := by
  have hm := fun w : World => run_float_arith (P := Try.prog) w .mul 28 .f32 _ _ _ h1
  clear h1
  go_enter Try.func149, Try.ntmps149
  go_wp2
  go_ret
  exact ⟨rfl, rfl⟩
/-- The ratios, as a list. -/
def ratL (x y z : Int) (e : Nat) : List Nat := [rat x e, rat y e, rat z e]
theorem own_lit3 (w : World) (x y z : Nat) : OwnF w.heap.size (w.alloc (.cells #[.float .f32 x, .float .f32 y, .float .f32 z] 28)) (some ⟨w.heap.size, 0, none⟩) 3 [x, y, z] :=
  World.ownsRow_lit w #[.float .f32 x, .float .f32 y, .float .f32 z] 3 (Nat.le_refl _) (by simp [maxLen]) rfl
set_option maxHeartbeats 4000000 in
theorem l05Ratios_any {x y z : Int} {e : Nat} (hx : inS x = true) (hy : inS y = true) (hz : inS z = true) (he : eachOk e = true) (w : World) (g : Nat) (c1 : w.cell? ⟨g, 1, none⟩ = some (.int .i64 x)) (c2 : w.cell? ⟨g, 2, none⟩ = some (.int .i64 y)) (c3 : w.cell? ⟨g, 3, none⟩ = some (.int .i64 z)) (c4 : w.cell? ⟨g, 4, none⟩ = some (.float .f32 e)) :
    Calls Try.prog 147 #[.pointer (some ⟨g, 0, none⟩)] w fun en w' => ∃ a, en = .returned (.slice a 3 3) ∧ OwnF w.heap.size w' a 3 (ratL x y z e) ∧ Below w.heap.size w w' := by
  have hA := fun w' : World => (l05Ratio_any hx he w').mono fun en w'' ⟨h1, h2⟩ => (show _ ∧ Below w'.heap.size w' w'' from ⟨h1, by subst h2; exact Below.refl _ _⟩)
  have hB := fun w' : World => (l05Ratio_any hy he w').mono fun en w'' ⟨h1, h2⟩ => (show _ ∧ Below w'.heap.size w' w'' from ⟨h1, by subst h2; exact Below.refl _ _⟩)
  have hC := fun w' : World => (l05Ratio_any hz he w').mono fun en w'' ⟨h1, h2⟩ => (show _ ∧ Below w'.heap.size w' w'' from ⟨h1, by subst h2; exact Below.refl _ _⟩)
  have d1 := fun y : Grown w => y.cell c1
  have d2 := fun y : Grown w => y.cell c2
  have d3 := fun y : Grown w => y.cell c3
  have d4 := fun y : Grown w => y.cell c4
  clear hx hy hz he c1 c2 c3 c4
  unfold ratL
  generalize rat x e = rx at *
  generalize rat y e = ry at *
  generalize rat z e = rz at *
  go_enter Try.func147, Try.ntmps147
  go_wp2_with fail
  refine wp_grown_tail 27 (by kernel_rfl) (by kernel_rfl) ?_
  simp only [List.take_succ_cons, List.take_zero, List.drop_succ_cons, List.drop_zero]
  repeat (go_big_quiet_step (first | (go_at_call_of 195 (Value.int .i64 x); exact Grown.calls _ (hA _)) | (go_at_call_of 195 (Value.int .i64 y); exact Grown.calls _ (hB _)) | (go_at_call_of 195 (Value.int .i64 z); exact Grown.calls _ (hC _))))
  refine wpQuiet_nil ?_
  rintro _ ⟨v, rfl⟩
  have Hb := Lib.hid v.2
  generalize v.1 = w5 at *
  clear d1 d2 d3 d4 hA hB hC
  go_wp2
  go_ret
  have h := own_lit3 w5 rx ry rz
  exact ⟨_, rfl, OwnF.base h Hb.out.size, Hb.out.alloc Hb.out.size _⟩
/-- The slice v is the call's own, from the block 'base' on, and holds the floats l. -/
def FL (base : Nat) (w : World) (v : Value) (l : List Nat) : Prop := w.ownsRow base 28 1 v l.length (fvals l)
theorem FL.nil (base : Nat) (w : World) : FL base w (.slice none 0 0) [] := ⟨rfl, .inl ⟨rfl, rfl⟩⟩
theorem FL.own {base : Nat} {w : World} {v : Value} {l : List Nat} (h : FL base w v l) : ∃ a cap, v = .slice a l.length cap ∧ OwnF base w a cap l := by
  rcases h.2 with ⟨h2, h3⟩ | ⟨g, c, cur, e1, _⟩
  · refine ⟨none, 0, by rw [h2, h3], ?_⟩
    unfold OwnF; rw [h3]
    rw [← h2, ← h3]; exact h
  · refine ⟨_, _, e1, ?_⟩
    unfold OwnF; rw [← e1]; exact h
theorem FL.ob {base : Nat} {w : World} {v : Value} {l : List Nat} (h : FL base w v l) : ∀ k, v.ownBlock = some k → base ≤ k ∧ k < w.heap.size := by
  intro k hk
  rcases h.2 with ⟨h2, h3⟩ | ⟨g, c, cur, e1, h1, h2, _⟩
  · rw [h2] at hk; cases hk
  · rw [e1] at hk
    simp [Value.ownBlock] at hk
    subst hk
    exact ⟨h1, (Array.getElem?_eq_some_iff.1 h2).1⟩
theorem FL.snoc {base : Nat} {w : World} {v : Value} {l : List Nat} {n : Nat} (h : w.ownsRow base 28 1 v (l.length + 1) (fvals l ++ [.float .f32 n])) : FL base w v (l ++ [n]) := by
  unfold FL
  rw [List.length_append, fvals_snoc]
  exact h
def ratR (x y z : Int) (e : Nat) : List Nat := if tapOk x y z e then ratL x y z e else []
/-- What RatiosOf hands back. -/
def RatPost (x y z : Int) (e : Nat) (w : World) (en : Ending) (w' : World) : Prop := ∃ a c, en = .returned (.tuple #[.slice a (ratR x y z e).length c, .bool (tapOk x y z e)]) ∧ OwnF w.heap.size w' a c (ratR x y z e) ∧ Below w.heap.size w w'
theorem tapOk_true {x y z : Int} {e : Nat} (h : tapOk x y z e = true) : inS x = true ∧ inS y = true ∧ inS z = true ∧ eachOk e = true := by
  unfold tapOk at h; simp only [Bool.and_eq_true] at h; exact ⟨h.1.1.1, h.1.1.2, h.1.2, h.2⟩
theorem ratR_true {x y z : Int} {e : Nat} (h : tapOk x y z e = true) : ratR x y z e = ratL x y z e := by unfold ratR; rw [h]; rfl
theorem ratR_false {x y z : Int} {e : Nat} (h : tapOk x y z e = false) : ratR x y z e = [] := by unfold ratR; rw [h]; rfl
theorem ratR_lt {x y z : Int} {e : Nat} : ∀ n ∈ ratR x y z e, n < 2 ^ 32 := by
  intro n hn
  cases h : tapOk x y z e
  · rw [ratR_false h] at hn; cases hn
  · rw [ratR_true h] at hn
    obtain ⟨hx, hy, hz, he⟩ := tapOk_true h
    unfold ratL at hn
    simp only [List.mem_cons, List.mem_nil_iff, or_false] at hn
    rcases hn with rfl | rfl | rfl
    · exact (rat_some hx he).choose_spec.2.2.2
    · exact (rat_some hy he).choose_spec.2.2.2
    · exact (rat_some hz he).choose_spec.2.2.2

set_option maxHeartbeats 4000000 in
theorem specRatios_any (b x y z : Int) (e : Nat) (w : World) : Calls Try.prog 72 #[TV b x y z e] w (RatPost x y z e w) := by
  unfold TV
  have k1 : (w.alloc (.cells #[.int .i64 b, .int .i64 x, .int .i64 y, .int .i64 z, .float .f32 e] 103)).cell? ⟨w.heap.size, 1, none⟩ = some (.int .i64 x) := by simp [go_sem]
  have k2 : (w.alloc (.cells #[.int .i64 b, .int .i64 x, .int .i64 y, .int .i64 z, .float .f32 e] 103)).cell? ⟨w.heap.size, 2, none⟩ = some (.int .i64 y) := by simp [go_sem]
  have k3 : (w.alloc (.cells #[.int .i64 b, .int .i64 x, .int .i64 y, .int .i64 z, .float .f32 e] 103)).cell? ⟨w.heap.size, 3, none⟩ = some (.int .i64 z) := by simp [go_sem]
  have k4 : (w.alloc (.cells #[.int .i64 b, .int .i64 x, .int .i64 y, .int .i64 z, .float .f32 e] 103)).cell? ⟨w.heap.size, 4, none⟩ = some (.float .f32 e) := by simp [go_sem]
  have kb : Hid (Below w.heap.size w (w.alloc (.cells #[.int .i64 b, .int .i64 x, .int .i64 y, .int .i64 z, .float .f32 e] 103))) := Lib.hid ((Below.refl _ w).alloc (Nat.le_refl _) _)
  have hT := l05Tap_any x y z e _ _ k1 k2 k3 k4
  unfold RatPost
  cases h : tapOk x y z e
  · rw [h] at hT
    have hR := ratR_false h
    clear k1 k2 k3 k4
    go_enter Try.func72, Try.ntmps72
    go_wp2_with (go_at_call 146; refine hT.mono ?_; clear hT; rintro en w1 ⟨rfl, rfl⟩)
    go_ret2
    refine ⟨none, 0, ?_, ?_, kb.out⟩
    · rw [hR]; rfl
    · rw [hR]; exact OwnF.nil _ _
  · rw [h] at hT
    have hR := ratR_true h
    obtain ⟨hx, hy, hz, he⟩ := tapOk_true h
    have hL := l05Ratios_any hx hy hz he _ _ k1 k2 k3 k4
    clear k1 k2 k3 k4 hx hy hz he
    go_enter Try.func72, Try.ntmps72
    go_wp2_with (first | (go_at_call 146; refine hT.mono ?_; clear hT; rintro en w1 ⟨rfl, rfl⟩) | (go_at_call 147; refine hL.mono ?_; clear hL; rintro en w1 ⟨a, rfl, ho, hb⟩; have Ho := Lib.hid ho; have Hb := Lib.hid (kb.out.trans (hb.mono kb.out.size)); clear ho hb))
    go_ret2
    refine ⟨a, 3, ?_, ?_, Hb.out⟩
    · rw [hR]; rfl
    · rw [hR]; exact OwnF.base Ho.out kb.out.size
set_option maxHeartbeats 4000000 in
theorem implRatios_any (b x y z : Int) (e : Nat) (w : World) : Calls Try.prog 74 #[TV b x y z e] w (RatPost x y z e w) := by
  have hI := fun w : World => isTap_any b x y z e w
  have hS := fun w : World => stepsOf_any b x y z e w
  unfold TV at *
  have kk : ∀ w', Below (w.heap.size + 1) (w.alloc (.cells #[.int .i64 b, .int .i64 x, .int .i64 y, .int .i64 z, .float .f32 e] 103)) w' → w'.cell? ⟨w.heap.size, 0, none⟩ = some (.int .i64 b) ∧ w'.cell? ⟨w.heap.size, 1, none⟩ = some (.int .i64 x) ∧ w'.cell? ⟨w.heap.size, 2, none⟩ = some (.int .i64 y) ∧ w'.cell? ⟨w.heap.size, 3, none⟩ = some (.int .i64 z) ∧ w'.cell? ⟨w.heap.size, 4, none⟩ = some (.float .f32 e) := fun w' h =>
    have q := fun k => h.cell (p := ⟨w.heap.size, k, none⟩) (Nat.lt_succ_self _)
    ⟨(q 0).trans (by simp [go_sem]), (q 1).trans (by simp [go_sem]), (q 2).trans (by simp [go_sem]), (q 3).trans (by simp [go_sem]), (q 4).trans (by simp [go_sem])⟩
  have kb : Hid (Below w.heap.size w (w.alloc (.cells #[.int .i64 b, .int .i64 x, .int .i64 y, .int .i64 z, .float .f32 e] 103))) := Lib.hid ((Below.refl _ w).alloc (Nat.le_refl _) _)
  unfold RatPost
  cases h : tapOk x y z e
  · rw [h] at hI
    have hR := ratR_false h
    clear kk
    go_enter Try.func74, Try.ntmps74
    go_wp2_with (go_at_call 111; refine (hI _).mono ?_; clear hI; rintro en w1 ⟨rfl, hb⟩; have Hb := Lib.hid (kb.out.trans (hb.mono kb.out.size)); clear hb)
    go_ret2
    refine ⟨none, 0, ?_, ?_, Hb.out⟩
    · rw [hR]; rfl
    · rw [hR]; exact OwnF.nil _ _
  · rw [h] at hI
    have hR := ratR_true h
    obtain ⟨hx, hy, hz, he⟩ := tapOk_true h
    obtain ⟨i0, hi, hz0, hz1, hz2⟩ := info_parts infoF32
    have HT := Lib.hid (And.intro hx (And.intro hy (And.intro hz he)))
    clear hx hy hz he
    go_enter Try.func74, Try.ntmps74
    have hsz : (w.alloc (.cells #[.int .i64 b, .int .i64 x, .int .i64 y, .int .i64 z, .float .f32 e] 103)).heap.size = w.heap.size + 1 := by simp
    generalize hW : (w.alloc (.cells #[.int .i64 b, .int .i64 x, .int .i64 y, .int .i64 z, .float .f32 e] 103)) = W at *
    have KK := Lib.hid kk
    clear kk
    have p := KK.out W (Below.refl _ _)
    have p0 := p.1
    have p1 := p.2.1
    have p2 := p.2.2.1
    have p3 := p.2.2.2.1
    have p4 := p.2.2.2.2
    clear p
    go_wp2_with (first | (go_at_call 111; (try rw [hW]); refine (hI _).mono ?_; clear hI; rintro en w1 ⟨rfl, hb⟩; have H1 := Lib.hid hb; have q := KK.out w1 (by rw [← hsz]; exact hb); have q0 := q.1; have q1 := q.2.1; have q2 := q.2.2.1; have q3 := q.2.2.2.1; have q4 := q.2.2.2.2; clear hb q) | (go_at_call 148; refine (hS _).mono ?_; clear hS; rintro en w2 ⟨rfl, hb⟩; have H2 := Lib.hid (H1.out.trans (hb.mono H1.out.size)); clear hb H1))

    go_loopw [4, 12] (fun R I wr => ∃ k : Nat, k ≤ 3 ∧ I = .int .i64 k ∧ Hid (FL (w.heap.size + 1) wr R ((ratL x y z e).take k)) ∧ Hid (Below (w.heap.size + 1) W wr)) (fun _ I _ => 3 - (intOf I).toNat)
    case atStart => exact ⟨0, by omega, rfl, Lib.hid (FL.nil _ _), Lib.hid (by rw [hsz] at H2; exact H2.out)⟩
    case round =>
      obtain ⟨k, hk, rfl, Ho, Hw⟩ := hrel
      clear H2
      by_cases h3 : k = 3
      · subst h3
        go_wp2
        go_ret2
        obtain ⟨a, c, e1, e2⟩ := Ho.out.own
        refine ⟨a, c, ?_, ?_, kb.out.trans (Hw.out.mono (by omega))⟩
        · rw [hR]; rw [e1]; rfl
        · rw [hR]; exact OwnF.base e2 (by omega)
      · have hst : inS (tst x y z k) = true := by
          obtain rfl | rfl | rfl : k = 0 ∨ k = 1 ∨ k = 2 := by omega
          · exact HT.out.1
          · exact HT.out.2.1
          · exact HT.out.2.2.1
        have hix : ∀ w : World, (Instr.index 159 (.agg #[.int .i64 x, .int .i64 y, .int .i64 z]) (.int .i64 k)).run Try.prog w = .ok (.int .i64 (tst x y z k)) w := fun _ => by
          obtain rfl | rfl | rfl : k = 0 ∨ k = 1 ∨ k = 2 := by omega
          all_goals kernel_rfl
        obtain ⟨p, hp1, hp2, _, _⟩ := rat_some hst HT.out.2.2.2
        have hsn : (ratL x y z e).take (k + 1) = (ratL x y z e).take k ++ [rat (tst x y z k) e] := by
          obtain rfl | rfl | rfl : k = 0 ∨ k = 1 ∨ k = 2 := by omega
          all_goals rfl
        have ha := fun w : World => run_float_arith (P := Try.prog) w .add 28 .f32 _ _ _ hp2
        have hm := fun w : World => mulN_any hp1 w
        have c4 : wr.cell? ⟨w.heap.size, 4, none⟩ = some (.float .f32 e) := (KK.out wr Hw.out).2.2.2.2
        have HS := Lib.hid hsn
        have Hsz := Lib.hid Hw.out.size
        clear hsn hp1 hp2 hst
        generalize rat (tst x y z k) e = rr at *
        generalize tst x y z k = T at *
        generalize hF : floatOfInt .f32 T = F at *
        generalize hL : (ratL x y z e).take k = L at *
        have HL : Hid (L.length = k) := Lib.hid (by rw [← hL]; simp [ratL]; omega)
        obtain ⟨va, vc, rfl, hown⟩ := Ho.out.own
        clear hown
        have HO : ∀ o1, ((wr.alloc o1)).ownsRow (w.heap.size + 1) 28 1 (.slice va L.length vc) L.length (fvals L) := fun o1 => (Ho.out.alloc o1)
        go_wp2_with (first | (go_at_call 149; refine (hm _).mono ?_; rintro en w3 ⟨rfl, rfl⟩) | (at_builtin; go_loud (refine wpList_append_own _ rfl (.tmp 15) (.tmp 22) 70 rfl (w.heap.size + 1) 28 i0 (.float .f32 0) 1 4 Try.underlying70 hi hz0 hz1 hz2 rfl (by decide) (.slice va L.length vc) L.length _ rfl (HO _) ⟨w3.heap.size, 0, none⟩ 1 1 [.float .f32 rr] rfl (by simp) (cell_newrowB _ _ _) (f_one _) (by have := HL.out; unfold maxLen; omega) (by have := HL.out; omega) (by have := Hsz.out; simp; omega) ?_); intro v' w4 hown' hgrow3 hnil3; obtain ⟨g', c', rfl, hg0', hgs', hc'⟩ := form_own hown'; have Hb3 := Lib.hid ((Hw.out.alloc (by have := Hsz.out; omega) _).grown hgrow3 (by have := Hsz.out; simp; omega) (fun x hx => (Ho.out.ob x hx).1)); have Ho3 := Lib.hid (FL.snoc hown'); clear hown' hgrow3 hnil3))
        go_roundw
        case rel => exact ⟨k + 1, by omega, by go_num, by rw [HS.out]; exact Ho3, Hb3⟩
        case measure => simp [intOf]; omega
end Go.Proofs.Ytbcjgjdkapdihaa
