/-
  The buses with a given parent, in the program. No theorem of a claim stands here.
-/
import Derived.Test.YtkkkhfgpjicebaaFdr
import Derived.Test.YtkkkhfgpjicebaaInts
set_option linter.unusedVariables false
set_option linter.unusedSimpArgs false
set_option maxRecDepth 8000
namespace Go.Proofs.Ytkkkhfgpjicebaa
open Go Go.RowKit Go.Shelf Go.Deep Go.Proofs.Ytkkkhfgpjicebaa.Fl

def iv (l : List Int) : List Value := l.map fun n => Value.int .i64 n
theorem iv_snoc (l : List Int) (n : Int) : iv (l ++ [n]) = iv l ++ [.int .i64 n] := by simp [iv]
theorem iv_len (l : List Int) : (iv l).length = l.length := by simp [iv]
/-- The slice v is the call's own, from the block 'base' on, and holds l. -/
def IL (base : Nat) (w : World) (v : Value) (l : List Int) : Prop := w.ownsRow base 2 1 v l.length (iv l)
theorem IL.nil (base : Nat) (w : World) : IL base w (.slice none 0 0) [] := ⟨rfl, .inl ⟨rfl, rfl⟩⟩
theorem IL.below {base : Nat} {w w' : World} {v : Value} {l : List Int} {B : Nat} (h : IL base w v l) (hb : Below B w w') (hB : w.heap.size ≤ B) : IL base w' v l := by
  refine ⟨h.1, ?_⟩
  rcases h.2 with h2 | ⟨g, cap, cur, e1, h1, h2, h3⟩
  · exact .inl h2
  · exact .inr ⟨g, cap, cur, e1, h1, (hb.block g (Nat.lt_of_lt_of_le (Array.getElem?_eq_some_iff.1 h2).1 hB)).trans h2, h3⟩
theorem IL.alloc {base : Nat} {w : World} {v : Value} {l : List Int} (h : IL base w v l) (o : Obj) : IL base (w.alloc o) v l := World.ownsRow.alloc h o
theorem IL.form {base : Nat} {w : World} {v : Value} {l : List Int} (h : IL base w v l) : ∃ a cap, v = .slice a l.length cap := by
  rcases h.2 with ⟨h2, h3⟩ | ⟨g, c, cur, e1, _⟩
  · exact ⟨none, 0, by rw [h2, h3]⟩
  · exact ⟨_, _, e1⟩
theorem IL.rd {base : Nat} {w : World} {a : Option Addr} {n cap : Nat} {l : List Int} (h : IL base w (.slice a n cap) l) (hb : ∀ n ∈ l, -9223372036854775808 ≤ n ∧ n ≤ 9223372036854775807) : IRd w a n cap l := by
  rcases h.2 with ⟨h2, h3⟩ | ⟨g, c, cur, e1, h1, h2, h3, h4, h5, h6⟩
  · simp at h2
    obtain ⟨rfl, rfl, rfl⟩ := h2
    exact ⟨h3, Nat.le_refl _, Nat.zero_le _, fun k hk => absurd hk (Nat.not_lt_zero _), hb⟩
  · simp at e1
    obtain ⟨rfl, rfl, rfl⟩ := e1
    refine ⟨rfl, h3, h4, fun k hk => ⟨g, 0, rfl, ?_, (Array.getElem?_eq_some_iff.1 h2).1⟩, hb⟩
    have hc := World.ownsRow.cellAt h k (by omega)
    rw [Nat.zero_add, hc]
    simp [iv, List.getD, hk]
theorem form_il {w : World} {base n : Nat} {e : TypeId} {v : Value} {xs : List Value} (h : w.ownsRow base e 1 v (n + 1) xs) : ∃ g cap, v = .slice (some ⟨g, 0, none⟩) (n + 1) cap ∧ base ≤ g ∧ g < w.heap.size ∧ n + 1 ≤ cap := by
  rcases h.2 with ⟨_, h⟩ | ⟨g, cap, cur, h, hb, hg, hc, _⟩
  · omega
  · exact ⟨g, cap, h, hb, (Array.getElem?_eq_some_iff.1 hg).1, hc⟩
theorem int_one' (n : Int) : ∀ u ∈ [Value.int .i64 n], u.oneCell' = true := by
  intro u hu
  simp at hu
  subst hu
  rfl

theorem IL.ob {base : Nat} {w : World} {v : Value} {l : List Int} (h : IL base w v l) : ∀ k, v.ownBlock = some k → base ≤ k ∧ k < w.heap.size := by
  intro k hk
  rcases h.2 with ⟨h2, h3⟩ | ⟨g, c, cur, e1, h1, h2, _⟩
  · rw [h2] at hk; cases hk
  · rw [e1] at hk
    simp [Value.ownBlock] at hk
    subst hk
    exact ⟨h1, (Array.getElem?_eq_some_iff.1 h2).1⟩
theorem IL.snoc {base : Nat} {w : World} {v : Value} {l : List Int} {n : Int} (h : w.ownsRow base 2 1 v (l.length + 1) (iv l ++ [.int .i64 n])) : IL base w v (l ++ [n]) := by
  unfold IL
  rw [List.length_append, iv_snoc]
  exact h
theorem news1 (w : World) (o : Obj) (v : Value) (t : TypeId) : ∀ j u, [v][j]? = some u → ((w.alloc o).alloc (.cells #[v] t)).cell? ((⟨w.heap.size + 1, 0, none⟩ : Addr).add j) = some u := by
  have h := RL.news (RL.new (w.alloc o) [v] t)
  rw [World.size_alloc] at h
  exact h
theorem news0 (w : World) (v : Value) (t : TypeId) : ∀ j u, [v][j]? = some u → (w.alloc (.cells #[v] t)).cell? ((⟨w.heap.size, 0, none⟩ : Addr).add j) = some u := RL.news (RL.new w [v] t)

/-- The parent of bus i. -/
def parAt (Bs : List BusV) (i : Nat) : Int := ((Bs[i]?).map BusV.par).getD (-1)
theorem parAt_get {Bs : List BusV} {i : Nat} (h : i < Bs.length) : parAt Bs i = Bs[i].par := by simp [parAt, h]
/-- The buses below k whose parent is b. -/
def kids (Bs : List BusV) (b : Int) (k : Nat) : List Int := ((List.range k).filter fun i => parAt Bs i = b).map fun (i : Nat) => (i : Int)
theorem kids_yes {Bs : List BusV} {b : Int} {k : Nat} (h : parAt Bs k = b) : kids Bs b (k + 1) = kids Bs b k ++ [(k : Int)] := by simp [kids, List.range_succ, List.filter_append, h]
theorem kids_no {Bs : List BusV} {b : Int} {k : Nat} (h : parAt Bs k ≠ b) : kids Bs b (k + 1) = kids Bs b k := by simp [kids, List.range_succ, List.filter_append, h]
theorem kids_len (Bs : List BusV) (b : Int) (k : Nat) : (kids Bs b k).length ≤ k := by
  unfold kids
  rw [List.length_map]
  exact Nat.le_trans (List.length_filter_le _ _) (by simp)

set_option maxRecDepth 100000 in
set_option maxHeartbeats 4000000 in
theorem children_any (w : World) (s : Nat → Nat) (g n c : Nat) (Bs : List BusV) (hF : Fdr w g n c Bs) (b : Nat) (hb : b < n) : Calls Try.prog 47 #[FV s g n c, .int .i64 b] w fun e w' => ∃ v, e = .returned (.tuple #[v, .bool true]) ∧ IL w.heap.size w' v (kids Bs b n) ∧ Below w.heap.size w w' := by
  have h1 := hF.one
  have h2 := hF.most
  have h3 := hF.cap
  have HF := Lib.hid hF
  clear hF
  have hst := fun (a : Addr) (x y : Nat) (m : Mode) (w : World) => run_store Try.prog w a (.complex .f32 x y) m rfl
  have hV := fun w' (h : Below w.heap.size w w') => hasBus_any w' s g n c Bs (HF.out.below h (Nat.le_refl _)) b hb
  unfold FV at *
  obtain ⟨i0, hi, hz0, hz1, hz2⟩ := info_parts (show (Try.prog.info? 2).map (fun i => (i.zero, i.size, i.bytes)) = some (some (.int .i64 0), 1, 8) by kernel_rfl)
  go_enter Try.func47, Try.ntmps47
  go_wp2_with fail
  refine (hV _ (bel_alloc _ _)).mono ?_
  rintro e w2 ⟨rfl, hbb⟩
  have Hb := Lib.hid (bel_then (bel_alloc _ _) hbb)
  have k3 : w2.cell? ⟨w.heap.size, 3, none⟩ = some (.slice (some ⟨g, 0, none⟩) n c) := (hbb.cell (p := ⟨w.heap.size, 3, none⟩) (by simp)).trans ((RL.new w [.complex .f32 (s 0) (s 1), .complex .f32 (s 2) (s 3), .complex .f32 (s 4) (s 5), .slice (some ⟨g, 0, none⟩) n c] 29).cell 3 (by simp))
  clear hbb
  go_wp2_with fail
  go_loopw [6, 16] (fun V I wr => ∃ k : Nat, k ≤ n ∧ I = .int .i64 k ∧ Hid (IL w.heap.size wr V (kids Bs b k)) ∧ Hid (Below w.heap.size w wr)) (fun _ I _ => n - (intOf I).toNat)
  case atStart => exact ⟨0, Nat.zero_le _, rfl, Lib.hid (IL.nil _ _), Hb⟩
  case round =>
    obtain ⟨k, hk, rfl, Ho, Hw⟩ := hrel
    obtain ⟨va, vc, rfl⟩ := Ho.out.form
    by_cases hlt : k < n
    · have hlB : k < Bs.length := by rw [HF.out.len]; exact hlt
      have hpk := parAt_get hlB
      have hcw := (HF.out.below Hw.out (Nat.le_refl _)).rd.2 k hlB
      generalize Bs[k] = B at *
      have c0 : wr.cell? ⟨g, k * 8, none⟩ = some (.int .i64 B.par) := hcw 0 (by omega)
      have c1 : wr.cell? ⟨g, k * 8 + 1, none⟩ = some (.complex .f32 B.o0 B.o1) := hcw 1 (by omega)
      have c2 : wr.cell? ⟨g, k * 8 + 2, none⟩ = some (.complex .f32 B.s0 B.s1) := hcw 2 (by omega)
      have c3 : wr.cell? ⟨g, k * 8 + 3, none⟩ = some (.int .i64 B.kind) := hcw 3 (by omega)
      have c4 : wr.cell? ⟨g, k * 8 + 4, none⟩ = some (.complex .f32 B.a0 B.a1) := hcw 4 (by omega)
      have c5 : wr.cell? ⟨g, k * 8 + 5, none⟩ = some (.complex .f32 B.b0 B.b1) := hcw 5 (by omega)
      have c6 : wr.cell? ⟨g, k * 8 + 6, none⟩ = some (.complex .f32 B.c0 B.c1) := hcw 6 (by omega)
      have c7 : wr.cell? ⟨g, k * 8 + 7, none⟩ = some (.int .i64 B.cust) := hcw 7 (by omega)
      have Hsz := Lib.hid Hw.out.size
      have hll := kids_len Bs b k
      clear hcw
      have hp0 : (wr.alloc (.cells B.vals.toArray 78)).cell? ⟨wr.heap.size, 0, none⟩ = some (.int .i64 B.par) := (RL.new wr B.vals 78).cell 0 (by show 0 < 8; omega)
      by_cases hp : B.par = b
      · have hks := kids_yes (hpk.trans hp)
        have HK := Lib.hid hks
        have Hpk := Lib.hid hpk
        clear hks hpk
        rw [hp] at c0 hp0
        generalize hL : kids Bs b k = L at *
        have HO : ∀ o1 o2, ((wr.alloc o1).alloc o2).ownsRow w.heap.size 2 1 (.slice va L.length vc) L.length (iv L) := fun o1 o2 => (Ho.out.alloc o1).alloc o2
        go_wp2_with (at_builtin; refine wpList_append_own _ rfl (.tmp 25) (.tmp 27) 51 rfl w.heap.size 2 i0 (.int .i64 0) 1 8 Try.underlying51 hi hz0 hz1 hz2 rfl (by decide) (.slice va L.length vc) L.length _ rfl (HO _ _) ⟨wr.heap.size + 1, 0, none⟩ 1 1 [.int .i64 k] rfl (by simp) (news1 _ _ _ _) (int_one' _) (by unfold maxLen; omega) (by omega) (by have := Hsz.out; simp; omega) ?_; intro v' w3 hown' hgrow3 hnil3; obtain ⟨g', c', rfl, hg0', hgs', hc'⟩ := form_il hown'; have Hb3 := Lib.hid (((Hw.out.alloc Hsz.out _).alloc (by have := Hsz.out; simp; omega) _).grown hgrow3 (by have := Hsz.out; simp; omega) (fun x hx => (Ho.out.ob x hx).1)); have Ho3 := Lib.hid (IL.snoc hown'); clear hown' hgrow3 hnil3)
        go_roundw
        case rel => exact ⟨k + 1, by omega, by go_num, by rw [HK.out]; exact Ho3, Hb3⟩
        case measure => simp [intOf]; omega
      · have hks := kids_no (fun e => hp (hpk.symm.trans e))
        have HK := Lib.hid hks
        have hpb : (B.par == (b : Int)) = false := by rw [beq_eq_false_iff_ne]; exact hp
        clear hks
        go_wp2_with fail
        go_roundw
        case rel => exact ⟨k + 1, by omega, by go_num, by rw [HK.out]; exact Lib.hid (Ho.out.alloc _), Lib.hid (Hw.out.alloc Hsz.out _)⟩
        case measure => simp [intOf]; omega
    · obtain rfl : k = n := by omega
      go_wp2_with fail
      go_ret2
      exact ⟨_, rfl, Ho.out, Hw.out⟩
end Go.Proofs.Ytkkkhfgpjicebaa
