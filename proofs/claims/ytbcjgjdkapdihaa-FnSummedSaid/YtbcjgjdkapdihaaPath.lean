/-
  The path to a bus, in the program. No theorem of a claim stands here.
-/
import Derived.Test.YtbcjgjdkapdihaaRev
set_option linter.unusedVariables false
set_option linter.unusedSimpArgs false
set_option maxRecDepth 8000
namespace Go.Proofs.Ytbcjgjdkapdihaa
open Go Go.RowKit Go.Shelf Go.Deep Go.Proofs.Ytbcjgjdkapdihaa.Fl

theorem IL.base {b b' : Nat} {w : World} {v : Value} {l : List Int} (h : IL b w v l) (hb : b' ≤ b) : IL b' w v l := by
  refine ⟨h.1, ?_⟩
  rcases h.2 with h2 | ⟨g, c, cur, e1, h1, h2⟩
  · exact .inl h2
  · exact .inr ⟨g, c, cur, e1, Nat.le_trans hb h1, h2⟩
theorem IL.form1 {base : Nat} {w : World} {v : Value} {l : List Int} (h : IL base w v l) (h0 : 0 < l.length) : ∃ g cap F, v = .slice (some ⟨g, 0, none⟩) l.length cap ∧ base ≤ g ∧ w.rowIs g 2 cap F ∧ (∀ j, j < l.length → F j = .int .i64 (l.getD j 0)) ∧ l.length ≤ cap ∧ cap ≤ maxLen := by
  rcases h.2 with ⟨h2, h3⟩ | ⟨g, c, cur, e1, h1, h2, h3, h4, h5, h6⟩
  · omega
  · refine ⟨g, c, fun j => cur.toList.getD j (.bool false), e1, h1, ⟨cur, h2, by rw [h5, Nat.mul_one], fun i hi => ?_⟩, fun j hj => ?_, h3, h4⟩
    · have : i < cur.size := by omega
      simp [List.getD, this]
    · have h7 : (cur.toList.take (l.length * 1))[j]? = (iv l)[j]? := by rw [h6]
      rw [List.getElem?_take_of_lt (by omega)] at h7
      simp only [List.getD, h7, iv, List.getElem?_map]
      simp [hj]
theorem IL.of_row {base g cap n : Nat} {w : World} {F : Nat → Value} {l : List Int} (h : w.rowIs g 2 cap F) (hn : l.length = n) (hF : ∀ j, j < n → F j = .int .i64 (l.getD j 0)) (hg : base ≤ g) (h1 : n ≤ cap) (h2 : cap ≤ maxLen) : IL base w (.slice (some ⟨g, 0, none⟩) n cap) l := by
  subst hn
  obtain ⟨cur, hb, hs, hc⟩ := h
  refine ⟨by rw [iv_len, Nat.mul_one], .inr ⟨g, cap, cur, rfl, hg, hb, h1, h2, by rw [hs, Nat.mul_one], ?_⟩⟩
  apply List.ext_getElem?
  intro j
  by_cases hj : j < l.length
  · rw [List.getElem?_take_of_lt (by omega), Array.getElem?_toList, hc j (by omega), hF j hj]
    simp [iv, hj, List.getD]
  · rw [List.getElem?_eq_none (by simp; omega), List.getElem?_eq_none (by rw [iv_len]; omega)]

/-- From bus a up to the root. -/
def ups (Bs : List BusV) : Nat → Int → List Int
  | 0, _ => []
  | f + 1, a => if a = -1 then [] else a :: ups Bs f (parAt Bs a.toNat)
theorem ups_end (Bs : List BusV) (f : Nat) : ups Bs f (-1) = [] := by cases f <;> simp [ups]
theorem ups_len (Bs : List BusV) : ∀ (f : Nat) (a : Int), (ups Bs f a).length ≤ f
  | 0, _ => Nat.le_refl _
  | f + 1, a => by
    unfold ups
    split
    · simp
    · have := ups_len Bs f (parAt Bs a.toNat)
      simpa using this

set_option maxRecDepth 100000 in
set_option maxHeartbeats 4000000 in
theorem path_any (w : World) (s : Nat → Nat) (g n c : Nat) (Bs : List BusV) (hF : Fdr w g n c Bs) (b : Nat) (hb : b < n) : Calls Try.prog 42 #[FV s g n c, .int .i64 b] w fun e w' => ∃ v, e = .returned (.tuple #[v, .bool true]) ∧ IL w.heap.size w' v (ups Bs 17 b).reverse ∧ Below w.heap.size w w' := by
  have h1 := hF.one
  have h2 := hF.most
  have h3 := hF.cap
  have HF := Lib.hid hF
  clear hF
  have hst := fun (a : Addr) (x y : Nat) (m : Mode) (w : World) => run_store Try.prog w a (.complex .f32 x y) m rfl
  have hV := fun w' (h : Below w.heap.size w w') => hasBus_any w' s g n c Bs (HF.out.below h (Nat.le_refl _)) b hb
  unfold FV at *
  obtain ⟨i0, hi, hz0, hz1, hz2⟩ := info_parts (show (Try.prog.info? 2).map (fun i => (i.zero, i.size, i.bytes)) = some (some (.int .i64 0), 1, 8) by kernel_rfl)
  go_enter Try.func42, Try.ntmps42
  go_wp2_with fail
  refine (hV _ (bel_alloc _ _)).mono ?_
  rintro e w2 ⟨rfl, hbb⟩
  have Hb := Lib.hid (bel_then (bel_alloc _ _) hbb)
  have HR2 := Lib.hid (RL.below (RL.new w [.complex .f32 (s 0) (s 1), .complex .f32 (s 2) (s 3), .complex .f32 (s 4) (s 5), .slice (some ⟨g, 0, none⟩) n c] 40) hbb (by simp))
  clear hbb
  go_wp2_with fail
  go_loopw [6, 7] (fun V A wr => ∃ (f : Nat) (a : Int) (L : List Int), A = .int .i64 a ∧ L.length + f = 17 ∧ -1 ≤ a ∧ a < n ∧ a + 1 ≤ f ∧ Hid (L ++ ups Bs f a = ups Bs 17 b) ∧ Hid (IL (w.heap.size + 1) wr V L) ∧ Hid (RL wr w.heap.size 40 [.complex .f32 (s 0) (s 1), .complex .f32 (s 2) (s 3), .complex .f32 (s 4) (s 5), .slice (some ⟨g, 0, none⟩) n c]) ∧ Hid (Below w.heap.size w wr)) (fun _ A _ => (intOf A + 1).toNat)
  case atStart => exact ⟨17, b, [], rfl, rfl, by omega, by omega, by omega, Lib.hid rfl, Lib.hid (IL.nil _ _), HR2, Hb⟩
  case round =>
    obtain ⟨f, a, L, rfl, hLf, ha1, ha2, haf, Hu, Ho, HR, Hw⟩ := hrel
    obtain ⟨va, vc, rfl⟩ := Ho.out.form
    by_cases hlt : a = -1
    · subst hlt
      have HL := Lib.hid (show L = ups Bs 17 b by have := Hu.out; rw [ups_end, List.append_nil] at this; exact this)
      have hpos : 0 < L.length := by
        rw [HL.out]
        unfold ups
        rw [if_neg (by omega)]
        simp
      obtain ⟨g', c', F, e1, hg', hrow, hFl, hc1, hc2⟩ := Ho.out.form1 hpos
      simp at e1
      obtain ⟨rfl, rfl⟩ := e1
      have hle : L.length ≤ 1000 := by omega
      have hrv := fun w' (h : w' = wr) => rev_any w' g' vc L.length F (fun j => L.getD j 0) (h ▸ hrow) hFl hpos hc1 hle
      go_wp2_with (go_at_call 123; refine (hrv _ rfl).mono ?_; rintro e w3 ⟨rfl, hr3, hb3⟩; have Hr3 := Lib.hid hr3; have Hb3 := Lib.hid hb3; clear hr3 hb3)
      go_ret2
      refine ⟨_, rfl, IL.of_row Hr3.out (by rw [List.length_reverse, HL.out]) (fun j hj => ?_) (by omega) hc1 hc2, Hw.out.trans (Hb3.out.mono (by omega))⟩
      rw [if_pos hj, ← HL.out]
      congr 1
      simp [List.getD, List.getElem?_reverse hj]
    · obtain ⟨q, rfl⟩ : ∃ q : Nat, a = q := ⟨a.toNat, by omega⟩
      have hqn : q < n := by omega
      have hlB : q < Bs.length := by rw [HF.out.len]; exact hqn
      have hpk := parAt_get hlB
      have hG := HF.out.good q hlB
      obtain ⟨f', rfl⟩ : ∃ f', f = f' + 1 := ⟨f - 1, by omega⟩
      have hu := Hu.out
      unfold ups at hu
      rw [if_neg (by omega), Int.toNat_natCast, hpk] at hu
      have hpar : -1 ≤ Bs[q].par ∧ Bs[q].par < q := by
        by_cases h0 : q = 0
        · have := (hG.root h0).1; omega
        · have := hG.par (by omega); omega
      have Hu2 := Lib.hid (show (L ++ [(q : Int)]) ++ ups Bs f' Bs[q].par = ups Bs 17 b by rw [List.append_assoc]; exact hu)
      have hcw := fun (w' : World) (h : Below w.heap.size w w') => (HF.out.below h (Nat.le_refl _)).rd.2 q hlB 0 (by omega)
      have hq1 : ((q : Nat) : Int) ≠ -1 := by omega
      clear hu hG hpk
      generalize hP : Bs[q].par = p at *
      have hcw2 : ∀ (w' : World), Below w.heap.size w w' → w'.cell? ⟨g, q * 8, none⟩ = some (.int .i64 p) := fun w' h => by have := hcw w' h; simp only [Nat.add_zero] at this; rw [this]; simp [BusV.vals, hP]
      have HC := Lib.hid hcw2
      have Hsz := Lib.hid Hw.out.size
      clear hcw hcw2
      have HO : ∀ o1, (wr.alloc o1).ownsRow (w.heap.size + 1) 2 1 (.slice va L.length vc) L.length (iv L) := fun o1 => Ho.out.alloc o1
      have hll : L.length ≤ 17 := by omega
      have hwl := HR.out.lt
      have Hwl := Lib.hid hwl
      go_wp2_with (at_builtin; refine wpList_append_own _ rfl (.tmp 21) (.tmp 23) 62 rfl (w.heap.size + 1) 2 i0 (.int .i64 0) 1 8 Try.underlying62 hi hz0 hz1 hz2 rfl (by decide) (.slice va L.length vc) L.length _ rfl (HO _) ⟨wr.heap.size, 0, none⟩ 1 1 [.int .i64 q] rfl (by simp) (news0 _ _ _) (int_one' _) (by unfold maxLen; omega) (by omega) (by have := Hwl.out; simp; omega) ?_; intro v' w3 hown' hgrow3 hnil3; obtain ⟨g', c', rfl, hg0', hgs', hc'⟩ := form_il hown'; have Hb3 := Lib.hid ((Hw.out.alloc Hsz.out _).grown hgrow3 (by have := Hsz.out; simp; omega) (fun x hx => by have := (Ho.out.ob x hx).1; omega)); have Ho3 := Lib.hid (IL.snoc hown'); have HR3 := Lib.hid ((HR.out.allocd _).kept hgrow3 (fun x hx => by have := (Ho.out.ob x hx).1; omega)); have k3 := HR3.out.cell 3 (by simp); have k0 := HC.out _ Hb3.out; clear hown' hgrow3 hnil3)
      go_roundw
      case rel => exact ⟨f', p, L ++ [(q : Int)], rfl, by simp; omega, by omega, by omega, by omega, Hu2, Ho3, HR3, Hb3⟩
      case measure => simp [intOf]; omega
end Go.Proofs.Ytbcjgjdkapdihaa
