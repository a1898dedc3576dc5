/-
  The buses below a bus, in the program. No theorem of a claim stands here.
-/
import Derived.Test.YtbcjgjdkapdihaaPath
import Derived.Test.YtbcjgjdkapdihaaSearch
import Derived.Maps.AppendAt
set_option linter.unusedVariables false
set_option linter.unusedSimpArgs false
set_option maxRecDepth 8000
namespace Go.Proofs.Ytbcjgjdkapdihaa
open Go Go.RowKit Go.Shelf Go.Deep Go.Proofs.Ytbcjgjdkapdihaa.Fl

theorem IL.kept {base : Nat} {w w' : World} {v : Value} {l : List Int} {r : Option Nat} (h : IL base w v l) (hg : w.grownBy w' r) (hne : ∀ x, r = some x → v.ownBlock ≠ some x) : IL base w' v l := by
  refine ⟨h.1, ?_⟩
  rcases h.2 with h2 | ⟨g, c, cur, e1, h1, h2, h3⟩
  · exact .inl h2
  · refine .inr ⟨g, c, cur, e1, h1, (hg.block g (Array.getElem?_eq_some_iff.1 h2).1 (fun e => hne g e.symm (by rw [e1]; rfl))).trans h2, h3⟩

/-- Of the buses ahead of k, those below bus b. -/
def belL (Bs : List BusV) (b : Nat) : Nat → List Int
  | 0 => []
  | k + 1 => if parAt Bs k ∈ belL Bs b k ∨ k = b then belL Bs b k ++ [(k : Int)] else belL Bs b k
/-- The others. -/
def othL (Bs : List BusV) (b : Nat) : Nat → List Int
  | 0 => []
  | k + 1 => if parAt Bs k ∈ belL Bs b k ∨ k = b then othL Bs b k else othL Bs b k ++ [(k : Int)]
theorem belL_mem (Bs : List BusV) (b : Nat) : ∀ k x, x ∈ belL Bs b k → 0 ≤ x ∧ x < k
  | 0, x, h => by cases h
  | k + 1, x, h => by
    unfold belL at h
    split at h
    · rcases List.mem_append.1 h with h | h
      · have := belL_mem Bs b k x h; omega
      · simp at h; omega
    · have := belL_mem Bs b k x h; omega
theorem belL_len (Bs : List BusV) (b : Nat) : ∀ k, (belL Bs b k).length ≤ k
  | 0 => Nat.le_refl _
  | k + 1 => by
    have := belL_len Bs b k
    unfold belL
    split <;> simp <;> omega
theorem othL_len (Bs : List BusV) (b : Nat) : ∀ k, (othL Bs b k).length ≤ k
  | 0 => Nat.le_refl _
  | k + 1 => by
    have := othL_len Bs b k
    unfold othL
    split <;> simp <;> omega
theorem belL_up (Bs : List BusV) (b : Nat) : ∀ k i j, i < j → j < (belL Bs b k).length → (belL Bs b k).getD i 0 < (belL Bs b k).getD j 0
  | 0, i, j, h1, h2 => by simp [belL] at h2
  | k + 1, i, j, h1, h2 => by
    have ih := belL_up Bs b k
    have hm := belL_mem Bs b k
    unfold belL at h2 ⊢
    split at h2
    · rename_i hc
      rw [if_pos hc]
      generalize belL Bs b k = L at *
      rw [List.length_append, List.length_singleton] at h2
      by_cases hj : j < L.length
      · have e1 : (L ++ [(k : Int)]).getD i 0 = L.getD i 0 := by simp only [List.getD]; rw [List.getElem?_append_left (by omega)]
        have e2 : (L ++ [(k : Int)]).getD j 0 = L.getD j 0 := by simp only [List.getD]; rw [List.getElem?_append_left hj]
        rw [e1, e2]
        exact ih i j h1 hj
      · have e0 : j = L.length := by omega
        have hi : i < L.length := by omega
        have e1 : (L ++ [(k : Int)]).getD i 0 = L.getD i 0 := by simp only [List.getD]; rw [List.getElem?_append_left hi]
        have e2 : (L ++ [(k : Int)]).getD j 0 = k := by simp [List.getD, e0]
        rw [e1, e2]
        have e3 : L.getD i 0 = L[i] := by simp [List.getD, hi]
        rw [e3]
        exact (hm _ (List.getElem_mem hi)).2
    · rename_i hc
      rw [if_neg hc]
      exact ih i j h1 h2
theorem IL.rd' {base : Nat} {w : World} {a : Option Addr} {cap k : Nat} {Bs : List BusV} {b : Nat} (h : IL base w (.slice a (belL Bs b k).length cap) (belL Bs b k)) (hk : k ≤ 1000) : IRd w a (belL Bs b k).length cap (belL Bs b k) :=
  IL.rd h (fun n hn => by have := belL_mem Bs b k n hn; omega)

set_option maxRecDepth 100000 in
set_option maxHeartbeats 4000000 in
theorem split_any (w : World) (s : Nat → Nat) (g n c : Nat) (Bs : List BusV) (hF : Fdr w g n c Bs) (b : Nat) (hb : b < n) : Calls Try.prog 114 #[FV s g n c, .int .i64 b] w fun e w' => ∃ V U, e = .returned (.tuple #[V, U]) ∧ IL w.heap.size w' V (belL Bs b n) ∧ IL w.heap.size w' U (othL Bs b n) ∧ Below w.heap.size w w' := by
  have h1 := hF.one
  have h2 := hF.most
  have h3 := hF.cap
  have HF := Lib.hid hF
  clear hF
  have hst := fun (a : Addr) (x y : Nat) (m : Mode) (w : World) => run_store Try.prog w a (.complex .f32 x y) m rfl
  have k3 : (w.alloc (.cells #[.complex .f32 (s 0) (s 1), .complex .f32 (s 2) (s 3), .complex .f32 (s 4) (s 5), .slice (some ⟨g, 0, none⟩) n c] 40)).cell? ⟨w.heap.size, 3, none⟩ = some (.slice (some ⟨g, 0, none⟩) n c) := (RL.new w [.complex .f32 (s 0) (s 1), .complex .f32 (s 2) (s 3), .complex .f32 (s 4) (s 5), .slice (some ⟨g, 0, none⟩) n c] 40).cell 3 (by simp)
  unfold FV at *
  obtain ⟨i0, hi, hz0, hz1, hz2⟩ := info_parts (show (Try.prog.info? 2).map (fun i => (i.zero, i.size, i.bytes)) = some (some (.int .i64 0), 1, 8) by kernel_rfl)
  go_enter Try.func114, Try.ntmps114
  go_wp2_with fail
  go_loopw [4, 5, 13] (fun V U I wr => ∃ k : Nat, k ≤ n ∧ I = .int .i64 k ∧ Hid (IL w.heap.size wr V (belL Bs b k)) ∧ Hid (IL w.heap.size wr U (othL Bs b k)) ∧ Hid (∀ x, V.ownBlock = some x → U.ownBlock ≠ some x) ∧ Hid (Below w.heap.size w wr)) (fun _ _ I _ => n - (intOf I).toNat)
  case atStart => exact ⟨0, Nat.zero_le _, rfl, Lib.hid (IL.nil _ _), Lib.hid (IL.nil _ _), Lib.hid (fun x h => by cases h), Lib.hid (bel_alloc _ _)⟩
  case round =>
    obtain ⟨k, hk, rfl, Ho, Hu, Hd, Hw⟩ := hrel
    obtain ⟨va, vc, rfl⟩ := Ho.out.form
    obtain ⟨ua, uc, rfl⟩ := Hu.out.form
    by_cases hlt : k < n
    · have hlB : k < Bs.length := by rw [HF.out.len]; exact hlt
      have hpk := parAt_get hlB
      have hcw := (HF.out.below Hw.out (Nat.le_refl _)).rd.2 k hlB
      have HB1 := Lib.hid (show belL Bs b (k + 1) = if parAt Bs k ∈ belL Bs b k ∨ k = b then belL Bs b k ++ [(k : Int)] else belL Bs b k from rfl)
      have HU1 := Lib.hid (show othL Bs b (k + 1) = if parAt Bs k ∈ belL Bs b k ∨ k = b then othL Bs b k else othL Bs b k ++ [(k : Int)] from rfl)
      rw [hpk] at HB1 HU1
      clear hpk
      generalize Bs[k] = B at *
      have c0 : wr.cell? ⟨g, k * 8, none⟩ = some (.int .i64 B.par) := hcw 0 (by omega)
      have c1 : wr.cell? ⟨g, k * 8 + 1, none⟩ = some (.complex .f32 B.o0 B.o1) := hcw 1 (by omega)
      have c2 : wr.cell? ⟨g, k * 8 + 2, none⟩ = some (.complex .f32 B.s0 B.s1) := hcw 2 (by omega)
      have c3 : wr.cell? ⟨g, k * 8 + 3, none⟩ = some (.int .i64 B.kind) := hcw 3 (by omega)
      have c4 : wr.cell? ⟨g, k * 8 + 4, none⟩ = some (.complex .f32 B.a0 B.a1) := hcw 4 (by omega)
      have c5 : wr.cell? ⟨g, k * 8 + 5, none⟩ = some (.complex .f32 B.b0 B.b1) := hcw 5 (by omega)
      have c6 : wr.cell? ⟨g, k * 8 + 6, none⟩ = some (.complex .f32 B.c0 B.c1) := hcw 6 (by omega)
      have c7 : wr.cell? ⟨g, k * 8 + 7, none⟩ = some (.int .i64 B.cust) := hcw 7 (by omega)
      have Hsz := Lib.hid Hw.out.size
      have hll := belL_len Bs b k
      have hul := othL_len Bs b k
      clear hcw
      have hp0 : (wr.alloc (.cells B.vals.toArray 89)).cell? ⟨wr.heap.size, 0, none⟩ = some (.int .i64 B.par) := (RL.new wr B.vals 89).cell 0 (by show 0 < 8; omega)
      have hsr := fun o => search_any (wr.alloc o) va (belL Bs b k).length vc (belL Bs b k) B.par (IL.rd' (Ho.out.alloc o) (by omega)) (by omega) (belL_up Bs b k)
      have HO : ∀ o1 o2, ((wr.alloc o1).alloc o2).ownsRow w.heap.size 2 1 (.slice va (belL Bs b k).length vc) (belL Bs b k).length (iv (belL Bs b k)) := fun o1 o2 => (Ho.out.alloc o1).alloc o2
      have HOu : ∀ o1 o2, ((wr.alloc o1).alloc o2).ownsRow w.heap.size 2 1 (.slice ua (othL Bs b k).length uc) (othL Bs b k).length (iv (othL Bs b k)) := fun o1 o2 => (Hu.out.alloc o1).alloc o2
      generalize hL : belL Bs b k = L at *
      generalize hM : othL Bs b k = M at *
      by_cases hin : B.par ∈ L
      · simp only [hin, decide_true] at hsr
        have Hin := Lib.hid hin
        clear hin
        go_wp2_with (first | (go_at_call 171; refine (hsr _).mono ?_; rintro e w4 ⟨p4, rfl, rfl⟩) | (at_builtin; refine wpList_append_own_at _ rfl (.tmp 31) (.tmp 33) 62 rfl w.heap.size 2 i0 (.int .i64 0) 1 8 Try.underlying62 hi hz0 hz1 hz2 rfl (by decide) (.slice va L.length vc) L.length _ rfl (HO _ _) ⟨wr.heap.size + 1, 0, none⟩ 1 1 [.int .i64 k] rfl (by simp) (news1 _ _ _ _) (int_one' _) (by unfold maxLen; omega) (by omega) (by have := Hsz.out; simp; omega) ?_; intro v' w3 hown' hgrow3 hnil3 hat3; obtain ⟨g', c', rfl, hg0', hgs', hc'⟩ := form_il hown'; have Hb3 := Lib.hid (((Hw.out.alloc Hsz.out _).alloc (by have := Hsz.out; simp; omega) _).grown hgrow3 (by have := Hsz.out; simp; omega) (fun x hx => (Ho.out.ob x hx).1)); have Ho3 := Lib.hid (IL.snoc hown'); have Hu3 := Lib.hid (((Hu.out.alloc _).alloc _).kept hgrow3 (fun x hx => Hd.out x hx)); have Hat3 := Lib.hid hat3; clear hown' hgrow3 hnil3 hat3))
        go_roundw
        case rel =>
          refine ⟨k + 1, by omega, by go_num, by rw [HB1.out, if_pos (.inl Hin.out)]; exact Ho3, by rw [HU1.out, if_pos (.inl Hin.out)]; exact Hu3, Lib.hid (fun x hx e => ?_), Hb3⟩
          rcases Hat3.out with h | h
          · rw [h] at hx; exact Hd.out x hx e
          · rw [h] at hx
            have h4 := (Hu.out.ob x e).2
            simp at hx
            omega
        case measure => simp [intOf]; omega
      · by_cases hkb : k = b
        · simp only [hin, decide_false] at hsr
          have Hkb := Lib.hid hkb
          have hkbi : ((k : Int) == (b : Int)) = true := by rw [beq_iff_eq]; omega
          clear hin hkb
          go_wp2_with (first | (go_at_call 171; refine (hsr _).mono ?_; rintro e w4 ⟨p4, rfl, rfl⟩) | (at_builtin; refine wpList_append_own_at _ rfl (.tmp 31) (.tmp 33) 62 rfl w.heap.size 2 i0 (.int .i64 0) 1 8 Try.underlying62 hi hz0 hz1 hz2 rfl (by decide) (.slice va L.length vc) L.length _ rfl (HO _ _) ⟨wr.heap.size + 1, 0, none⟩ 1 1 [.int .i64 k] rfl (by simp) (news1 _ _ _ _) (int_one' _) (by unfold maxLen; omega) (by omega) (by have := Hsz.out; simp; omega) ?_; intro v' w3 hown' hgrow3 hnil3 hat3; obtain ⟨g', c', rfl, hg0', hgs', hc'⟩ := form_il hown'; have Hb3 := Lib.hid (((Hw.out.alloc Hsz.out _).alloc (by have := Hsz.out; simp; omega) _).grown hgrow3 (by have := Hsz.out; simp; omega) (fun x hx => (Ho.out.ob x hx).1)); have Ho3 := Lib.hid (IL.snoc hown'); have Hu3 := Lib.hid (((Hu.out.alloc _).alloc _).kept hgrow3 (fun x hx => Hd.out x hx)); have Hat3 := Lib.hid hat3; clear hown' hgrow3 hnil3 hat3))
          go_roundw
          case rel =>
            refine ⟨k + 1, by omega, by go_num, by rw [HB1.out, if_pos (.inr Hkb.out)]; exact Ho3, by rw [HU1.out, if_pos (.inr Hkb.out)]; exact Hu3, Lib.hid (fun x hx e => ?_), Hb3⟩
            rcases Hat3.out with h | h
            · rw [h] at hx; exact Hd.out x hx e
            · rw [h] at hx
              have h4 := (Hu.out.ob x e).2
              simp at hx
              omega
          case measure => simp [intOf]; omega
        · simp only [hin, decide_false] at hsr
          have Hin := Lib.hid (show ¬ (B.par ∈ L ∨ k = b) from fun h => h.elim hin hkb)
          have hkbi : ((k : Int) == (b : Int)) = false := by rw [beq_eq_false_iff_ne]; omega
          clear hin hkb
          go_wp2_with (first | (go_at_call 171; refine (hsr _).mono ?_; rintro e w4 ⟨p4, rfl, rfl⟩) | (at_builtin; refine wpList_append_own_at _ rfl (.tmp 35) (.tmp 37) 62 rfl w.heap.size 2 i0 (.int .i64 0) 1 8 Try.underlying62 hi hz0 hz1 hz2 rfl (by decide) (.slice ua M.length uc) M.length _ rfl (HOu _ _) ⟨wr.heap.size + 1, 0, none⟩ 1 1 [.int .i64 k] rfl (by simp) (news1 _ _ _ _) (int_one' _) (by unfold maxLen; omega) (by omega) (by have := Hsz.out; simp; omega) ?_; intro v' w3 hown' hgrow3 hnil3 hat3; obtain ⟨g', c', rfl, hg0', hgs', hc'⟩ := form_il hown'; have Hb3 := Lib.hid (((Hw.out.alloc Hsz.out _).alloc (by have := Hsz.out; simp; omega) _).grown hgrow3 (by have := Hsz.out; simp; omega) (fun x hx => (Hu.out.ob x hx).1)); have Ho3 := Lib.hid (IL.snoc hown'); have Hu3 := Lib.hid (((Ho.out.alloc _).alloc _).kept hgrow3 (fun x hx e => Hd.out x e hx)); have Hat3 := Lib.hid hat3; clear hown' hgrow3 hnil3 hat3))
          go_roundw
          case rel =>
            refine ⟨k + 1, by omega, by go_num, by rw [HB1.out, if_neg Hin.out]; exact Hu3, by rw [HU1.out, if_neg Hin.out]; exact Ho3, Lib.hid (fun x hx e => ?_), Hb3⟩
            rcases Hat3.out with h | h
            · rw [h] at e; exact Hd.out x hx e
            · rw [h] at e
              have h4 := (Ho.out.ob x hx).2
              simp at e
              omega
          case measure => simp [intOf]; omega
    · obtain rfl : k = n := by omega
      go_wp2_with fail
      go_ret2
      exact ⟨_, _, rfl, Ho.out, Hu.out, Hw.out⟩
theorem below_any (w : World) (s : Nat → Nat) (g n c : Nat) (Bs : List BusV) (hF : Fdr w g n c Bs) (b : Nat) (hb : b < n) : Calls Try.prog 35 #[FV s g n c, .int .i64 b] w fun e w' => ∃ V, e = .returned (.tuple #[V, .bool true]) ∧ IL w.heap.size w' V (belL Bs b n) ∧ Below w.heap.size w w' := by
  have h2 := hF.most
  have hV := fun w' (h : Below w.heap.size w w') => hasBus_any w' s g n c Bs (hF.below h (Nat.le_refl _)) b hb
  have hS := fun w' (h : Below w.heap.size w w') => split_any w' s g n c Bs (hF.below h (Nat.le_refl _)) b hb
  unfold FV at *
  go_enter Try.func35, Try.ntmps35
  go_wp2_with fail
  refine (hV _ (bel_alloc _ _)).mono ?_
  rintro e w2 ⟨rfl, hbb⟩
  have Hb := Lib.hid (bel_then (bel_alloc _ _) hbb)
  have HR2 := Lib.hid (RL.below (RL.new w [.complex .f32 (s 0) (s 1), .complex .f32 (s 2) (s 3), .complex .f32 (s 4) (s 5), .slice (some ⟨g, 0, none⟩) n c] 40) hbb (by simp))
  have j0 := HR2.out.cell 0 (by simp)
  have j1 := HR2.out.cell 1 (by simp)
  have j2 := HR2.out.cell 2 (by simp)
  have j3 := HR2.out.cell 3 (by simp)
  simp only [List.getD, List.getElem?_cons_zero, List.getElem?_cons_succ, Option.getD_some] at j0 j1 j2 j3
  clear hbb
  go_wp2_with fail
  refine (hS _ Hb.out).mono ?_
  rintro e w3 ⟨V, U, rfl, hv, hu, hb3⟩
  have Hv := Lib.hid hv
  have Hb3 := Lib.hid hb3
  clear hv hu hb3
  go_wp2_with fail
  go_ret2
  exact ⟨_, rfl, Hv.out.base Hb.out.size, Hb.out.trans (Hb3.out.mono Hb.out.size)⟩
end Go.Proofs.Ytbcjgjdkapdihaa
