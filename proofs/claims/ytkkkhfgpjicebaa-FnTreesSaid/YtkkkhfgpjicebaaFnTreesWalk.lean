/-
  The walk of the law on trees.
-/
import Derived.Test.YtkkkhfgpjicebaaWild
import Derived.Test.YtkkkhfgpjicebaaTreeF
import Derived.Test.YtkkkhfgpjicebaaR8
import Derived.StillTailTactics
set_option linter.unusedVariables false
set_option linter.unusedSimpArgs false
set_option maxRecDepth 8000
namespace Go.Proofs.Ytkkkhfgpjicebaa
open Go Go.RowKit Go.Shelf Go.Deep Go.Proofs.Ytkkkhfgpjicebaa.Fl

theorem IL.cell {base g cap : Nat} {w : World} {l : List Int} (h : IL base w (.slice (some ⟨g, 0, none⟩) l.length cap) l) (j : Nat) (hj : j < l.length) : w.cell? ⟨g, j, none⟩ = some (.int .i64 (l.getD j 0)) := by
  have hc := World.ownsRow.cellAt h j (by omega)
  rw [hc]
  simp [iv, List.getD, hj]
theorem IL.gcell {base : Nat} {w : World} {a : Option Addr} {n cap : Nat} {l : List Int} (h : IL base w (.slice a n cap) l) (hn : 0 < n) : ∃ g, a = some ⟨g, 0, none⟩ ∧ base ≤ g ∧ g < w.heap.size := by
  rcases h.2 with ⟨h2, h3⟩ | ⟨g2, c2, cur, e1, h1, h2, h3⟩
  · simp at h2; omega
  · simp at e1
    exact ⟨g2, e1.1, h1, (Array.getElem?_eq_some_iff.1 h2).1⟩

/-- Where the law stands: what was there ahead of it, the feeder's buses, the variable that holds the feeder. -/
def TS (W w : World) (p gs n c : Nat) (s : Nat → Nat) (Bs : List BusV) : Prop :=
  Below W.heap.size W w ∧ Fdr w gs n c Bs ∧ RL w p 29 [.complex .f32 (s 0) (s 1), .complex .f32 (s 2) (s 3), .complex .f32 (s 4) (s 5), .slice (some ⟨gs, 0, none⟩) n c]
theorem TS.step {W w w' : World} {p gs n c : Nat} {s : Nat → Nat} {Bs : List BusV} (h : TS W w p gs n c s Bs) (hb : Below w.heap.size w w') : TS W w' p gs n c s Bs :=
  ⟨h.1.trans (hb.mono h.1.size), h.2.1.below hb (Nat.le_refl _), h.2.2.below hb h.2.2.lt⟩
theorem TS.four {W w : World} {p gs n c : Nat} {s : Nat → Nat} {Bs : List BusV} (h : TS W w p gs n c s Bs) : w.cell? ⟨p, 0, none⟩ = some (.complex .f32 (s 0) (s 1)) ∧ w.cell? ⟨p, 1, none⟩ = some (.complex .f32 (s 2) (s 3)) ∧ w.cell? ⟨p, 2, none⟩ = some (.complex .f32 (s 4) (s 5)) ∧ w.cell? ⟨p, 3, none⟩ = some (.slice (some ⟨gs, 0, none⟩) n c) :=
  ⟨h.2.2.cell 0 (by simp), h.2.2.cell 1 (by simp), h.2.2.cell 2 (by simp), h.2.2.cell 3 (by simp)⟩
theorem TS.par {W w : World} {p gs n c : Nat} {s : Nat → Nat} {Bs : List BusV} (h : TS W w p gs n c s Bs) (x : Nat) (hx : x < n) : w.cell? ⟨gs, x * 8, none⟩ = some (.int .i64 (parAt Bs x)) := by
  have hl : x < Bs.length := by rw [h.2.1.len]; exact hx
  have := h.2.1.rd.2 x hl 0 (by omega)
  rw [Nat.add_zero] at this
  rw [this, parAt_get hl]
  rfl
theorem TS.cust {W w : World} {p gs n c : Nat} {s : Nat → Nat} {Bs : List BusV} (h : TS W w p gs n c s Bs) (x : Nat) (hx : x < n) : w.cell? ⟨gs, x * 8 + 7, none⟩ = some (.int .i64 (custAt Bs x)) := by
  have hl : x < Bs.length := by rw [h.2.1.len]; exact hx
  have := h.2.1.rd.2 x hl 7 (by omega)
  rw [this, custAt_get hl]
  rfl
/-- What holds of a path: it begins with the root, ends with the bus, and each bus on it is a child of the one before. -/
theorem path_facts {Bs : List BusV} (hG : ∀ i (h : i < Bs.length), Good i Bs[i]) (h16 : Bs.length ≤ 16) (b : Nat) (hb : b < Bs.length) : ∃ m, (ups Bs 17 b).reverse.length = m + 1 ∧ (ups Bs 17 b).reverse.getD 0 0 = 0 ∧ (ups Bs 17 b).reverse.getD m 0 = b ∧ ((m : Int) + 1 = dep Bs b) ∧
    ∀ k, k < m → ∃ x y : Nat, x < Bs.length ∧ (ups Bs 17 b).reverse.getD (k + 1) 0 = x ∧ (ups Bs 17 b).reverse.getD k 0 = y ∧ parAt Bs x = y := by
  have hl := ups_last (good_par hG) (good_root hG) 17 b (by omega) (by omega) (by omega)
  have hs := ups_step Bs 17 b
  have hmem := ups_mem (good_par hG) 17 b (by omega) (by omega)
  have hd : dep Bs b = (ups Bs 17 b).length := rfl
  have hpos : 0 < (ups Bs 17 b).length := by
    rw [show (17 : Nat) = 16 + 1 from rfl, ups_cons (by omega)]; simp
  have hh := ups_head Bs 17 b hpos
  generalize ups Bs 17 b = L at *
  have hrev : ∀ j, j < L.length → L.reverse.getD j 0 = L.getD (L.length - 1 - j) 0 := fun j hj => by
    simp only [List.getD]
    rw [List.getElem?_reverse hj]
  refine ⟨L.length - 1, by simp; omega, ?_, ?_, by omega, fun k hk => ?_⟩
  · rw [hrev 0 hpos, Nat.sub_zero]; exact hl
  · rw [hrev _ (by omega), Nat.sub_self]; exact hh
  · rw [hrev (k + 1) (by omega), hrev k (by omega)]
    have h1 := hs (L.length - 1 - (k + 1)) (by omega)
    rw [show L.length - 1 - (k + 1) + 1 = L.length - 1 - k by omega] at h1
    have g : ∀ j, j < L.length → 0 ≤ L.getD j 0 ∧ L.getD j 0 < Bs.length := fun j hj => by
      have e : L.getD j 0 = L[j] := by simp [List.getD, hj]
      rw [e]; exact hmem _ (List.getElem_mem hj)
    have g1 := g (L.length - 1 - (k + 1)) (by omega)
    have g2 := g (L.length - 1 - k) (by omega)
    refine ⟨(L.getD (L.length - 1 - (k + 1)) 0).toNat, (L.getD (L.length - 1 - k) 0).toNat, by omega, by omega, by omega, ?_⟩
    rw [h1]; omega

theorem bel_drewN (w : World) (q : Nat) : Below w.heap.size w (w.drewN q) := ⟨rfl, rfl, rfl, Nat.le_refl _, fun _ _ => rfl⟩
theorem kids_mem {Bs : List BusV} {b : Int} {n : Nat} {x : Int} (h : x ∈ kids Bs b n) : ∃ i : Nat, x = i ∧ i < n ∧ parAt Bs i = b := by
  obtain ⟨i, hi, rfl⟩ := List.mem_map.1 h
  have := List.mem_filter.1 hi
  exact ⟨i, rfl, by simpa using this.1, by simpa using this.2⟩
theorem lsum_take (S : Nat → Int) (L : List Int) (k : Nat) (hk : k < L.length) : lsum S (L.take (k + 1)) = lsum S (L.take k) + S (L.getD k 0).toNat := by
  rw [List.take_succ_eq_append_getElem hk, lsum_snoc]
  simp [List.getD, hk]

set_option maxRecDepth 100000 in
set_option maxHeartbeats 8000000 in
theorem walk (a0 : Option Addr) (len0 cap0 : Nat) (a1 : Option Addr) (len1 cap1 : Nat) (W : World) (h0 : Rd8 W a0 len0 cap0) (h1 : Rd8 W a1 len1 cap1) : Calls Try.prog 7 #[.slice a0 len0 cap0, .slice a1 len1 cap1] W fun e w' => e = .returned (.bool true) ∧ Below W.heap.size W w' := by
  have hL := r8Long_any a0 a1 len0 cap0 len1 cap1 W
  have hst := fun (a : Addr) (x y : Nat) (m : Mode) (w : World) => run_store Try.prog w a (.complex .f32 x y) m rfl
  by_cases hlong : 48 < len0 ∨ 48 < len1
  · rw [decide_eq_true hlong] at hL
    go_enter Try.func7, Try.ntmps7
    go_wp2_with fail
    refine hL.mono ?_
    rintro e w1 ⟨rfl, rfl⟩
    go_wp2_with fail
    go_ret
    exact ⟨rfl, Below.refl _ _⟩
  · rw [decide_eq_false hlong] at hL
    have B0 := h0.bytes (by omega)
    have B1 := Lib.hid (h1.bytes (by omega))
    have hWl := wild_any W a0 len0 cap0 B0
    clear B0 h0 h1
    go_enter Try.func7, Try.ntmps7
    go_wp2_with fail
    refine hL.mono ?_
    rintro e w1 ⟨rfl, hw1⟩
    have hw2 := hw1.symm
    subst hw2
    go_wp2_with fail
    refine hWl.mono ?_
    rintro e w1 ⟨s, gs, n, c, Bs, rfl, hF, hn6, hgs, hb⟩
    unfold FV
    have hn1 := hF.one
    have hcn := hF.cap
    have hnc := hF.len
    have hG := Lib.hid hF.good
    have T2 := Lib.hid (show TS W (w1.alloc (.cells #[.complex .f32 (s 0) (s 1), .complex .f32 (s 2) (s 3), .complex .f32 (s 4) (s 5), .slice (some ⟨gs, 0, none⟩) n c] 29)) w1.heap.size gs n c s Bs from ⟨hb.alloc hb.size _, hF.below (bel_alloc w1 _) (Nat.le_refl _), RL.new w1 [.complex .f32 (s 0) (s 1), .complex .f32 (s 2) (s 3), .complex .f32 (s 4) (s 5), .slice (some ⟨gs, 0, none⟩) n c] _⟩)
    have hlen : Bs.length = n := hnc
    clear hF hb hnc
    go_wp2_with fail
    generalize (w1.alloc (.cells #[.complex .f32 (s 0) (s 1), .complex .f32 (s 2) (s 3), .complex .f32 (s 4) (s 5), .slice (some ⟨gs, 0, none⟩) n c] 29)) = w2 at *
    generalize w1.heap.size = p at *
    refine (r8At_any W.heap.size a1 len1 cap1 0 n w2 (B1.out.stays T2.out.1 (Nat.le_refl _)) (by omega) (by omega)).mono ?_
    rintro e w3 ⟨v, rfl, hv0, hv1, rfl⟩
    obtain ⟨b, rfl⟩ : ∃ b : Nat, v = b := ⟨v.toNat, by omega⟩
    have hbn : b < n := by omega
    obtain ⟨j0, j1, j2, j3⟩ := T2.out.four
    have hP := path_any w3 s gs n c Bs T2.out.2.1 b hbn
    unfold FV at hP
    go_wp2_with fail
    refine hP.mono ?_
    rintro e w4 ⟨V, rfl, hV, hb4⟩
    obtain ⟨m, hm, hfirst, hlast, hdm, hstep⟩ := path_facts hG.out (by omega) b (by omega)
    have hm16 : m ≤ 16 := by
      have h := ups_len Bs 17 b
      rw [← List.length_reverse, hm] at h
      omega
    obtain ⟨gp, cp, F, rfl, _, _, _, hcp1, hcp2⟩ := hV.form1 (by omega)
    have Hp4 := Lib.hid hV
    have Hfacts := Lib.hid (And.intro hfirst (And.intro hlast hstep))
    have Hdm := Lib.hid hdm
    have T4 := Lib.hid (T2.out.step hb4)
    clear hP hV hb4 j0 j1 j2 j3 hfirst hlast hstep hdm T2
    obtain ⟨j0, j1, j2, j3⟩ := T4.out.four
    have hB := below_any w4 s gs n c Bs T4.out.2.1 b hbn
    unfold FV at hB
    go_wp2_with fail
    refine hB.mono ?_
    rintro e w5 ⟨V, rfl, hV, hb5⟩
    obtain ⟨ba, bc, rfl⟩ := hV.form
    have Hp5 := Lib.hid (Hp4.out.below hb5 (Nat.le_refl _))
    have Hl5 := Lib.hid hV
    have T5 := Lib.hid (T4.out.step hb5)
    clear hB hV hb5 j0 j1 j2 j3 Hp4 T4
    obtain ⟨j0, j1, j2, j3⟩ := T5.out.four
    have hC := children_any w5 s gs n c Bs T5.out.2.1 b hbn
    unfold FV at hC
    go_wp2_with fail
    refine hC.mono ?_
    rintro e w6 ⟨V, rfl, hV, hb6⟩
    obtain ⟨ka, kc, rfl⟩ := hV.form
    have Hp6 := Lib.hid (Hp5.out.below hb6 (Nat.le_refl _))
    have Hl6 := Lib.hid (Hl5.out.below hb6 (Nat.le_refl _))
    have Hk6 := Lib.hid hV
    have T6 := Lib.hid (T5.out.step hb6)
    clear hC hV hb6 j0 j1 j2 j3 Hp5 Hl5 T5
    obtain ⟨j0, j1, j2, j3⟩ := T6.out.four
    have hD := depth_any w6 s gs n c Bs T6.out.2.1
    unfold FV at hD
    go_wp2_with fail
    refine hD.mono ?_
    rintro e w7 ⟨d, rfl, hd, hb7⟩
    have hdd : (m : Int) + 1 ≤ d := by have := hd b hbn; have := Hdm.out; omega
    have Hp7 := Lib.hid (Hp6.out.below hb7 (Nat.le_refl _))
    have Hl7 := Lib.hid (Hl6.out.below hb7 (Nat.le_refl _))
    have Hk7 := Lib.hid (Hk6.out.below hb7 (Nat.le_refl _))
    have T7 := Lib.hid (T6.out.step hb7)
    clear hD hd hb7 j0 j1 j2 j3 Hp6 Hl6 Hk6 T6
    obtain ⟨j0, j1, j2, j3⟩ := T7.out.four
    have hbs0 : 0 < Bs.length := by omega
    have hS := cust_any w7 s gs n c Bs T7.out.2.1 hG.out hbs0
    unfold FV at hS
    go_wp2_with fail
    refine hS.mono ?_
    rintro e w8 ⟨gc, hgc, rfl, hrow, hb8⟩
    have Hp8 := Lib.hid (Hp7.out.below hb8 (Nat.le_refl _))
    have Hl8 := Lib.hid (Hl7.out.below hb8 (Nat.le_refl _))
    have Hk8 := Lib.hid (Hk7.out.below hb8 (Nat.le_refl _))
    have Hc8 := Lib.hid hrow
    have T8 := Lib.hid (T7.out.step hb8)
    clear hS hrow hb8 j0 j1 j2 j3 Hp7 Hl7 Hk7 T7 hgc
    obtain ⟨j0, j1, j2, j3⟩ := T8.out.four
    have hE := valid_any w8 s gs n c Bs T8.out.2.1
    unfold FV at hE
    go_wp2_with fail
    refine hE.mono ?_
    rintro e w9 ⟨rfl, hb9⟩
    have Hp9 := Lib.hid (Hp8.out.below hb9 (Nat.le_refl _))
    have Hl9 := Lib.hid (Hl8.out.below hb9 (Nat.le_refl _))
    have Hk9 := Lib.hid (Hk8.out.below hb9 (Nat.le_refl _))
    have Hc9 := Lib.hid (World.rowIs.of_block Hc8.out (hb9.block gc Hc8.out.lt))
    have T9 := Lib.hid (T8.out.step hb9)
    clear hE hb9 j0 j1 j2 j3 Hp8 Hl8 Hk8 Hc8 T8
    obtain ⟨j0, j1, j2, j3⟩ := T9.out.four
    have p0 := Hp9.out.cell 0 (by omega)
    have p1 := Hp9.out.cell m (by omega)
    rw [Hfacts.out.1] at p0
    rw [Hfacts.out.2.1] at p1
    generalize hPL : (ups Bs 17 b).reverse = P at *
    have Hpc := fun j hj => Hp9.out.cell j hj
    have HPc := Lib.hid Hpc
    clear Hpc
    have HM := Lib.hid hm
    have hz0 : ((m : Int) + 1 == 0) = false := by rw [beq_eq_false_iff_ne]; omega
    have hd2 : ¬ d < (m : Int) + 1 := by omega
    go_wp2_with fail
    go_loopw [18] (fun I wr => ∃ i k : Nat, i = k + 1 ∧ k ≤ m ∧ I = .int .i64 (i : Int) ∧ Hid (∃ q, wr = w9.drewN q)) (fun I _ => m + 1 - (intOf I).toNat)
    case atStart => exact ⟨1, 0, rfl, Nat.zero_le _, rfl, Lib.hid ⟨0, rfl⟩⟩
    case round =>
      clear p0 p1 j0 j1 j2 j3
      obtain ⟨i, k, hik, hk, rfl, Hq⟩ := hrel
      have Hbq := Lib.hid (show Below w9.heap.size w9 wr by obtain ⟨q, hq⟩ := Hq.out; rw [hq]; exact bel_drewN w9 q)
      have Tr := Lib.hid (T9.out.step Hbq.out)
      have Hpr := Lib.hid (Hp9.out.below Hbq.out (Nat.le_refl _))
      obtain ⟨j0, j1, j2, j3⟩ := Tr.out.four
      by_cases hlt : i < m + 1
      · obtain ⟨x, y, hx, hX, hY, hpar⟩ := Hfacts.out.2.2 k (by omega)
        have hxn : x < n := by omega
        have cx := Hpr.out.cell (k + 1) (by rw [HM.out]; omega)
        have cy := Hpr.out.cell k (by rw [HM.out]; omega)
        have cq := Tr.out.par x hxn
        rw [hX, ← hik] at cx
        rw [hY] at cy
        rw [hpar] at cq
        have hk2 : k < m + 1 := by omega
        have hwr1 : IntKind.i64.wrap ((i : Int) - 1) = (k : Int) := by rw [IntWalk.i64_in _ (by omega)]; omega
        have hwr2 : Go.RowKit.wrap64 ((i : Int) - 1) = (k : Int) := by rw [IntWalk.wrap64_in _ (by omega)]; omega
        have hli : (i : Int) < (m : Int) + 1 := by omega
        have hlk : (k : Int) < (m : Int) + 1 := by omega
        have Hik := Lib.hid hik
        clear hX hY hpar hx hik
        go_wp2_with fail
        go_still rfl
        go_wp2_with fail
        go_roundw
        case rel => exact ⟨i + 1, k + 1, by have := Hik.out; omega, by have := Hik.out; omega, by go_num, Lib.hid (by obtain ⟨q, hq⟩ := Hq.out; exact ⟨q + 1, by rw [hq]; rfl⟩)⟩
        case measure => simp [intOf]; omega
      · clear hik hk
        have cc := Tr.out.cust b hbn
        have Hbel := Lib.hid (Hl9.out.below Hbq.out (Nat.le_refl _))
        have Hkr := Lib.hid (Hk9.out.below Hbq.out (Nat.le_refl _))
        have Hcr := Lib.hid (World.rowIs.of_block Hc9.out (Hbq.out.block gc Hc9.out.lt))
        have hcb : 0 ≤ custAt Bs b ∧ custAt Bs b ≤ 1000000 := by
          rw [custAt_get (show b < Bs.length by omega)]
          exact (hG.out b (by omega)).cust
        have hsmall := csum_small (upto (gB Bs hG.out hbs0) Bs.length) (by rw [upto_length]; omega)
        have hsum := csum_kids hG.out hbs0 b (by omega)
        have hkm := fun x (h : x ∈ kids Bs (b : Int) n) => kids_mem h
        have hkl := kids_len Bs (b : Int) n
        have hkk : kids Bs (b : Int) Bs.length = kids Bs (b : Int) n := by rw [hlen]
        rw [hkk] at hsum
        clear hkk
        generalize csum (upto (gB Bs hG.out hbs0) Bs.length) = S at *
        generalize kids Bs (b : Int) n = L at *
        have Hsum := Lib.hid hsum
        have Hkm := Lib.hid hkm
        have Hsmall := Lib.hid hsmall
        have hcb1 := hcb.1
        have hcb2 := hcb.2
        clear hsum hkm hsmall hcb
        have Hrr := Lib.hid (Below.refl wr.heap.size wr)
        generalize hcv : custAt Bs b = cv at *
        obtain ⟨wA, hwA⟩ : ∃ wA, wA = wr := ⟨_, rfl⟩
        subst hwA
        go_wp2_with fail
        go_loopw [19, 20] (fun M I wr => ∃ (k : Nat) (sm : Int), k ≤ L.length ∧ I = .int .i64 k ∧ M = .int .i64 sm ∧ 0 ≤ sm ∧ sm ≤ 1000000 + 43046721000000 * k ∧ Hid (sm = cv + lsum S (L.take k)) ∧ Hid (∃ q, wr = wA.drewN q)) (fun _ I _ => L.length - (intOf I).toNat)
        case atStart => exact ⟨0, cv, Nat.zero_le _, rfl, rfl, hcb1, by omega, Lib.hid (by simp [lsum]), Lib.hid ⟨0, rfl⟩⟩
        case round =>
          clear j0 j1 j2 j3 cc
          obtain ⟨t, sm, ht, rfl, rfl, hm1, hm2, Hse, Hq2⟩ := hrel
          have Hbq2 := Lib.hid (show Below wA.heap.size wA wr by obtain ⟨q, hq⟩ := Hq2.out; rw [hq]; exact bel_drewN wA q)
          have T2r := Lib.hid (Tr.out.step Hbq2.out)
          obtain ⟨j0, j1, j2, j3⟩ := T2r.out.four
          have Hk2 := Lib.hid (Hkr.out.below Hbq2.out (Nat.le_refl _))
          have Hc2 := Lib.hid (World.rowIs.of_block Hcr.out (Hbq2.out.block gc Hcr.out.lt))
          by_cases hlt2 : t < L.length
          · obtain ⟨gk, rfl, _, _⟩ := Hk9.out.gcell (by omega)
            have hmem : L.getD t 0 ∈ L := by
              have e : L.getD t 0 = L[t] := by simp [List.getD, hlt2]
              rw [e]; exact List.getElem_mem hlt2
            obtain ⟨x, hx, hxn, hxp⟩ := Hkm.out _ hmem
            have ck := Hk2.out.cell t hlt2
            have cq := T2r.out.par x hxn
            have cs := Hc2.out.cell hxn
            have hS1 := (Hsmall.out x).1
            have hS2 := (Hsmall.out x).2
            have Hse2 := Lib.hid (show sm + S x = cv + lsum S (L.take (t + 1)) by rw [lsum_take S L t hlt2, hx, Int.toNat_natCast]; have := Hse.out; omega)
            rw [hx] at ck
            rw [hxp] at cq
            clear hmem hx hxp
            generalize S x = sx at *
            go_wp2_with fail
            go_still rfl
            go_wp2_with fail
            go_roundw
            case rel => exact ⟨t + 1, sm + sx, by omega, by go_num, rfl, by omega, by omega, Hse2, Lib.hid (by obtain ⟨q, hq⟩ := Hq2.out; exact ⟨q + 1, by rw [hq]; rfl⟩)⟩
            case measure => simp [intOf]; omega
          · have Hfin := Lib.hid (show sm = S b by have hte : t = L.length := (by omega); have := Hse.out; rw [hte, List.take_length] at this; rw [this]; exact Hsum.out.symm)
            have Hb2 := Lib.hid (Hbel.out.below Hbq2.out (Nat.le_refl _))
            obtain ⟨wB, hwB⟩ : ∃ wB, wB = wr := ⟨_, rfl⟩
            subst hwB
            clear j0 j1 j2 j3
            go_wp2_with fail
            go_loopw [21] (fun I wr => ∃ k : Nat, k ≤ n ∧ I = .int .i64 k ∧ Hid (Below wB.heap.size wB wr)) (fun I _ => n - (intOf I).toNat)
            case atStart => exact ⟨0, Nat.zero_le _, rfl, Lib.hid (Below.refl _ _)⟩
            case round =>
              obtain ⟨u, hu, rfl, Hbu⟩ := hrel
              have T3 := Lib.hid (T2r.out.step Hbu.out)
              have Hb3 := Lib.hid (Hb2.out.below Hbu.out (Nat.le_refl _))
              have Hc3 := Lib.hid (World.rowIs.of_block Hc2.out (Hbu.out.block gc Hc2.out.lt))
              by_cases hlt3 : u < n
              · obtain ⟨j0, j1, j2, j3⟩ := T3.out.four
                have hP := path_any wr s gs n c Bs T3.out.2.1 u hlt3
                unfold FV at hP
                have hiff := bel_iff hG.out (by omega) b n (by omega) u hlt3
                have hmem := ups_mem (good_par hG.out) 17 u (by omega) (by omega)
                have hlu := ups_len Bs 17 u
                go_wp2_with fail
                refine hP.mono ?_
                rintro e wC ⟨V, rfl, hV, hbC⟩
                obtain ⟨va, vc, rfl⟩ := hV.form
                have hI1 := (Hb3.out.below hbC (Nat.le_refl _)).rd' (by omega)
                have hI2 := hV.rd (fun x hx => by have := hmem x (List.mem_reverse.1 hx); omega)
                have hr1 := r8In_any wC ba (belL Bs b n).length bc (belL Bs b n) u hI1 (by have := belL_len Bs b n; omega)
                have hr2 := r8In_any wC va (ups Bs 17 u).reverse.length vc (ups Bs 17 u).reverse b hI2 (by rw [List.length_reverse]; omega)
                have hdec : decide ((b : Int) ∈ (ups Bs 17 u).reverse) = decide ((u : Int) ∈ belL Bs b n) := by
                  rw [decide_eq_decide, List.mem_reverse]; exact hiff.symm
                rw [hdec] at hr2
                have HbC := Lib.hid (Hbu.out.trans (hbC.mono Hbu.out.size))
                clear hP hV hbC hI1 hI2 hdec hiff hmem j0 j1 j2 j3
                generalize decide ((u : Int) ∈ belL Bs b n) = bv at *
                generalize (ups Bs 17 (u : Int)).reverse = R at *
                have hbv : (bv != bv) = false := by simp
                go_wp2_with fail
                refine hr1.mono ?_
                rintro e wD ⟨rfl, hwD⟩
                subst hwD
                go_wp2_with fail
                refine hr2.mono ?_
                rintro e wE ⟨rfl, hwE⟩
                subst hwE
                go_wp2_with fail
                go_roundw
                case rel => exact ⟨u + 1, by omega, by go_num, HbC⟩
                case measure => simp [intOf]; omega
              · have hue : u = n := by omega
                have cs := Hc3.out.cell hbn
                rw [← Hfin.out] at cs
                go_wp2_with fail
                go_ret
                exact ⟨by first | rfl | simp, T3.out.1⟩
end Go.Proofs.Ytkkkhfgpjicebaa
