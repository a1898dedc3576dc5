/-
  Joined from: PathZ GraB R8 GraW.
-/
import Derived.Test.YtbcjgjdkapdihaaJoA
import Derived.Test.YtbcjgjdkapdihaaJoB
import Derived.Test.YtbcjgjdkapdihaaGraftP
import Derived.Test.YtbcjgjdkapdihaaSrc
import Derived.Test.YtbcjgjdkapdihaaInts
import Derived.Test.YtbcjgjdkapdihaaWild
import Derived.StillTailTactics

section
set_option linter.unusedVariables false
set_option linter.unusedSimpArgs false
set_option maxRecDepth 8000
namespace Go.Proofs.Ytbcjgjdkapdihaa
open Go Go.RowKit Go.Shelf Go.Deep Go.Proofs.Ytbcjgjdkapdihaa.Fl

/-- The bits j of the impedances of bus i: its own, then the shared one. -/
def zAt (Bs : List BusV) (j i : Nat) : Nat := match Bs[i]? with | some B => [B.o0, B.o1, B.s0, B.s1].getD j 0 | none => 0
theorem zAt_get {Bs : List BusV} {i : Nat} (h : i < Bs.length) (j : Nat) : zAt Bs j i = [Bs[i].o0, Bs[i].o1, Bs[i].s0, Bs[i].s1].getD j 0 := by simp [zAt, h]
/-- The sum of floats along a list of buses, in its order. -/
def zsum (f : Nat → Nat) (L : List Int) : Option Nat := L.foldl (fun a x => fop .add .f32 a (vl .f32 (f x.toNat))) (vl .f32 0)
theorem zsum_take (f : Nat → Nat) (L : List Int) (k : Nat) (hk : k < L.length) : zsum f (L.take (k + 1)) = fop .add .f32 (zsum f (L.take k)) (vl .f32 (f (L.getD k 0).toNat)) := by
  unfold zsum
  rw [List.take_succ_eq_append_getElem hk, List.foldl_append, List.foldl_cons, List.foldl_nil]
  simp [List.getD, hk]
/-- What PathImpedance answers. -/
def ZPost (w : World) (Bs : List BusV) (L : List Int) (e : Ending) (w' : World) : Prop := ∃ r : Nat → Nat, e = .returned (.tuple #[.complex .f32 (r 0) (r 1), .complex .f32 (r 2) (r 3), .bool true]) ∧ (∀ j, j < 4 → vl .f32 (r j) = zsum (zAt Bs j) L ∧ r j < 2 ^ 32) ∧ Below w.heap.size w w'

set_option maxRecDepth 100000 in
set_option maxHeartbeats 8000000 in
theorem pathZ_any (w : World) (s : Nat → Nat) (g n c : Nat) (Bs : List BusV) (hF : Fdr w g n c Bs) (b : Nat) (hb : b < n) : Calls Try.prog 66 #[FV s g n c, .int .i64 b] w (ZPost w Bs (ups Bs 17 b).reverse) := by
  have h2 := hF.most
  have h3 := hF.cap
  have hlen := hF.len
  have HF := Lib.hid hF
  have hc := fun a b c d w => run_cov (P := Try.prog) .add (.inl rfl) 25 .f32 a b c d w
  have RF := RL.new w [.complex .f32 (s 0) (s 1), .complex .f32 (s 2) (s 3), .complex .f32 (s 4) (s 5), .slice (some ⟨g, 0, none⟩) n c] 40
  have hP := path_any (w.alloc (.cells #[.complex .f32 (s 0) (s 1), .complex .f32 (s 2) (s 3), .complex .f32 (s 4) (s 5), .slice (some ⟨g, 0, none⟩) n c] 40)) s g n c Bs (hF.below (bel_alloc _ _) (Nat.le_refl _)) b hb
  have hmem := ups_mem (good_par hF.good) 17 b (by omega) (by omega)
  have hul := ups_len Bs 17 b
  unfold FV at *
  clear hF
  go_enter Try.func66, Try.ntmps66
  go_wp2_with fail
  refine hP.mono ?_
  rintro e w2 ⟨V, rfl, hV, hbb⟩
  obtain ⟨va, vc, rfl⟩ := hV.form
  have HI := Lib.hid (hV.rd (fun x hx => by have := hmem x (List.mem_reverse.1 hx); omega))
  obtain ⟨L, hL⟩ : ∃ L, L = (ups Bs 17 b).reverse := ⟨_, rfl⟩
  have hml : ∀ x ∈ L, 0 ≤ x ∧ x < Bs.length := fun x hx => hmem x (by rw [hL] at hx; exact List.mem_reverse.1 hx)
  have hLl : L.length ≤ 17 := by rw [hL, List.length_reverse]; exact hul
  rw [← hL] at HI
  rw [← hL]
  obtain ⟨m, hm⟩ : ∃ m, m = L.length := ⟨_, rfl⟩
  rw [← hm] at HI hLl
  rw [← hm]
  have Hb := Lib.hid (bel_then (bel_alloc _ _) hbb)
  have HR := Lib.hid (RL.below RF hbb (by simp))
  have Hm := Lib.hid hm
  have HLe := Lib.hid hL
  have HM := Lib.hid hml
  clear hP hV hbb hL hmem hml hm hul RF
  go_wp2_with fail
  go_loopw [21, 9, 10] (fun I A B wr => ∃ (k : Nat) (r : Nat → Nat), I = .int .i64 k ∧ A = .complex .f32 (r 0) (r 1) ∧ B = .complex .f32 (r 2) (r 3) ∧ k ≤ m ∧ Hid (∀ j, j < 4 → vl .f32 (r j) = zsum (zAt Bs j) (L.take k) ∧ r j < 2 ^ 32) ∧ Hid (Below w2.heap.size w2 wr)) (fun I _ _ _ => m - (intOf I).toNat)
  case atStart => exact ⟨0, fun _ => 0, rfl, rfl, rfl, Nat.zero_le _, Lib.hid (fun j _ => ⟨rfl, by show (0 : Nat) < 4294967296; omega⟩), Lib.hid (Below.refl _ _)⟩
  case round =>
    obtain ⟨k, r, rfl, rfl, rfl, hk, Hr, Hw⟩ := hrel
    by_cases hlt : k < m
    · have d1 : decide ((k : Int) < (m : Int)) = true := by simp; omega
      have hIk := HI.out.stays Hw.out (Nat.le_refl _)
      obtain ⟨gv, ov, rfl, hce, _⟩ := hIk.2.2.2.1 k hlt
      have hcapV := hIk.2.1
      have hkl : k < L.length := by rw [← Hm.out]; exact hlt
      have hel : L.getD k 0 ∈ L := by rw [List.getD_eq_getElem?_getD, List.getElem?_eq_getElem hkl]; exact List.getElem_mem hkl
      have hx0 := HM.out _ hel
      have htk := fun j => zsum_take (zAt Bs j) L k hkl
      obtain ⟨x, hx⟩ : ∃ x : Nat, L.getD k 0 = x := ⟨(L.getD k 0).toNat, by omega⟩
      rw [hx] at hce hx0
      have hxl : x < Bs.length := by omega
      have hxn : x < n := by omega
      have hFw := HF.out.below (Hb.out.trans (Hw.out.mono Hb.out.size)) (Nat.le_refl _)
      have hrd := hFw.rd.2 x hxl
      have hz := fun j => zAt_get hxl j
      obtain ⟨B, hB⟩ : ∃ B, Bs[x] = B := ⟨_, rfl⟩
      rw [hB] at hrd hz
      have f3 : wr.cell? ⟨w.heap.size, 3, none⟩ = some (.slice (some ⟨g, 0, none⟩) n c) := (HR.out.below Hw.out HR.out.lt).cell 3 (by simp)
      have e1 : wr.cell? ⟨g, x * 8 + 1, none⟩ = some (.complex .f32 B.o0 B.o1) := hrd 1 (by omega)
      have e2 : wr.cell? ⟨g, x * 8 + 2, none⟩ = some (.complex .f32 B.s0 B.s1) := hrd 2 (by omega)
      have F0 := Lib.hid (fun w' => vl_fov .add .f32 (r 0) B.o0 w')
      have F1 := Lib.hid (fun w' => vl_fov .add .f32 (r 1) B.o1 w')
      have F2 := Lib.hid (fun w' => vl_fov .add .f32 (r 2) B.s0 w')
      have F3 := Lib.hid (fun w' => vl_fov .add .f32 (r 3) B.s1 w')
      have HZ : Hid (∀ (q0 q1 q2 q3 : Nat), vl .f32 q0 = fop .add .f32 (vl .f32 (r 0)) (vl .f32 B.o0) ∧ q0 < 2 ^ 32 → vl .f32 q1 = fop .add .f32 (vl .f32 (r 1)) (vl .f32 B.o1) ∧ q1 < 2 ^ 32 → vl .f32 q2 = fop .add .f32 (vl .f32 (r 2)) (vl .f32 B.s0) ∧ q2 < 2 ^ 32 → vl .f32 q3 = fop .add .f32 (vl .f32 (r 3)) (vl .f32 B.s1) ∧ q3 < 2 ^ 32 →
          ∀ j, j < 4 → vl .f32 ([q0, q1, q2, q3].getD j 0) = zsum (zAt Bs j) (L.take (k + 1)) ∧ [q0, q1, q2, q3].getD j 0 < 2 ^ 32) := Lib.hid (fun q0 q1 q2 q3 h0 h1 h2 h3 j hj => by
        rw [htk j, hx, Int.toNat_natCast, hz j]
        have hr := Hr.out j hj
        obtain rfl | rfl | rfl | rfl : j = 0 ∨ j = 1 ∨ j = 2 ∨ j = 3 := by omega
        · exact ⟨by rw [← hr.1]; exact h0.1, h0.2⟩
        · exact ⟨by rw [← hr.1]; exact h1.1, h1.2⟩
        · exact ⟨by rw [← hr.1]; exact h2.1, h2.2⟩
        · exact ⟨by rw [← hr.1]; exact h3.1, h3.2⟩)
      clear hrd hB hz htk hFw hIk hkl hel hx hx0
      go_wp2_with fail
      go_roundw
      case rel => exact ⟨k + 1, fun j => [_, _, _, _].getD j 0, by go_num, rfl, rfl, by omega, Lib.hid (HZ.out _ _ _ _ ⟨F0.out _, fov_lt _ _ _ _ _⟩ ⟨F1.out _, fov_lt _ _ _ _ _⟩ ⟨F2.out _, fov_lt _ _ _ _ _⟩ ⟨F3.out _, fov_lt _ _ _ _ _⟩), Lib.hid (Hw.out.trans ((Grown.drawn wr _).2.mono Hw.out.size))⟩
      case measure => simp [intOf]; omega
    · have e : m = k := by omega
      subst e
      have d1 : decide ((m : Int) < (m : Int)) = false := by simp
      have HE := Lib.hid (Hb.out.trans (Hw.out.mono Hb.out.size))
      have HZ := Hr.out
      rw [show L.take m = L from List.take_of_length_le (by rw [← Hm.out]; exact Nat.le_refl _)] at HZ
      have HZ2 := Lib.hid HZ
      clear HZ Hr
      go_wp2_with fail
      try simp only [Exit.inBlock, Exit.then]
      refine bodyPost_ret (by simp [results, Try.results66, go_sem]; try rfl) rfl ?_
      exact ⟨r, rfl, by rw [← HLe.out]; exact HZ2.out, HE.out⟩
end Go.Proofs.Ytbcjgjdkapdihaa
end

section
set_option linter.unusedVariables false
set_option linter.unusedSimpArgs false
set_option maxRecDepth 8000
namespace Go.Proofs.Ytbcjgjdkapdihaa
open Go Go.RowKit Go.Deep Go.Proofs.Ytbcjgjdkapdihaa.Fl

theorem oth_low (Bs : List BusV) (b : Nat) : ∀ k, k ≤ b → othL Bs b k = (List.range k).map (fun (i : Nat) => (i : Int))
  | 0, _ => rfl
  | k + 1, h => by
    rw [othL_succ, belL_none Bs b k (by omega), if_neg (by rintro (h | h); cases h; omega), oth_low Bs b k (by omega), List.range_succ, List.map_append]
    rfl
theorem oth_pre (Bs : List BusV) (b k : Nat) : ∀ t, ∃ l, othL Bs b (k + t) = othL Bs b k ++ l
  | 0 => ⟨[], by simp⟩
  | t + 1 => by
    obtain ⟨l, hl⟩ := oth_pre Bs b k t
    rw [← Nat.add_assoc, othL_succ]
    split
    · exact ⟨l, hl⟩
    · exact ⟨l ++ [((k + t : Nat) : Int)], by rw [hl, List.append_assoc]⟩
/-- A bus ahead of b keeps its place in what is left. -/
theorem oth_at (Bs : List BusV) (b n p : Nat) (hb : b ≤ n) (hp : p < b) : p < (othL Bs b n).length ∧ (othL Bs b n).getD p 0 = p := by
  obtain ⟨l, hl⟩ := oth_pre Bs b b (n - b)
  rw [show b + (n - b) = n by omega] at hl
  rw [hl, oth_low Bs b b (Nat.le_refl _)]
  refine ⟨by simp; omega, ?_⟩
  simp only [List.getD]
  rw [List.getElem?_append_left (by simpa using hp)]
  simp [hp]

/-- What Both is, of what is left and the part. -/
structure Gra (Bs : List BusV) (b : Nat) (R : List BusV) (h : BusV) (r : List BusV) (hd : BusV) (tl : List BusV) : Prop where
  good : ∀ i (h : i < Bs.length), Good i Bs[i]
  b1 : 1 ≤ b
  bn : b < Bs.length
  rest : RenL Bs (othL Bs b Bs.length) (othL Bs b Bs.length).length R
  part : RenL Bs (belL Bs b Bs.length) (belL Bs b Bs.length).length (h :: r)
  raised : rz ((othL Bs b Bs.length).length : Int) (belL Bs b Bs.length).length (h.bare :: r) = hd :: tl

theorem Gra.len {Bs R r tl : List BusV} {b : Nat} {h hd : BusV} (G : Gra Bs b R h r hd tl) : tl.length = r.length ∧ r.length + 1 = (belL Bs b Bs.length).length ∧ R.length = (othL Bs b Bs.length).length := by
  have h1 := congrArg List.length G.raised
  rw [rz_len] at h1
  have h2 := G.part.1
  simp only [List.length_cons] at h1 h2
  exact ⟨by omega, h2, G.rest.1⟩
theorem Gra.head {Bs R r tl : List BusV} {b : Nat} {h hd : BusV} (G : Gra Bs b R h r hd tl) : hd = h.bare.withPar (h.bare.par + ((othL Bs b Bs.length).length : Int)) := by
  have hl := G.len
  have h1 := rz_get ((othL Bs b Bs.length).length : Int) (belL Bs b Bs.length).length (h.bare :: r) 0 (by rw [rz_len]; simp) (by simp)
  rw [if_pos (by omega)] at h1
  have h2 : (rz ((othL Bs b Bs.length).length : Int) (belL Bs b Bs.length).length (h.bare :: r))[0]? = (hd :: tl)[0]? := by rw [G.raised]
  rw [List.getElem?_eq_getElem (by rw [rz_len]; simp), h1] at h2
  simpa using h2.symm
theorem Gra.tail {Bs R r tl : List BusV} {b : Nat} {h hd : BusV} (G : Gra Bs b R h r hd tl) (k : Nat) (hk : k < tl.length) (hk' : k < r.length) : tl[k] = r[k].withPar (r[k].par + ((othL Bs b Bs.length).length : Int)) := by
  have hl := G.len
  have h1 := rz_get ((othL Bs b Bs.length).length : Int) (belL Bs b Bs.length).length (h.bare :: r) (k + 1) (by rw [rz_len]; simp; omega) (by simp; omega)
  rw [if_pos (by omega)] at h1
  have h2 : (rz ((othL Bs b Bs.length).length : Int) (belL Bs b Bs.length).length (h.bare :: r))[k + 1]? = (hd :: tl)[k + 1]? := by rw [G.raised]
  rw [List.getElem?_eq_getElem (by rw [rz_len]; simp; omega), h1] at h2
  simp only [List.getElem?_cons_succ, List.getElem_cons_succ] at h2
  rw [List.getElem?_eq_getElem hk] at h2
  exact (Option.some.inj h2).symm
/-- It is a tree. -/
theorem Gra.both {Bs R r tl : List BusV} {b : Nat} {h hd : BusV} (G : Gra Bs b R h r hd tl) (a : Nat) (ha : a < R.length) (o0 o1 s0 s1 : Nat) (hz : o0 < 2 ^ 32 ∧ o1 < 2 ^ 32 ∧ s0 < 2 ^ 32 ∧ s1 < 2 ^ 32) :
    ∀ i (hi : i < (R ++ hd.led a o0 o1 s0 s1 :: tl).length), Good i (R ++ hd.led a o0 o1 s0 s1 :: tl)[i] := by
  have hl := G.len
  have hc := (good_cut G.good b G.b1 G.bn G.rest).2
  have hp := good_part G.good b G.bn G.part
  intro i hi
  by_cases h1 : i < R.length
  · rw [List.getElem_append_left h1]
    exact hc i h1
  · rw [List.getElem_append_right (by omega)]
    obtain ⟨k, rfl⟩ : ∃ k, i = R.length + k := ⟨i - R.length, by omega⟩
    simp only [Nat.add_sub_cancel_left]
    have hP := hp k (by simp at hi ⊢; omega)
    cases k with
    | zero =>
      have e := G.head
      show Good _ (hd.led a o0 o1 s0 s1)
      rw [e]
      exact ⟨fun e => by omega, fun _ => by show (0 : Int) ≤ a ∧ (a : Int) < _; omega, hP.kind, hP.cust, hz, hP.load⟩
    | succ k =>
      have hk' : k < r.length := by simp at hi; omega
      have hk : k < tl.length := by omega
      show Good _ tl[k]
      rw [G.tail k hk hk']
      have hP : Good (k + 1) r[k] := hP
      have hpar := hP.par (by omega)
      exact ⟨fun e => by omega, fun _ => by show (0 : Int) ≤ r[k].par + _ ∧ r[k].par + _ < _; omega, hP.kind, hP.cust, hP.own, hP.load⟩
/-- It has all customers. -/
theorem Gra.cust {Bs R r tl : List BusV} {b : Nat} {h hd : BusV} (G : Gra Bs b R h r hd tl) (a : Nat) (o0 o1 s0 s1 : Nat) : ctot (R ++ hd.led a o0 o1 s0 s1 :: tl) (R ++ hd.led a o0 o1 s0 s1 :: tl).length = ctot Bs Bs.length := by
  have hl := G.len
  have h1 := ctot_append R (hd.led a o0 o1 s0 s1 :: tl) (tl.length + 1)
  have h2 : ctot (hd.led a o0 o1 s0 s1 :: tl) (tl.length + 1) = ctot (h :: r) (tl.length + 1) := ctot_congr _ (fun i hi => by
    unfold custAt
    cases i with
    | zero =>
      have e := G.head
      show hd.cust = h.cust
      rw [e]; rfl
    | succ k =>
      have hk : k < tl.length := by omega
      have hk' : k < r.length := by omega
      simp only [List.getElem?_cons_succ]
      rw [List.getElem?_eq_getElem hk, List.getElem?_eq_getElem hk', G.tail k hk hk']
      rfl)
  have h3 := ren_all G.rest
  have h4 := ren_all G.part
  have h5 := wls_split Bs b Bs.length
  rw [show (h :: r).length = tl.length + 1 by simp; omega] at h4
  rw [show (R ++ hd.led a o0 o1 s0 s1 :: tl).length = R.length + (tl.length + 1) by simp, h1, h2, h3, h4]
  omega

/-- Which bus of the first feeder one of the second one is. -/
def back (Bs : List BusV) (b : Nat) (y : Int) : Int := if y = ((othL Bs b Bs.length).length : Int) then b else (othL Bs b Bs.length).getD y.toNat 0
theorem zsum_map (f g : Nat → Nat) (m : Int → Int) (L : List Int) (h : ∀ x ∈ L, f x.toNat = g (m x).toNat) : zsum f L = zsum g (L.map m) := by
  have key : ∀ (L : List Int) (a : Option Nat), (∀ x ∈ L, f x.toNat = g (m x).toNat) → L.foldl (fun a x => fop .add .f32 a (vl .f32 (f x.toNat))) a = (L.map m).foldl (fun a x => fop .add .f32 a (vl .f32 (g x.toNat))) a := by
    intro L
    induction L with
    | nil => intro a _; rfl
    | cons x L ih =>
      intro a h
      simp only [List.foldl_cons, List.map_cons]
      rw [h x List.mem_cons_self]
      exact ih _ (fun y hy => h y (List.mem_cons_of_mem _ hy))
  exact key L _ h
/-- A bus of what is left: its numbers and its parent. -/
theorem Gra.left {Bs R r tl : List BusV} {b : Nat} {h hd : BusV} (G : Gra Bs b R h r hd tl) (i : Nat) (hi : i < R.length) : ∃ x : Nat, x < Bs.length ∧ (othL Bs b Bs.length).getD i 0 = x ∧ (∀ T : List BusV, ∀ j, zAt (R ++ T) j i = zAt Bs j x) ∧
    (∀ T : List BusV, (parAt (R ++ T) i = -1 ∧ parAt Bs x = -1) ∨ ∃ k : Nat, k < i ∧ parAt (R ++ T) i = k ∧ (othL Bs b Bs.length).getD k 0 = parAt Bs x ∧ parAt Bs x ≠ -1) := by
  have hl := G.len
  have hil : i < (othL Bs b Bs.length).length := by omega
  have hm := othL_mem Bs b Bs.length
  obtain ⟨B, C, hB, hC, hRen⟩ := G.rest.2 i hil
  have hxm := hm _ (getD_memI hil)
  obtain ⟨x, hx⟩ : ∃ x : Nat, (othL Bs b Bs.length).getD i 0 = x := ⟨((othL Bs b Bs.length).getD i 0).toNat, by omega⟩
  rw [hx, Int.toNat_natCast] at hB
  have hxl : x < Bs.length := by omega
  have hB2 := hB
  rw [List.getElem?_eq_getElem hxl] at hB2
  have hB2 := Option.some.inj hB2
  have hgx := G.good x hxl
  rw [hB2] at hgx
  have hpx : parAt Bs x = B.par := by rw [parAt_get hxl, hB2]
  obtain ⟨q, rfl, hq1, hq2⟩ := hRen
  have hap : ∀ T : List BusV, (R ++ T)[i]? = some (B.withPar q) := fun T => by rw [List.getElem?_append_left hi]; exact hC
  have hgi := (good_cut G.good b G.b1 G.bn G.rest).2 i hi
  have hCi := hC
  rw [List.getElem?_eq_getElem hi] at hCi
  rw [Option.some.inj hCi] at hgi
  refine ⟨x, hxl, hx, fun T j => ?_, fun T => ?_⟩
  · unfold zAt
    rw [hap T, hB]
    rfl
  · have hpi : parAt (R ++ T) i = q := by unfold parAt; rw [hap T]; rfl
    rw [hpi, hpx]
    by_cases hmem : B.par ∈ othL Bs b Bs.length
    · obtain ⟨k, hk, hkl, hkp⟩ := hq1 hmem
      right
      have h0 := hm _ hmem
      have hi0 : 0 < i := by
        rcases Nat.eq_zero_or_pos i with e | e
        · have := (hgi.root e).1
          have : q = -1 := this
          omega
        · exact e
      have := (hgi.par hi0).2
      have : q < (i : Int) := this
      exact ⟨k, by omega, hk, hkp, by omega⟩
    · left
      refine ⟨hq2 hmem, ?_⟩
      rcases Nat.eq_zero_or_pos x with e | e
      · exact (hgx.root e).1
      · exfalso
        have hpp := hgx.par e
        obtain ⟨p, hp⟩ : ∃ p : Nat, B.par = p := ⟨B.par.toNat, by omega⟩
        apply hmem
        rw [hp]
        refine (oth_step Bs b Bs.length p (by omega)).2 (fun hc => ?_)
        have hxo := getD_memI hil
        rw [hx] at hxo
        refine (oth_step Bs b Bs.length x hxl).1 hxo ((bel_step Bs b Bs.length x hxl).2 (.inl ?_))
        rw [hpx, hp]
        exact (bel_keep Bs b x Bs.length p (by omega) (by omega) (by omega)).1 hc
/-- The way up from a bus of what is left. -/
theorem Gra.up {Bs R r tl : List BusV} {b : Nat} {h hd : BusV} (G : Gra Bs b R h r hd tl) (T : List BusV) : ∀ (f i : Nat), i < R.length → (ups (R ++ T) f i).map (back Bs b) = ups Bs f ((othL Bs b Bs.length).getD i 0) ∧ ∀ y ∈ ups (R ++ T) f i, ∃ k : Nat, y = k ∧ k < R.length
  | 0, i, _ => ⟨rfl, fun y hy => by cases hy⟩
  | f + 1, i, hi => by
    have hl := G.len
    obtain ⟨x, hxl, hx, hz, hp⟩ := G.left i hi
    have hbk : back Bs b i = x := by
      unfold back
      rw [if_neg (by omega), Int.toNat_natCast, hx]
    rw [ups_cons (by omega), Int.toNat_natCast, hx, ups_cons (by omega), Int.toNat_natCast, List.map_cons, hbk]
    rcases hp T with ⟨h1, h2⟩ | ⟨k, hk, h1, h2, h3⟩
    · rw [h1, h2, ups_end, ups_end]
      exact ⟨rfl, fun y hy => by
        rcases List.mem_cons.1 hy with e | e
        · exact ⟨i, e, hi⟩
        · cases e⟩
    · obtain ⟨ih1, ih2⟩ := G.up T f k (by omega)
      rw [h1, ← h2, ih1]
      exact ⟨rfl, fun y hy => by
        rcases List.mem_cons.1 hy with e | e
        · exact ⟨i, e, hi⟩
        · exact ih2 y e⟩
/-- The path to the bus that was grafted has the impedances of the path to the bus that was cut. -/
theorem Gra.path {Bs R r tl : List BusV} {b : Nat} {h hd : BusV} (G : Gra Bs b R h r hd tl) (B : BusV) (hB : Bs[b]? = some B) (p : Nat) (hp : parAt Bs b = p) (j : Nat) :
    zsum (zAt (R ++ hd.led p B.o0 B.o1 B.s0 B.s1 :: tl) j) (ups (R ++ hd.led p B.o0 B.o1 B.s0 B.s1 :: tl) 17 R.length).reverse = zsum (zAt Bs j) (ups Bs 17 b).reverse := by
  have hl := G.len
  have hpb : p < b := by
    have := (good_par G.good b G.bn).2
    omega
  obtain ⟨ha1, ha2⟩ := oth_at Bs b Bs.length p (Nat.le_of_lt G.bn) hpb
  have hpl : p < R.length := by omega
  have hhead : (R ++ hd.led p B.o0 B.o1 B.s0 B.s1 :: tl)[R.length]? = some (hd.led p B.o0 B.o1 B.s0 B.s1) := by
    rw [List.getElem?_append_right (Nat.le_refl _), Nat.sub_self]; rfl
  have hpar : parAt (R ++ hd.led p B.o0 B.o1 B.s0 B.s1 :: tl) R.length = p := by unfold parAt; rw [hhead]; rfl
  obtain ⟨u1, u2⟩ := G.up (hd.led p B.o0 B.o1 B.s0 B.s1 :: tl) 16 p hpl
  have hz0 : zAt (R ++ hd.led p B.o0 B.o1 B.s0 B.s1 :: tl) j R.length = zAt Bs j b := by
    unfold zAt
    rw [hhead, hB]
    rfl
  have hzl := fun (i : Nat) (hi : i < R.length) => (G.left i hi)
  generalize hT : hd.led p B.o0 B.o1 B.s0 B.s1 :: tl = T at *
  have hbR : back Bs b (R.length : Int) = b := by unfold back; rw [if_pos (by omega)]
  have e0 : ups (R ++ T) 17 (R.length : Int) = (R.length : Int) :: ups (R ++ T) 16 p := by
    have := ups_cons (Bs := R ++ T) (f := 16) (a := (R.length : Int)) (by omega)
    rw [Int.toNat_natCast, hpar] at this
    exact this
  have e2 : ups Bs 17 (b : Int) = (b : Int) :: ups Bs 16 p := by
    have := ups_cons (Bs := Bs) (f := 16) (a := (b : Int)) (by omega)
    rw [Int.toNat_natCast, hp] at this
    exact this
  have e1 : (ups (R ++ T) 17 (R.length : Int)).map (back Bs b) = ups Bs 17 b := by
    rw [e0, e2, List.map_cons, hbR, u1, ha2]
  rw [← e1, ← List.map_reverse]
  refine zsum_map _ _ _ _ (fun y hy => ?_)
  have hy := List.mem_reverse.1 hy
  rw [e0] at hy
  rcases List.mem_cons.1 hy with e | e
  · rw [e, hbR, Int.toNat_natCast, Int.toNat_natCast]
    exact hz0
  · obtain ⟨k, rfl, hk⟩ := u2 y e
    obtain ⟨x, hxl, hx, hz, _⟩ := hzl k hk
    rw [Int.toNat_natCast, hz T j]
    unfold back
    rw [if_neg (by omega), Int.toNat_natCast, hx, Int.toNat_natCast]
end Go.Proofs.Ytbcjgjdkapdihaa
end

section
set_option linter.unusedVariables false
set_option maxRecDepth 8000
namespace Go.Proofs.Ytbcjgjdkapdihaa
open Go Go.RowKit Go.Deep

theorem r8Long_any (a b : Option Addr) (la ca lb cb : Nat) (w : World) : Calls Try.prog 58 #[.slice a la ca, .slice b lb cb] w fun e w' => e = .returned (.bool (decide (48 < la ∨ 48 < lb))) ∧ w' = w := by
  by_cases c1 : 48 < la
  · have d1 : decide ((48 : Int) < (la : Int)) = true := by simp; omega
    have e1 : decide (48 < la ∨ 48 < lb) = true := by simp; omega
    rw [e1]
    go_enter Try.func58, Try.ntmps58
    go_wp2
    go_ret
    exact ⟨rfl, rfl⟩
  · have d1 : decide ((48 : Int) < (la : Int)) = false := by simp; omega
    by_cases c2 : 48 < lb
    · have d2 : decide ((48 : Int) < (lb : Int)) = true := by simp; omega
      have e1 : decide (48 < la ∨ 48 < lb) = true := by simp; omega
      rw [e1]
      go_enter Try.func58, Try.ntmps58
      go_wp2
      go_ret
      exact ⟨rfl, rfl⟩
    · have d2 : decide ((48 : Int) < (lb : Int)) = false := by simp; omega
      have e1 : decide (48 < la ∨ 48 < lb) = false := by simp; omega
      rw [e1]
      go_enter Try.func58, Try.ntmps58
      go_wp2
      go_ret
      exact ⟨rfl, rfl⟩

theorem r8At_any (p : Nat) (a : Option Addr) (len cap k : Nat) (n : Int) (w : World) (hb : BRd p w a len cap) (hn : 1 ≤ n) (hk : k ≤ 1000000) :
    Calls Try.prog 61 #[.slice a len cap, .int .i64 k, .int .i64 n] w fun e w' => ∃ v : Int, e = .returned (.int .i64 v) ∧ 0 ≤ v ∧ v < n ∧ w' = w := by
  by_cases h1 : n ≤ 1
  · have d1 : decide (n ≤ 1) = true := by simp; omega
    go_enter Try.func61, Try.ntmps61
    go_wp2
    go_ret
    exact ⟨0, rfl, by omega, by omega, rfl⟩
  · have d1 : decide (n ≤ 1) = false := by simp; omega
    by_cases h2 : len ≤ k
    · have d2 : decide ((len : Int) ≤ (k : Int)) = true := by simp; omega
      go_enter Try.func61, Try.ntmps61
      go_wp2
      go_ret
      exact ⟨0, rfl, by omega, by omega, rfl⟩
    · have d2 : decide ((len : Int) ≤ (k : Int)) = false := by simp; omega
      obtain ⟨b, o, v, rfl, hbp, hv0, hv1, hc⟩ := hb.2.2.2 k (by omega)
      have hcap := hb.1
      go_enter Try.func61, Try.ntmps61
      go_wp2
      go_ret
      exact ⟨_, rfl, Int.emod_nonneg _ (by omega), Int.emod_lt_of_pos _ (by omega), rfl⟩

theorem r8In_any (w : World) (a : Option Addr) (len cap : Nat) (l : List Int) (n : Int) (ha : IRd w a len cap l) (hl : len ≤ 1048576) :
    Calls Try.prog 63 #[.slice a len cap, .int .i64 n] w fun e w' => e = .returned (.bool (decide (n ∈ l))) ∧ w' = w := by
  have Ha := Lib.hid ha
  clear ha
  go_enter Try.func63, Try.ntmps63
  go_wp2
  go_loop [5] (fun i => ∃ k : Nat, k ≤ len ∧ i = .int .i64 k ∧ Hid (∀ j, j < k → l.getD j 0 ≠ n)) (fun i => len - (intOf i).toNat)
  case atStart => exact ⟨0, Nat.zero_le _, rfl, Lib.hid (fun j hj => absurd hj (Nat.not_lt_zero _))⟩
  case round =>
    obtain ⟨k, hk, rfl, Hk⟩ := hrel
    by_cases hlt : k < len
    · obtain ⟨b, o, rfl, hc, hbs⟩ := Ha.out.2.2.2.1 k hlt
      have hcap := Ha.out.2.1
      by_cases he : l.getD k 0 = n
      · have hin : n ∈ l := by
          have hl' : k < l.length := by rw [Ha.out.1]; exact hlt
          rw [← he]
          simp [List.getD, hl']
        rw [he] at hc
        go_wp2
        go_ret
        exact ⟨by first | rfl | rw [decide_eq_true hin], rfl⟩
      · have hne : (l.getD k 0 == n) = false := by rw [beq_eq_false_iff_ne]; exact he
        generalize hv : l.getD k 0 = v at hc hne he
        have Hk2 : Hid (∀ j, j < k + 1 → l.getD j 0 ≠ n) := Lib.hid (fun j hj => by
          by_cases e : j = k
          · subst e; rw [hv]; exact he
          · exact Hk.out j (by omega))
        clear hv
        go_wp2
        go_round
        case rel => exact ⟨k + 1, by omega, by go_num, Hk2⟩
        case measure => simp [intOf]; omega
    · obtain rfl : k = len := by omega
      have hin : ¬ n ∈ l := by
        intro h
        obtain ⟨j, hj, e⟩ := List.getElem_of_mem h
        have := Hk.out j (by rw [← Ha.out.1]; exact hj)
        simp [List.getD, hj, e] at this
      go_wp2
      go_ret
      exact ⟨by first | rfl | rw [decide_eq_false hin], rfl⟩
end Go.Proofs.Ytbcjgjdkapdihaa
end

section
set_option linter.unusedVariables false
set_option linter.unusedSimpArgs false
set_option maxRecDepth 8000
namespace Go.Proofs.Ytbcjgjdkapdihaa
open Go Go.RowKit Go.Shelf Go.Deep Go.Proofs.Ytbcjgjdkapdihaa.Fl

theorem IL.cell {base g cap : Nat} {w : World} {l : List Int} (h : IL base w (.slice (some ⟨g, 0, none⟩) l.length cap) l) (j : Nat) (hj : j < l.length) : w.cell? ⟨g, j, none⟩ = some (.int .i64 (l.getD j 0)) := by
  have hc := World.ownsRow.cellAt h j (by omega)
  rw [hc]
  simp [iv, List.getD, hj]
theorem IL.gcell {base : Nat} {w : World} {a : Option Addr} {n cap : Nat} {l : List Int} (h : IL base w (.slice a n cap) l) (hn : 0 < n) : ∃ g, a = some ⟨g, 0, none⟩ ∧ base ≤ g ∧ g < w.heap.size := by
  rcases h.2 with ⟨h2, h3⟩ | ⟨g2, c2, cur, e1, h1, h2, h3⟩
  · simp at h2; omega
  · simp at e1
    exact ⟨g2, e1.1, h1, (Array.getElem?_eq_some_iff.1 h2).1⟩

/-- Where the law stands: what was there ahead of it, the feeder's buses, the variable that holds the feeder. -/
def TS (W w : World) (p gs n c : Nat) (s : Nat → Nat) (Bs : List BusV) : Prop :=
  Below W.heap.size W w ∧ Fdr w gs n c Bs ∧ RL w p 40 [.complex .f32 (s 0) (s 1), .complex .f32 (s 2) (s 3), .complex .f32 (s 4) (s 5), .slice (some ⟨gs, 0, none⟩) n c]
theorem TS.step {W w w' : World} {p gs n c : Nat} {s : Nat → Nat} {Bs : List BusV} (h : TS W w p gs n c s Bs) (hb : Below w.heap.size w w') : TS W w' p gs n c s Bs :=
  ⟨h.1.trans (hb.mono h.1.size), h.2.1.below hb (Nat.le_refl _), h.2.2.below hb h.2.2.lt⟩
theorem TS.four {W w : World} {p gs n c : Nat} {s : Nat → Nat} {Bs : List BusV} (h : TS W w p gs n c s Bs) : w.cell? ⟨p, 0, none⟩ = some (.complex .f32 (s 0) (s 1)) ∧ w.cell? ⟨p, 1, none⟩ = some (.complex .f32 (s 2) (s 3)) ∧ w.cell? ⟨p, 2, none⟩ = some (.complex .f32 (s 4) (s 5)) ∧ w.cell? ⟨p, 3, none⟩ = some (.slice (some ⟨gs, 0, none⟩) n c) :=
  ⟨h.2.2.cell 0 (by simp), h.2.2.cell 1 (by simp), h.2.2.cell 2 (by simp), h.2.2.cell 3 (by simp)⟩
theorem TS.par {W w : World} {p gs n c : Nat} {s : Nat → Nat} {Bs : List BusV} (h : TS W w p gs n c s Bs) (x : Nat) (hx : x < n) : w.cell? ⟨gs, x * 8, none⟩ = some (.int .i64 (parAt Bs x)) := by
  have hl : x < Bs.length := by rw [h.2.1.len]; exact hx
  have := h.2.1.rd.2 x hl 0 (by omega)
  rw [Nat.add_zero] at this
  rw [this, parAt_get hl]
  rfl
theorem TS.cust {W w : World} {p gs n c : Nat} {s : Nat → Nat} {Bs : List BusV} (h : TS W w p gs n c s Bs) (x : Nat) (hx : x < n) : w.cell? ⟨gs, x * 8 + 7, none⟩ = some (.int .i64 (custAt Bs x)) := by
  have hl : x < Bs.length := by rw [h.2.1.len]; exact hx
  have := h.2.1.rd.2 x hl 7 (by omega)
  rw [this, custAt_get hl]
  rfl
theorem bel_drewN (w : World) (q : Nat) : Below w.heap.size w (w.drewN q) := ⟨rfl, rfl, rfl, Nat.le_refl _, fun _ _ => rfl⟩
theorem sameI_any (a b : Nat) (ha : a < 2 ^ 32) (hb : b < 2 ^ 32) (h : vl .f32 a = vl .f32 b) (w : World) : Calls Try.prog 144 #[.float .f32 a, .float .f32 b] w (VRet (.bool true) w) := by
  have hA := fun w' => bitsOf_any a ha w'
  have hB := fun w' => bitsOf_any b hb w'
  rw [h] at hA
  clear h
  generalize bitsV (vl .f32 b) = y at *
  have hy : (y == y) = true := by simp
  go_enter Try.func144, Try.ntmps144
  go_wp2_with fail
  refine (hA _).mono ?_
  rintro e w' ⟨n, rfl, rfl⟩
  go_wp2_with fail
  refine (hB _).mono ?_
  rintro e w' ⟨m, rfl, rfl⟩
  go_wp2_with fail
  go_ret
  exact ⟨_, rfl, rfl⟩
theorem sameCxI_any (a b c d : Nat) (ha : a < 2 ^ 32) (hb : b < 2 ^ 32) (hc : c < 2 ^ 32) (hd : d < 2 ^ 32) (h1 : vl .f32 a = vl .f32 c) (h2 : vl .f32 b = vl .f32 d) (w : World) :
    Calls Try.prog 67 #[.complex .f32 a b, .complex .f32 c d] w (VRet (.bool true) w) := by
  have hA := fun w' => sameI_any a c ha hc h1 w'
  have hB := fun w' => sameI_any b d hb hd h2 w'
  clear h1 h2
  go_enter Try.func67, Try.ntmps67
  go_wp2_with fail
  refine (hA _).mono ?_
  rintro e w' ⟨n, rfl, rfl⟩
  go_wp2_with fail
  refine (hB _).mono ?_
  rintro e w' ⟨m, rfl, rfl⟩
  go_wp2_with fail
  go_ret
  exact ⟨_, rfl, rfl⟩
/-- The cells of a feeder. -/
def FL4 (s : Nat → Nat) (g n c : Nat) : List Value := [.complex .f32 (s 0) (s 1), .complex .f32 (s 2) (s 3), .complex .f32 (s 4) (s 5), .slice (some ⟨g, 0, none⟩) n c]
theorem fl4 {w : World} {p g n c : Nat} {s : Nat → Nat} (h : RL w p 40 (FL4 s g n c)) : w.cell? ⟨p, 0, none⟩ = some (.complex .f32 (s 0) (s 1)) ∧ w.cell? ⟨p, 1, none⟩ = some (.complex .f32 (s 2) (s 3)) ∧ w.cell? ⟨p, 2, none⟩ = some (.complex .f32 (s 4) (s 5)) ∧ w.cell? ⟨p, 3, none⟩ = some (.slice (some ⟨g, 0, none⟩) n c) :=
  ⟨h.cell 0 (by simp [FL4]), h.cell 1 (by simp [FL4]), h.cell 2 (by simp [FL4]), h.cell 3 (by simp [FL4])⟩

/-- A slot that is set if an operation has come up. -/
def gsl (b : Bool) (v : Value) : Value := match b with | true => v | false => undef
theorem gsl_true (v : Value) : gsl true v = v := rfl
theorem gsl_false (v : Value) : gsl false v = undef := rfl
def zeroF : List Value := [.complex .f32 0 0, .complex .f32 0 0, .complex .f32 0 0, .slice none 0 0]
/-- What holds while the region of the graft goes on. -/
structure GrH (W0 w : World) (s : Nat → Nat) (n : Nat) (R : List BusV) (k : Nat) (B hh : BusV) (r : List BusV) (nO nL : Nat) (b15 b16 b17 b18 b19 b20 : Bool) (gA g3 c3 : Nat) (hd : BusV) (tl : List BusV) : Prop where
  bel : Below W0.heap.size W0 w
  seq : b15 = false → b16 = false ∧ b17 = false ∧ b18 = false ∧ b20 = false
  seq2 : b19 = false → b20 = false
  box : b19 = true → W0.heap.size ≤ gA ∧ RL w gA 40 (if b20 = true then FL4 s g3 n c3 else zeroF)
  gr : b15 = true → rz (nO : Int) nL (hh.bare :: r) = hd :: tl ∧ BuR w g3 n (R ++ hd.led k B.o0 B.o1 B.s0 B.s1 :: tl) ∧ W0.heap.size ≤ g3 ∧ n ≤ c3 ∧ c3 ≤ maxLen
theorem BuR.ne {w : World} {g n gA : Nat} {R L : List BusV} {M : List Value} (h : BuR w g n R) (h2 : RL w gA 40 M) : g ≠ gA := by
  obtain ⟨_, m, f, _, hr, _⟩ := h
  exact Ne.symm (row_ne h2 hr (by decide))

theorem zbox {w w1 : World} (h : Below (w.alloc (.cells #[.complex .f32 0 0, .complex .f32 0 0, .complex .f32 0 0, .slice none 0 0] 40)).drew.heap.size (w.alloc (.cells #[.complex .f32 0 0, .complex .f32 0 0, .complex .f32 0 0, .slice none 0 0] 40)).drew w1) : RL w1 w.heap.size 40 zeroF := by
  have a : RL (w.alloc (.cells zeroF.toArray 40)) w.heap.size 40 zeroF := RL.new w zeroF 40
  have b : RL (w.alloc (.cells zeroF.toArray 40)).drew w.heap.size 40 zeroF := a
  exact b.below h a.lt
theorem zbox4 {w : World} {g : Nat} (h : RL w g 40 zeroF) : (w.cell? ⟨g, 0, none⟩ = some (.complex .f32 0 0) ∧ w.cell? ⟨g, 1, none⟩ = some (.complex .f32 0 0) ∧ w.cell? ⟨g, 2, none⟩ = some (.complex .f32 0 0) ∧ w.cell? ⟨g, 3, none⟩ = some (.slice none 0 0)) ∧ w.frozen? ⟨g, 0, none⟩ = false ∧ w.frozen? ⟨g, 1, none⟩ = false ∧ w.frozen? ⟨g, 2, none⟩ = false ∧ w.frozen? ⟨g, 3, none⟩ = false :=
  ⟨⟨h.cell 0 (by simp [zeroF]), h.cell 1 (by simp [zeroF]), h.cell 2 (by simp [zeroF]), h.cell 3 (by simp [zeroF])⟩, h.frozen 0, h.frozen 1, h.frozen 2, h.frozen 3⟩

set_option maxHeartbeats 4000000 in
theorem cut0_any (w : World) (s : Nat → Nat) (g n c : Nat) (Bs : List BusV) (hF : Fdr w g n c Bs) : Calls Try.prog 60 #[FV s g n c, .int .i64 0] w fun e w' => e = .returned (.tuple #[.agg #[.complex .f32 0 0, .complex .f32 0 0, .complex .f32 0 0, .slice none 0 0], .bool false]) ∧ Below w.heap.size w w' := by
  have hst := fun (a : Addr) (x y : Nat) (m : Mode) (w : World) => run_store Try.prog w a (.complex .f32 x y) m rfl
  have hb0 : Below w.heap.size w ((w.alloc (.cells #[.complex .f32 (s 0) (s 1), .complex .f32 (s 2) (s 3), .complex .f32 (s 4) (s 5), .slice (some ⟨g, 0, none⟩) n c] 40)).alloc (.cells #[.complex .f32 0 0, .complex .f32 0 0, .complex .f32 0 0, .slice none 0 0] 40)) := ((Below.refl _ w).alloc (Nat.le_refl _) _).alloc (by simp) _
  have RZ := RL.new (w.alloc (.cells #[.complex .f32 (s 0) (s 1), .complex .f32 (s 2) (s 3), .complex .f32 (s 4) (s 5), .slice (some ⟨g, 0, none⟩) n c] 40)) [.complex .f32 0 0, .complex .f32 0 0, .complex .f32 0 0, .slice none 0 0] 40
  rw [show (w.alloc (.cells #[.complex .f32 (s 0) (s 1), .complex .f32 (s 2) (s 3), .complex .f32 (s 4) (s 5), .slice (some ⟨g, 0, none⟩) n c] 40)).heap.size = w.heap.size + 1 by simp] at RZ
  have hH := hasBus_any _ s g n c Bs (hF.below hb0 (Nat.le_refl _)) 0 (by have := hF.one; omega)
  have HB := Lib.hid hb0
  unfold FV at *
  go_enter Try.func60, Try.ntmps60
  go_wp2_with fail
  generalize ((w.alloc (.cells #[.complex .f32 (s 0) (s 1), .complex .f32 (s 2) (s 3), .complex .f32 (s 4) (s 5), .slice (some ⟨g, 0, none⟩) n c] 40)).alloc (.cells #[.complex .f32 0 0, .complex .f32 0 0, .complex .f32 0 0, .slice none 0 0] 40)) = w1 at *
  refine hH.mono ?_
  rintro e w2 ⟨rfl, hb⟩
  have R2 := RZ.below hb RZ.lt
  have HE := Lib.hid (HB.out.trans (hb.mono HB.out.size))
  have z0 := R2.cell 0 (by simp)
  have z1 := R2.cell 1 (by simp)
  have z2 := R2.cell 2 (by simp)
  have z3 := R2.cell 3 (by simp)
  simp only [List.getD_cons_zero, List.getD_cons_succ] at z0 z1 z2 z3
  have y0 := R2.frozen 0
  have y1 := R2.frozen 1
  have y2 := R2.frozen 2
  have y3 := R2.frozen 3
  have R6 := (((R2.set 0 (.complex .f32 0 0)).set 1 (.complex .f32 0 0)).set 2 (.complex .f32 0 0)).set 3 (.slice none 0 0)
  have v0 := R6.cell 0 (by simp)
  have v1 := R6.cell 1 (by simp)
  have v2 := R6.cell 2 (by simp)
  have v3 := R6.cell 3 (by simp)
  simp only [List.set_cons_zero, List.set_cons_succ, List.getD_cons_zero, List.getD_cons_succ] at v0 v1 v2 v3
  clear R2 R6 hb RZ hH
  go_wp2_with fail
  try simp only [Exit.inBlock, Exit.then]
  refine bodyPost_ret (by simp [results, Try.results60, go_sem, v0, v1, v2, v3]; try rfl) rfl ?_
  exact ⟨rfl, (((HE.out.setCell (p := ⟨w.heap.size + 1, 0, none⟩) (Nat.le_succ _) _).setCell (p := ⟨w.heap.size + 1, 1, none⟩) (Nat.le_succ _) _).setCell (p := ⟨w.heap.size + 1, 2, none⟩) (Nat.le_succ _) _).setCell (p := ⟨w.heap.size + 1, 3, none⟩) (Nat.le_succ _) _⟩
end Go.Proofs.Ytbcjgjdkapdihaa
end
