/-
  The depth of a feeder, in the program. No theorem of a claim stands here.
-/
import Derived.Test.YtkkkhfgpjicebaaPath
import Derived.Test.YtkkkhfgpjicebaaMaxI
import Derived.StillTailTactics
set_option linter.unusedVariables false
set_option linter.unusedSimpArgs false
set_option maxRecDepth 8000
namespace Go.Proofs.Ytkkkhfgpjicebaa
open Go Go.RowKit Go.Shelf Go.Deep Go.Proofs.Ytkkkhfgpjicebaa.Fl

theorem ups_stable {Bs : List BusV} (hG : ∀ i, i < Bs.length → -1 ≤ parAt Bs i ∧ parAt Bs i < i) : ∀ (f : Nat) (a : Int), -1 ≤ a → a < Bs.length → a + 1 ≤ f → ups Bs (f + 1) a = ups Bs f a
  | 0, a, h1, h2, h3 => by
    have : a = -1 := by omega
    rw [this, ups_end, ups_end]
  | f + 1, a, h1, h2, h3 => by
    by_cases h : a = -1
    · rw [h, ups_end, ups_end]
    · have hp := hG a.toNat (by omega)
      have ih := ups_stable hG f (parAt Bs a.toNat) hp.1 (by omega) (by omega)
      have e1 : ups Bs (f + 1 + 1) a = a :: ups Bs (f + 1) (parAt Bs a.toNat) := by conv => lhs; unfold ups; rw [if_neg h]
      have e2 : ups Bs (f + 1) a = a :: ups Bs f (parAt Bs a.toNat) := by conv => lhs; unfold ups; rw [if_neg h]
      rw [e1, e2, ih]
theorem good_par {Bs : List BusV} (hG : ∀ i (h : i < Bs.length), Good i Bs[i]) (i : Nat) (h : i < Bs.length) : -1 ≤ parAt Bs i ∧ parAt Bs i < i := by
  rw [parAt_get h]
  by_cases h0 : i = 0
  · have := ((hG i h).root h0).1; omega
  · have := (hG i h).par (by omega); omega
def dep (Bs : List BusV) (i : Nat) : Int := (ups Bs 17 i).length
theorem dep_root {Bs : List BusV} {i : Nat} (h : parAt Bs i = -1) : dep Bs i = 1 := by
  unfold dep ups
  rw [if_neg (by omega), Int.toNat_natCast, h, ups_end]
  rfl
theorem dep_at {Bs : List BusV} (hG : ∀ i (h : i < Bs.length), Good i Bs[i]) {i q : Nat} (hi : i < Bs.length) (h16 : Bs.length ≤ 16) (h : parAt Bs i = q) : dep Bs i = 1 + dep Bs q := by
  have hp := good_par hG i hi
  have hs := ups_stable (good_par hG) 16 q (by omega) (by omega) (by omega)
  have e : ups Bs 17 i = (i : Int) :: ups Bs 16 q := by
    conv => lhs; unfold ups
    rw [if_neg (by omega), Int.toNat_natCast, h]
  have e2 : ups Bs 17 q = ups Bs 16 q := hs
  unfold dep
  rw [e, e2, List.length_cons]
  generalize (ups Bs 16 q).length = m
  omega
theorem dep_le (Bs : List BusV) (i : Nat) : 0 ≤ dep Bs i ∧ dep Bs i ≤ 17 := by
  have := ups_len Bs 17 i
  unfold dep
  omega

set_option maxRecDepth 100000 in
set_option maxHeartbeats 4000000 in
theorem depth_any (w : World) (s : Nat → Nat) (g n c : Nat) (Bs : List BusV) (hF : Fdr w g n c Bs) : Calls Try.prog 48 #[FV s g n c] w fun e w' => ∃ d : Int, e = .returned (.tuple #[.int .i64 d, .bool true]) ∧ (∀ j, j < n → dep Bs j ≤ d) ∧ Below w.heap.size w w' := by
  have h1 := hF.one
  have h2 := hF.most
  have h3 := hF.cap
  have HF := Lib.hid hF
  clear hF
  have hst := fun (a : Addr) (x y : Nat) (m : Mode) (w : World) => run_store Try.prog w a (.complex .f32 x y) m rfl
  have hV := fun w' (h : Below w.heap.size w w') => valid_any w' s g n c Bs (HF.out.below h (Nat.le_refl _))
  unfold FV at *
  obtain ⟨i0, hi, hz0, hz1, hz2⟩ := info_parts (show (Try.prog.info? 2).map (fun i => (i.zero, i.size, i.bytes)) = some (some (.int .i64 0), 1, 8) by kernel_rfl)
  have hmk := fun w' => run_make (P := Try.prog) w' 51 2 i0 (.int .i64 0) Try.underlying51 hi hz0 .i64 .i64 n n (by omega) (by omega) (by rw [hz2]; omega) (by omega)
  go_enter Try.func48, Try.ntmps48
  go_wp2_with fail
  refine (hV _ (bel_alloc _ _)).mono ?_
  rintro e w2 ⟨rfl, hbb⟩
  have Hb := Lib.hid (bel_then (bel_alloc _ _) hbb)
  have HR2 := Lib.hid (RL.below (RL.new w [.complex .f32 (s 0) (s 1), .complex .f32 (s 2) (s 3), .complex .f32 (s 4) (s 5), .slice (some ⟨g, 0, none⟩) n c] 29) hbb (by simp))
  have k3 : w2.cell? ⟨w.heap.size, 3, none⟩ = some (.slice (some ⟨g, 0, none⟩) n c) := HR2.out.cell 3 (by simp)
  have k4 : ∀ o, (w2.alloc o).cell? ⟨w.heap.size, 3, none⟩ = some (.slice (some ⟨g, 0, none⟩) n c) := fun o => (HR2.out.allocd o).cell 3 (by simp)
  clear hbb
  go_wp2_with fail
  go_loopw [17] (fun I wr => ∃ k : Nat, k ≤ n ∧ I = .int .i64 k ∧ Hid (wr.rowIs w2.heap.size 2 n (fun j => .int .i64 (if j < k then dep Bs j else 0))) ∧ Hid (Below w.heap.size w wr)) (fun I _ => n - (intOf I).toNat)
  case atStart =>
    refine ⟨0, Nat.zero_le _, rfl, Lib.hid ?_, Lib.hid (Hb.out.alloc Hb.out.size _)⟩
    have h := World.rowIs_made w2 (.int .i64 0) n 2
    have e : madeCells (Value.int .i64 0).cells ((n : Int).toNat * i0.size) = madeCells #[Value.int .i64 0] n := by rw [hz1, Nat.mul_one]; rfl
    first | exact h | (rw [e]; exact h) | (simpa [hz1] using h)
  case round =>
    obtain ⟨k, hk, rfl, Hr, Hw⟩ := hrel
    by_cases hlt : k < n
    · have hlB : k < Bs.length := by rw [HF.out.len]; exact hlt
      have hpk := parAt_get hlB
      have hpg := good_par HF.out.good k hlB
      have hda := fun q => dep_at (q := q) HF.out.good hlB (by rw [HF.out.len]; exact h2)
      have hdr := fun h => dep_root (Bs := Bs) (i := k) h
      have hcw := (HF.out.below Hw.out (Nat.le_refl _)).rd.2 k hlB
      rw [hpk] at hpg hda hdr
      clear hpk
      generalize Bs[k] = B at *
      have c0 : wr.cell? ⟨g, k * 8, none⟩ = some (.int .i64 B.par) := hcw 0 (by omega)
      have c1 : wr.cell? ⟨g, k * 8 + 1, none⟩ = some (.complex .f32 B.o0 B.o1) := hcw 1 (by omega)
      have c2 : wr.cell? ⟨g, k * 8 + 2, none⟩ = some (.complex .f32 B.s0 B.s1) := hcw 2 (by omega)
      have c3 : wr.cell? ⟨g, k * 8 + 3, none⟩ = some (.int .i64 B.kind) := hcw 3 (by omega)
      have c4 : wr.cell? ⟨g, k * 8 + 4, none⟩ = some (.complex .f32 B.a0 B.a1) := hcw 4 (by omega)
      have c5 : wr.cell? ⟨g, k * 8 + 5, none⟩ = some (.complex .f32 B.b0 B.b1) := hcw 5 (by omega)
      have c6 : wr.cell? ⟨g, k * 8 + 6, none⟩ = some (.complex .f32 B.c0 B.c1) := hcw 6 (by omega)
      have c7 : wr.cell? ⟨g, k * 8 + 7, none⟩ = some (.int .i64 B.cust) := hcw 7 (by omega)
      have Hsz := Lib.hid Hw.out.size
      have hbs := Hb.out.size
      have hgl := Hr.out.lt
      clear hcw
      have RB : RL (wr.alloc (.cells #[.int .i64 B.par, .complex .f32 B.o0 B.o1, .complex .f32 B.s0 B.s1, .int .i64 B.kind, .complex .f32 B.a0 B.a1, .complex .f32 B.b0 B.b1, .complex .f32 B.c0 B.c1, .int .i64 B.cust] 78)) wr.heap.size 78 B.vals := RL.new wr B.vals _
      have hp0 : (wr.alloc (.cells #[.int .i64 B.par, .complex .f32 B.o0 B.o1, .complex .f32 B.s0 B.s1, .int .i64 B.kind, .complex .f32 B.a0 B.a1, .complex .f32 B.b0 B.b1, .complex .f32 B.c0 B.c1, .int .i64 B.cust] 78)).cell? ⟨wr.heap.size, 0, none⟩ = some (.int .i64 B.par) := RB.cell 0 (by show 0 < 8; omega)
      have RS := Hr.out.set k (.int .i64 1)
      have hp1 : ((wr.setCell ⟨w2.heap.size, k, none⟩ (.int .i64 1)).alloc (.cells #[.int .i64 B.par, .complex .f32 B.o0 B.o1, .complex .f32 B.s0 B.s1, .int .i64 B.kind, .complex .f32 B.a0 B.a1, .complex .f32 B.b0 B.b1, .complex .f32 B.c0 B.c1, .int .i64 B.cust] 78)).cell? ⟨wr.heap.size, 0, none⟩ = some (.int .i64 B.par) := by
        have h := (RL.new (wr.setCell ⟨w2.heap.size, k, none⟩ (.int .i64 1)) B.vals 78).cell 0 (by show 0 < 8; omega)
        rw [World.size_setCell] at h
        exact h
      have R0 := Hr.out.alloc (.cells #[.int .i64 B.par, .complex .f32 B.o0 B.o1, .complex .f32 B.s0 B.s1, .int .i64 B.kind, .complex .f32 B.a0 B.a1, .complex .f32 B.b0 B.b1, .complex .f32 B.c0 B.c1, .int .i64 B.cust] 78)
      have hk0 := R0.cell hlt
      have hf0 := R0.frozen k
      have R1 := RS.alloc (.cells #[.int .i64 B.par, .complex .f32 B.o0 B.o1, .complex .f32 B.s0 B.s1, .int .i64 B.kind, .complex .f32 B.a0 B.a1, .complex .f32 B.b0 B.b1, .complex .f32 B.c0 B.c1, .int .i64 B.cust] 78)
      have HB1 := Lib.hid ((Hw.out.setCell (p := ⟨w2.heap.size, k, none⟩) hbs (.int .i64 1)).alloc (by rw [World.size_setCell]; exact Hsz.out) (.cells #[.int .i64 B.par, .complex .f32 B.o0 B.o1, .complex .f32 B.s0 B.s1, .int .i64 B.kind, .complex .f32 B.a0 B.a1, .complex .f32 B.b0 B.b1, .complex .f32 B.c0 B.c1, .int .i64 B.cust] 78))
      clear RB
      generalize B.par = pr at *
      by_cases hp : pr = -1
      · subst hp
        have HE := Lib.hid (R1.congr (g := fun j => .int .i64 (if j < k + 1 then dep Bs j else 0)) (fun j hj => by
          show (if j = k then _ else _) = Value.int .i64 (if j < k + 1 then dep Bs j else 0)
          by_cases e : j = k
          · rw [if_pos e, if_pos (by omega), e, hdr rfl]
          · rw [if_neg e]
            by_cases e2 : j < k
            · rw [if_pos e2, if_pos (by omega)]
            · rw [if_neg e2, if_neg (by omega)]))
        clear R0 R1 RS hda hdr
        go_wp2_with fail
        go_roundw
        case rel => exact ⟨k + 1, by omega, by go_num, HE, HB1⟩
        case measure => simp [intOf]; omega
      · obtain ⟨q, rfl⟩ : ∃ q : Nat, pr = q := ⟨pr.toNat, by omega⟩
        have hqk : q < k := by omega
        have hqn : q < n := by omega
        have hqp : ((q : Nat) : Int) ≠ -1 := by omega
        have hdl := dep_le Bs q
        have r1 := R1.cell hlt
        rw [if_pos rfl] at r1
        have rq := R1.cell hqn
        rw [if_neg (by omega), if_pos hqk] at rq
        have fk := R1.frozen k
        have R2 := (R1.set k (.int .i64 (1 + dep Bs q))).drew
        have HE := Lib.hid (R2.congr (g := fun j => .int .i64 (if j < k + 1 then dep Bs j else 0)) (fun j hj => by
          show (if j = k then _ else if j = k then _ else _) = Value.int .i64 (if j < k + 1 then dep Bs j else 0)
          by_cases e : j = k
          · rw [if_pos e, if_pos (by omega), e, hda q rfl]
          · rw [if_neg e, if_neg e]
            by_cases e2 : j < k
            · rw [if_pos e2, if_pos (by omega)]
            · rw [if_neg e2, if_neg (by omega)]))
        have HB2 := Lib.hid ((HB1.out.setCell (p := ⟨w2.heap.size, k, none⟩) hbs (.int .i64 (1 + dep Bs q))).drew)
        clear R0 R1 R2 RS hda hdr
        generalize dep Bs q = d at *
        go_wp2_with fail
        generalize (wr.setCell ⟨w2.heap.size, k, none⟩ (.int .i64 1)).alloc (.cells #[.int .i64 q, .complex .f32 B.o0 B.o1, .complex .f32 B.s0 B.s1, .int .i64 B.kind, .complex .f32 B.a0 B.a1, .complex .f32 B.b0 B.b1, .complex .f32 B.c0 B.c1, .int .i64 B.cust] 78) = W2 at *
        go_still_tail 11, rfl
        go_wp2_with fail
        go_roundw
        case rel => exact ⟨k + 1, by omega, by go_num, HE, HB2⟩
        case measure => simp [intOf]; omega
    · obtain rfl : k = n := by omega
      have HI := IL.of_row (base := w.heap.size) (l := (List.range k).map (dep Bs)) (F := fun j => .int .i64 (if j < k then dep Bs j else 0)) Hr.out (by simp) (fun j hj => by simp [hj, List.getD]) Hb.out.size (Nat.le_refl _) (by unfold maxLen; omega)
      have hI := IL.rd (n := k) HI (fun m hm => by
        obtain ⟨i, _, rfl⟩ := List.mem_map.1 hm
        have := dep_le Bs i
        omega)
      have hM := max_any wr (some ⟨w2.heap.size, 0, none⟩) k k _ hI h1 (by omega)
      clear HI hI
      go_wp2_with (go_at_call 97; refine hM.mono ?_; rintro e w4 ⟨m, rfl, hm, rfl⟩; have Hm := Lib.hid hm; clear hm)
      go_ret2
      refine ⟨m, rfl, fun j hj => ?_, Hw.out⟩
      have := Hm.out j hj
      simpa [List.getD, hj] using this
end Go.Proofs.Ytkkkhfgpjicebaa
