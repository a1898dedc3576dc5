/-
  Feeders: valid ones, in the program. No theorem of a claim stands here.
-/
import Derived.Test.YtljclagfplildaaBwd
import Derived.Test.YtljclagfplildaaEven
import Derived.Laws.Cover3
set_option linter.unusedVariables false
set_option linter.unusedSimpArgs false
set_option maxRecDepth 8000
namespace Go.Proofs.Ytljclagfplildaa
open Go Go.RowKit Go.Deep Go.Proofs.Ytljclagfplildaa.Fl

/-- The value of a feeder: its source, its buses' slice. -/
def FV (s : Nat → Nat) (g n c : Nat) : Value := .agg #[.complex .f32 (s 0) (s 1), .complex .f32 (s 2) (s 3), .complex .f32 (s 4) (s 5), .slice (some ⟨g, 0, none⟩) n c]
/-- The buses of a valid feeder lie in block g. -/
structure Fdr (w : World) (g n c : Nat) (Bs : List BusV) : Prop where
  rd : BusRd w g Bs
  len : Bs.length = n
  cap : n ≤ c
  capm : c ≤ maxLen
  one : 1 ≤ n
  most : n ≤ 16
  good : ∀ i (h : i < Bs.length), Good i Bs[i]
theorem Fdr.below {w w' : World} {g n c : Nat} {Bs : List BusV} {B : Nat} (h : Fdr w g n c Bs) (hb : Below B w w') (hB : w.heap.size ≤ B) : Fdr w' g n c Bs :=
  ⟨h.rd.below hb (Nat.lt_of_lt_of_le h.rd.1 hB), h.len, h.cap, h.capm, h.one, h.most, h.good⟩
theorem bel_alloc (w : World) (o : Obj) : Below w.heap.size w (w.alloc o) := (Below.refl _ _).alloc (Nat.le_refl _) _
theorem bel_then {w w1 w2 : World} (h1 : Below w.heap.size w w1) (h2 : Below w1.heap.size w1 w2) : Below w.heap.size w w2 := h1.trans (h2.mono h1.size)

theorem isBusAt_any (k : Nat) (B : BusV) (hG : Good k B) (hk : k ≤ 1000) (w : World) : Calls Try.prog 122 #[.agg #[.int .i64 B.par, .complex .f32 B.o0 B.o1, .complex .f32 B.s0 B.s1, .int .i64 B.kind, .complex .f32 B.a0 B.a1, .complex .f32 B.b0 B.b1, .complex .f32 B.c0 B.c1, .int .i64 B.cust], .int .i64 k] w fun e w' => e = .returned (.bool true) ∧ Below w.heap.size w w' := by
  obtain ⟨hroot, hpar, hkind, hcust, _, _⟩ := hG
  have ho : (FloatKind.f32.format.order 0 0 == some .eq) = true := by decide
  by_cases h0 : k = 0
  · obtain ⟨r1, r2, r3, r4, r5⟩ := hroot h0
    rw [r1, r2, r3, r4, r5]
    subst h0
    clear hroot hpar r1 r2 r3 r4 r5
    go_enter Try.func122, Try.ntmps122
    go_wp2
    go_ret
    exact ⟨rfl, bel_alloc _ _⟩
  · obtain ⟨p1, p2⟩ := hpar (by omega)
    have hne : ((k : Int) == 0) = false := by rw [beq_eq_false_iff_ne]; omega
    clear hroot hpar
    go_enter Try.func122, Try.ntmps122
    go_wp2
    go_ret
    exact ⟨rfl, bel_alloc _ _⟩

set_option maxHeartbeats 2000000 in
theorem valid_any (w : World) (s : Nat → Nat) (g n c : Nat) (Bs : List BusV) (hF : Fdr w g n c Bs) : Calls Try.prog 42 #[FV s g n c] w fun e w' => e = .returned (.bool true) ∧ Below w.heap.size w w' := by
  have h1 := hF.one
  have h2 := hF.most
  have h3 := hF.cap
  have HF := Lib.hid hF
  clear hF
  have hst := fun (a : Addr) (x y : Nat) (m : Mode) (w : World) => run_store Try.prog w a (.complex .f32 x y) m rfl
  unfold FV
  go_enter Try.func42, Try.ntmps42
  go_wp2_with fail
  go_loopw [18] (fun I wr => ∃ k : Nat, k ≤ n ∧ I = .int .i64 k ∧ Hid (Below w.heap.size w wr)) (fun I _ => n - (intOf I).toNat)
  case atStart => exact ⟨0, Nat.zero_le _, rfl, Lib.hid (bel_alloc _ _)⟩
  case round =>
    obtain ⟨k, hk, rfl, Hw⟩ := hrel
    by_cases hlt : k < n
    · have hlB : k < Bs.length := by rw [HF.out.len]; exact hlt
      have hcw := (HF.out.below Hw.out (Nat.le_refl _)).rd.2 k hlB
      have hG := HF.out.good k hlB
      generalize Bs[k] = B at *
      have c0 : wr.cell? ⟨g, k * 8, none⟩ = some (.int .i64 B.par) := hcw 0 (by omega)
      have c1 : wr.cell? ⟨g, k * 8 + 1, none⟩ = some (.complex .f32 B.o0 B.o1) := hcw 1 (by omega)
      have c2 : wr.cell? ⟨g, k * 8 + 2, none⟩ = some (.complex .f32 B.s0 B.s1) := hcw 2 (by omega)
      have c3 : wr.cell? ⟨g, k * 8 + 3, none⟩ = some (.int .i64 B.kind) := hcw 3 (by omega)
      have c4 : wr.cell? ⟨g, k * 8 + 4, none⟩ = some (.complex .f32 B.a0 B.a1) := hcw 4 (by omega)
      have c5 : wr.cell? ⟨g, k * 8 + 5, none⟩ = some (.complex .f32 B.b0 B.b1) := hcw 5 (by omega)
      have c6 : wr.cell? ⟨g, k * 8 + 6, none⟩ = some (.complex .f32 B.c0 B.c1) := hcw 6 (by omega)
      have c7 : wr.cell? ⟨g, k * 8 + 7, none⟩ = some (.int .i64 B.cust) := hcw 7 (by omega)
      have hI := fun w' => isBusAt_any k B hG (by omega) w'
      have Hsz := Lib.hid Hw.out.size
      clear hcw hG
      go_wp2_with fail
      refine (hI _).mono ?_
      rintro e w2 ⟨rfl, hb⟩
      have Hb := Lib.hid ((Hw.out.alloc Hw.out.size _).trans (hb.mono (by have := Hw.out.size; simp; omega)))
      clear hb
      go_wp2_with fail
      go_roundw
      case rel => exact ⟨k + 1, by omega, by go_num, Hb⟩
      case measure => simp [intOf]; omega
    · obtain rfl : k = n := by omega
      go_wp2_with fail
      go_ret
      exact ⟨rfl, Hw.out⟩
theorem hasBus_any (w : World) (s : Nat → Nat) (g n c : Nat) (Bs : List BusV) (hF : Fdr w g n c Bs) (b : Nat) (hb : b < n) : Calls Try.prog 99 #[FV s g n c, .int .i64 b] w fun e w' => e = .returned (.bool true) ∧ Below w.heap.size w w' := by
  have h2 := hF.most
  have hV := fun w' (h : Below w.heap.size w w') => valid_any w' s g n c Bs (hF.below h (Nat.le_refl _))
  unfold FV at *
  go_enter Try.func99, Try.ntmps99
  go_wp2_with fail
  refine (hV _ (bel_alloc _ _)).mono ?_
  rintro e w2 ⟨rfl, hbb⟩
  have Hb := Lib.hid (bel_then (bel_alloc _ _) hbb)
  have k3 : w2.cell? ⟨w.heap.size, 3, none⟩ = some (.slice (some ⟨g, 0, none⟩) n c) := (hbb.cell (p := ⟨w.heap.size, 3, none⟩) (by simp)).trans ((RL.new w [.complex .f32 (s 0) (s 1), .complex .f32 (s 2) (s 3), .complex .f32 (s 4) (s 5), .slice (some ⟨g, 0, none⟩) n c] 40).cell 3 (by simp))
  clear hbb
  go_wp2_with fail
  go_ret
  exact ⟨rfl, Hb.out⟩
end Go.Proofs.Ytljclagfplildaa
