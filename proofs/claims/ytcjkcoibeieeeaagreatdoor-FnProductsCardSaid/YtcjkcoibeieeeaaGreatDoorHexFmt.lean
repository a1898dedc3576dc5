/-
  strconv.FormatInt at base 16: the walk of the library's text. No theorem of a claim stands here.
-/
import Derived.Test.YtcjkcoibeieeeaaGreatDoorHexPure
import Derived.Test.YtcjkcoibeieeeaaGreatDoorFmt
import Derived.WalkKit
import Derived.Outline
import Derived.OwnWalk
import Derived.Deep.OwnRows
import Derived.Lib.Hide
import Derived.Lib.LaidTab
import Derived.Laws.IdiomStrings
import Derived.Laws.BitsLemmas
set_option linter.unusedVariables false
namespace Go.Proofs.YtcjkcoibeieeeaaGreatDoor
open Go Go.RowKit Go.Deep

def dB64 : List Int := [0, 1, 56, 2, 57, 49, 28, 3, 61, 58, 42, 50, 38, 29, 17, 4, 62, 47, 59, 36, 45, 43, 51, 22, 53, 39, 33, 30, 24, 18, 12, 5, 63, 55, 48, 27, 60, 41, 37, 16, 46, 35, 44, 21, 52, 32, 23, 11, 54, 26, 40, 15, 34, 20, 31, 10, 25, 14, 19, 9, 13, 8, 7, 6]

/-- The table's cell that is asked at base 16. -/
def Tz (w : World) : Prop := w.cell? ⟨6, 15, none⟩ = some (.int .u8 4)
theorem Tz.stays {w w' : World} {B : Nat} (h : Tz w) (hb : Below B w w') (hB : w.heap.size ≤ B) : Tz w' := by
  have hl : 6 < w.heap.size := World.block_lt_of_cell? w _ h
  exact (hb.cell (show (⟨6, 15, none⟩ : Addr).block < B from Nat.lt_of_lt_of_le hl hB)).trans h

theorem tz16 (w : World) (h : Tz w) : Calls Tryz.prog 126 #[.int .u64 16] w fun e w' => e = .returned (.int .i64 4) ∧ w' = w := by
  unfold Tz at h
  have e2 : bits BinOp.and IntKind.u64 16 (IntKind.u64.wrap (-16)) = 16 := by kernel_rfl
  have e3 : IntKind.u64.wrap (16 * 285870213051353865) / 288230376151711744 = 15 := by kernel_rfl
  go_enter Tryz.func126, Tryz.ntmps126
  go_wp2
  go_ret
  exact ⟨rfl, rfl⟩

theorem pw16 (w : World) : Calls Tryz.prog 125 #[.int .i64 16] w fun e w' => e = .returned (.bool true) ∧ w' = w := by
  have e2 : bits BinOp.and IntKind.i64 16 15 = 0 := by kernel_rfl
  go_enter Tryz.func125, Tryz.ntmps125
  go_wp2
  go_ret
  exact ⟨rfl, rfl⟩

theorem wraps63 (n : Int) (h₀ : 0 ≤ n) (h₁ : n < 2 ^ 63) : IntKind.u64.wrap n = n := by rw [IntKind.wrap_u64]; omega
theorem and15 (u : Nat) (hu : u < 4294967296) : bits BinOp.and IntKind.u64 (u : Int) 15 = ((u % 16 : Nat) : Int) := by
  have h := bits_mask .u64 63 (by decide) wraps63 4 (by decide) (u : Int) (by omega) (by omega)
  have e : ((2 : Int) ^ 4 - 1) = 15 := by decide
  have e2 : ((2 : Int) ^ 4) = 16 := by decide
  rw [e, e2] at h
  rw [h]
  omega
abbrev dig36 : ByteArray := ⟨#[48, 49, 50, 51, 52, 53, 54, 55, 56, 57, 97, 98, 99, 100, 101, 102, 103, 104, 105, 106, 107, 108, 109, 110, 111, 112, 113, 114, 115, 116, 117, 118, 119, 120, 121, 122]⟩
theorem dig36_get (d : Nat) (h : d < 16) (h2 : d < dig36.size) : dig36[d]'h2 = hexd d := by
  have hd : d = 0 ∨ d = 1 ∨ d = 2 ∨ d = 3 ∨ d = 4 ∨ d = 5 ∨ d = 6 ∨ d = 7 ∨ d = 8 ∨ d = 9 ∨ d = 10 ∨ d = 11 ∨ d = 12 ∨ d = 13 ∨ d = 14 ∨ d = 15 := by omega
  rcases hd with rfl | rfl | rfl | rfl | rfl | rfl | rfl | rfl | rfl | rfl | rfl | rfl | rfl | rfl | rfl | rfl <;> rfl
theorem al65 : Tryz.prog.arrayLen 145 = 65 := by kernel_rfl
theorem el65 : Tryz.prog.elem 145 = 5 := by kernel_rfl
theorem un65 : Tryz.prog.underlying 145 = some (.array (Tryz.prog.arrayLen 145) (Tryz.prog.elem 145)) := by kernel_rfl
theorem slice65 (g l : Nat) (i : Int) (hi : i = l) (hl : l < 65) (w : World) :
    (Instr.sliceAt 145 (.pointer (some ⟨g, 0, none⟩)) (some (.int .i64 i)) none none).run Tryz.prog w = .ok (.slice (some ⟨g, l, none⟩) (65 - l) (65 - l)) w := by
  subst hi
  rw [run_sliceAt_array_l (P := Tryz.prog) w 145 ⟨g, 0, none⟩ un65 .i64 l (by omega) (by rw [al65]; omega), el65, al65]
  have hs : (sizeOf 5).run Tryz.prog w = .ok 1 w := by simp [Tryz.sizeOf5]
  rw [hs]
  simp only [Result.andThen_ok, slicedAt, Int.toNat_natCast, Nat.mul_one]
  rw [if_neg (by omega), show (⟨g, 0, none⟩ : Addr).add l = ⟨g, l, none⟩ by unfold Addr.add; split <;> simp_all]
theorem zeros65 : Tryz.zeroCells145 = (List.replicate 65 (Value.int .u8 0)).toArray := by kernel_rfl

/-- The row of 65 bytes behind r digits. -/
def hexRow (n r : Nat) : Nat → Value := fun j => if 65 - r ≤ j then .int .u8 ((hexd (n / 16 ^ (64 - j) % 16)).toNat : Int) else .int .u8 0

theorem hexRow_zero (n : Nat) : hexRow n 0 = fun j => if 65 ≤ j then .int .u8 ((hexd (n / 16 ^ (64 - j) % 16)).toNat : Int) else .int .u8 0 := rfl
theorem hexRow_step {n r : Nat} (hr : r ≤ 64) (i : Nat) (hi : i < 65) : (if i = 64 - r then Value.int .u8 ((hexd (n / 16 ^ r % 16)).toNat : Int) else hexRow n r i) = hexRow n (r + 1) i := by
  unfold hexRow
  by_cases h : i = 64 - r
  · subst h
    rw [if_pos rfl, if_pos (by omega), show 64 - (64 - r) = r by omega]
  · rw [if_neg h]
    by_cases h2 : 65 - r ≤ i
    · rw [if_pos h2, if_pos (by omega)]
    · rw [if_neg h2, if_neg (by omega)]

set_option maxRecDepth 8000 in
set_option maxHeartbeats 2000000 in
theorem formatBits16 (n : Nat) (hn : n < 4294967296) (w : World) (hT : Tz w) :
    Calls Tryz.prog 107 #[.slice none 0 0, .int .u64 n, .int .i64 16, .bool false, .bool false] w fun e w' => ∃ L, 1 ≤ L ∧ L ≤ 8 ∧ n < 16 ^ L ∧ e = .returned (.tuple #[.slice none 0 0, .string ⟨(hexN L n).toArray⟩]) ∧ Below w.heap.size w w' := by
  have hst := fun (a : Addr) (v : Int) (m : Mode) (w : World) => run_store Tryz.prog w a (.int .u8 v) m rfl
  go_enter Tryz.func107, Tryz.ntmps107
  go_wp2_with (first | (go_at_call 125; refine (pw16 _).mono ?_; rintro e w' ⟨rfl, rfl⟩) | (go_at_call 126; refine (tz16 _ (hT.stays ((Below.refl _ _).alloc (Nat.le_refl _) _) (Nat.le_refl _))).mono ?_; rintro e w' ⟨rfl, rfl⟩))
  go_loopw [1, 13] (fun U I wr => ∃ r u : Nat, r ≤ 7 ∧ u < 4294967296 ∧ U = .int .u64 u ∧ I = .int .i64 (65 - (r : Int)) ∧ Hid (u = n / 16 ^ r) ∧ Hid (wr.rowIs w.heap.size 145 65 (hexRow n r)) ∧ Hid (Below w.heap.size w wr)) (fun U _ _ => (intOf U).toNat)
  case atStart =>
    refine ⟨0, n, by omega, hn, rfl, rfl, by simp [Hid], Lib.hid ?_, Lib.hid ((Below.refl _ _).alloc (Nat.le_refl _) _)⟩
    rw [zeros65]
    refine World.rowIs_alloc w _ _ _ (fun i hi => ?_)
    have hi : i < 65 := by simpa using hi
    rw [hexRow_zero]
    simp only
    rw [if_neg (by omega), List.getElem?_toArray, List.getElem?_replicate, if_pos hi]
  case round =>
    obtain ⟨r, u, hr, hu, rfl, rfl, Hu, Hr, Hw⟩ := hrel
    have c1 := Hr.out.cell (i := 65 - r - 1) (by omega)
    have c3 := Hr.out.frozen (65 - r - 1)
    have hc : hexRow n r (65 - r - 1) = .int .u8 0 := if_neg (by omega)
    rw [hc] at c1
    clear hc
    by_cases hge : 16 ≤ u
    · have d1 : decide (16 ≤ (u : Int)) = true := by simp; omega
      have hand := and15 u hu
      have hdg := dig36_get (u % 16) (Nat.mod_lt _ (by decide)) (by show u % 16 < 36; omega)
      have Hs := Lib.hid (Hr.out.set (65 - r - 1) (.int .u8 ((hexd (u % 16)).toNat : Int)))
      have Hb := Lib.hid (Hw.out.setCell (p := ⟨w.heap.size, 65 - r - 1, none⟩) (Nat.le_refl _) (.int .u8 ((hexd (u % 16)).toNat : Int)))
      go_wp2
      go_roundw
      case rel =>
        refine ⟨r + 1, u / 16, ?_, by omega, by go_num, by go_num, ?_, Lib.hid ?_, Lib.hid ?_⟩
        · have h7 := Hu.out
          have hne : r ≠ 7 := by
            intro e
            subst e
            have e7 : (16 : Nat) ^ 7 = 268435456 := by decide
            rw [e7] at h7
            omega
          omega
        · exact Lib.hid (by rw [Hu.out, Nat.pow_succ, ← Nat.div_div_eq_div_mul])
        · refine Hs.out.congr fun i hi => ?_
          have e := hexRow_step (n := n) (r := r) (by omega) i hi
          rw [← e, Hu.out, show 65 - r - 1 = 64 - r by omega]
        · exact Hb.out
      case measure => simp [intOf]; omega
    · have d1 : decide (16 ≤ (u : Int)) = false := by simp; omega
      have hdg := dig36_get u (by omega) (by show u < 36; omega)
      have Hs := Lib.hid (Hr.out.set (65 - r - 1) (.int .u8 ((hexd u).toNat : Int)))
      have Hb := Lib.hid (Hw.out.setCell (p := ⟨w.heap.size, 65 - r - 1, none⟩) (Nat.le_refl _) (.int .u8 ((hexd u).toNat : Int)))
      have hsl := slice65 w.heap.size (65 - r - 1) (65 - (r : Int) - 1) (by omega) (by omega)
      have hlen : 65 - (65 - r - 1) = (hexN (r + 1) n).length := by rw [hexN_len]; omega
      have hconv := fun cap => run_convert_bytes_back (P := Tryz.prog) (wr.setCell ⟨w.heap.size, 65 - r - 1, none⟩ (.int .u8 ((hexd u).toNat : Int))) 22 9 5 ⟨w.heap.size, 65 - r - 1, none⟩ cap (hexN (r + 1) n) Tryz.underlying22 Tryz.underlying5 Tryz.underlying9 (fun j hj => by
        have hj2 : j < r + 1 := by rw [hexN_len] at hj; exact hj
        have ea : (⟨w.heap.size, 65 - r - 1, none⟩ : Addr).add j = ⟨w.heap.size, 65 - r - 1 + j, none⟩ := by unfold Addr.add; split <;> simp_all
        rw [ea, Hs.out.cell (i := 65 - r - 1 + j) (by omega)]
        have e := hexRow_step (n := n) (r := r) (by omega) (65 - r - 1 + j) (by omega)
        have eu : u = n / 16 ^ r % 16 := by rw [← Hu.out, Nat.mod_eq_of_lt (by omega)]
        rw [← eu, show 64 - r = 65 - r - 1 by omega] at e
        rw [e]
        unfold hexRow
        rw [if_pos (by omega), hexN_get hj2, show 64 - (65 - r - 1 + j) = r + 1 - 1 - j by omega])
      go_wp2
      go_ret2
      refine ⟨r + 1, by omega, by omega, ?_, rfl, Hb.out⟩
      have hd := Hu.out
      have hlt : n / 16 ^ r < 16 := by omega
      rw [Nat.pow_succ, Nat.mul_comm]
      exact (Nat.div_lt_iff_lt_mul (Nat.pow_pos (by decide))).1 hlt

theorem formatInt16 (n : Nat) (hn : n < 4294967296) (w : World) (hT : Tz w) :
    Calls Tryz.prog 81 #[.int .i64 n, .int .i64 16] w fun e w' => ∃ L, 1 ≤ L ∧ L ≤ 8 ∧ n < 16 ^ L ∧ e = .returned (.string ⟨(hexN L n).toArray⟩) ∧ Below w.heap.size w w' := by
  have d0 : decide ((n : Int) < 0) = false := by simp
  go_enter Tryz.func81, Tryz.ntmps81
  go_wp2_with (first | (go_at_call 95; go_in) | (go_at_call 107; refine (formatBits16 n hn _ hT).mono ?_; rintro e w' ⟨L, hL1, hL8, hnL, rfl, hb⟩; have Hb := Lib.hid hb; have HL := Lib.hid hnL; clear hb hnL))
  go_ret
  exact ⟨L, hL1, hL8, HL.out, rfl, Hb.out⟩
end Go.Proofs.YtcjkcoibeieeeaaGreatDoor
