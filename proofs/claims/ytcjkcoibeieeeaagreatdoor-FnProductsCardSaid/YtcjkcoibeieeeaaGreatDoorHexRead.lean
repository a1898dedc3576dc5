/-
  The reading of 8 hexadecimal digits: in the program and in the model. No theorem of a claim stands here.
-/
import Derived.Test.YtcjkcoibeieeeaaGreatDoorHexParse
import Derived.Laws.Strings
set_option linter.unusedVariables false
namespace Go.Proofs.YtcjkcoibeieeeaaGreatDoor
open Go Go.RowKit Go.Proofs.YtcjkcoibeieeeaaGreatDoor.Fl

/-- The number whose text is l. -/
def readNum (l : List UInt8) : Option Nat := if l.length = 8 then (hexRead 0 l).bind fun n => if bitsN (vl .f32 n) = n then some n else none else none
def resNum : Option Nat → Value
  | some n => .tuple #[.float .f32 n, .bool true]
  | none => .tuple #[.float .f32 0, .bool false]

theorem readNum_some {l : List UInt8} {n : Nat} (h : readNum l = some n) : n < 4294967296 ∧ hexN 8 n = l ∧ bitsN (vl .f32 n) = n := by
  unfold readNum at h
  split at h
  · rename_i hl
    obtain ⟨m, hm, h2⟩ := Option.bind_eq_some_iff.1 h
    split at h2
    · rename_i hb
      injection h2 with h2
      subst h2
      obtain ⟨h3, h4⟩ := hexRead_eight hl hm
      exact ⟨h3, h4, hb⟩
    · cases h2
  · cases h
theorem readNum_of {n : Nat} (h : n < 4294967296) (hb : bitsN (vl .f32 n) = n) : readNum (hexN 8 n) = some n := by
  unfold readNum
  rw [if_pos (hexN_len 8 n), hexRead_all 8 n h]
  simp [hb]
/-- By what the library reads. -/
theorem readNum_pu {l : List UInt8} {u : Nat} (h : pu l = some u) : readNum l = if hexN 8 (bitsN (vl .f32 u)) = l then some u else none := by
  have hu := pu_lt h
  by_cases hc : hexN 8 (bitsN (vl .f32 u)) = l
  · rw [if_pos hc]
    have hb : bitsN (vl .f32 u) < 4294967296 := bitsN_lt (by omega)
    have h2 := pu_hex8 _ hb
    rw [hc, h] at h2
    injection h2 with h2
    rw [← hc, ← h2]
    exact readNum_of hu h2.symm
  · rw [if_neg hc]
    cases hr : readNum l with
    | none => rfl
    | some n =>
      obtain ⟨h1, h2, h3⟩ := readNum_some hr
      rw [← h2, pu_hex8 n h1] at h
      injection h with h
      subst h
      exact absurd (by rw [h3]; exact h2) hc
theorem readNum_no {l : List UInt8} (h : pu l = none) : readNum l = none := by
  cases hr : readNum l with
  | none => rfl
  | some n =>
    obtain ⟨h1, h2, h3⟩ := readNum_some hr
    rw [← h2, pu_hex8 n h1] at h
    cases h

set_option maxRecDepth 8000 in
theorem parse16_empty (w : World) :
    Calls Tryz.prog 100 #[.string ⟨#[]⟩, .int .i64 16, .int .i64 32] w fun e w' => e = .returned (.tuple #[.int .u64 0, .iface 133 (.int .i64 2)]) ∧ w' = w := by
  go_enter Tryz.func100, Tryz.ntmps100
  go_wp2
  go_ret2
  exact ⟨rfl, rfl⟩
/-- strconv.ParseUint itself. -/
theorem parsePublic (s : ByteArray) (hs : s.size ≤ 1048576) (w : World) (hv : VarsH w) :
    Calls Tryz.prog 84 #[.string s, .int .i64 16, .int .i64 32] w fun e w' => ((∃ u : Nat, pu s.data.toList = some u ∧ e = .returned (.tuple #[.int .u64 u, .nilIface])) ∨ (pu s.data.toList = none ∧ ∃ (x : Int) (tp : TypeId) (p : Value), e = .returned (.tuple #[.int .u64 x, .iface tp p]))) ∧ Below w.heap.size w w' := by
  by_cases h0 : s.size = 0
  · have hsl : s.data.toList = [] := by
      rw [← List.length_eq_zero_iff, Array.length_toList]; exact h0
    have hp : pu s.data.toList = none := by unfold pu; rw [if_pos hsl]
    have hemp : s = ⟨#[]⟩ := by
      apply ByteArray.ext
      apply Array.ext'
      rw [hsl]
    obtain ⟨tp, p, e1⟩ := hv.syn
    have hc := toErr_cell gSyn e1
    have Hp := Lib.hid hp
    have hE := fun w' (h : Below w.heap.size w w') => Tryz.strconv_toError_syntax ⟨#[80, 97, 114, 115, 101, 85, 105, 110, 116]⟩ s 16 32 (.iface tp p) w' (by omega) ((h.cell (show (⟨2, 0, none⟩ : Addr).block < w.heap.size from World.block_lt_of_cell? w _ hc)).trans hc) (Or.inr ⟨_, _, rfl⟩)
    subst hemp
    clear hsl hp h0
    go_enter Tryz.func84, Tryz.ntmps84
    go_wp2_with (first | (go_at_call 100; refine (parse16_empty _).mono ?_; rintro e w' ⟨rfl, rfl⟩) | (go_at_call 101; refine (hE _ (Below.refl _ _)).mono ?_; rintro e w' ⟨N, rfl, -, -, hb⟩; have Hb := Lib.hid hb; clear hb))
    go_ret2
    exact ⟨.inr ⟨Hp.out, _, _, _, rfl⟩, Hb.out⟩
  · have hpu : pu s.data.toList = puL 0 s.data.toList := by
      unfold pu
      rw [if_neg (fun e => h0 (by have h := congrArg List.length e; rw [Array.length_toList] at h; exact h))]
    rw [hpu]
    have hP := parse16 s h0 hs w
    obtain ⟨tp, p, e1⟩ := hv.syn
    obtain ⟨tp2, p2, e2⟩ := hv.rng
    have hc := toErr_cell gSyn e1
    have hc2 := toErr_cell gRng e2
    have hE := fun w' (h : Below w.heap.size w w') => Tryz.strconv_toError_syntax ⟨#[80, 97, 114, 115, 101, 85, 105, 110, 116]⟩ s 16 32 (.iface tp p) w' (by omega) ((h.cell (show (⟨2, 0, none⟩ : Addr).block < w.heap.size from World.block_lt_of_cell? w _ hc)).trans hc) (Or.inr ⟨_, _, rfl⟩)
    have hE2 := fun w' (h : Below w.heap.size w w') => Tryz.strconv_toError_range ⟨#[80, 97, 114, 115, 101, 85, 105, 110, 116]⟩ s 16 32 (.iface tp2 p2) w' (by omega) ((h.cell (show (⟨3, 0, none⟩ : Addr).block < w.heap.size from World.block_lt_of_cell? w _ hc2)).trans hc2) (Or.inr ⟨_, _, rfl⟩)
    clear hpu
    go_enter Tryz.func84, Tryz.ntmps84
    go_wp2_with fail
    refine hP.mono ?_
    rintro e w1 ⟨he, hb⟩
    have Hb := Lib.hid hb
    clear hb
    rcases he with ⟨u, hu, rfl⟩ | ⟨hn, x, c, rfl | rfl, rfl⟩
    · have Hu := Lib.hid hu
      clear hu
      go_wp2
      go_ret2
      exact ⟨.inl ⟨u, Hu.out, rfl⟩, Hb.out⟩
    · have Hu := Lib.hid hn
      clear hn
      go_wp2_with (go_at_call 101; refine (hE2 _ Hb.out).mono ?_; rintro e w' ⟨N, rfl, -, -, hb⟩; have Hb2 := Lib.hid (Hb.out.trans (hb.mono Hb.out.size)); clear hb)
      go_ret2
      exact ⟨.inr ⟨Hu.out, _, _, _, rfl⟩, Hb2.out⟩
    · have Hu := Lib.hid hn
      clear hn
      go_wp2_with (go_at_call 101; refine (hE _ Hb.out).mono ?_; rintro e w' ⟨N, rfl, -, -, hb⟩; have Hb2 := Lib.hid (Hb.out.trans (hb.mono Hb.out.size)); clear hb)
      go_ret2
      exact ⟨.inr ⟨Hu.out, _, _, _, rfl⟩, Hb2.out⟩

theorem readNumber_any (s : ByteArray) (hs : s.size ≤ 1048576) (w : World) (hv : VarsH w) :
    Calls Tryz.prog 52 #[.string s] w fun e w' => e = .returned (resNum (readNum s.data.toList)) ∧ Below w.heap.size w w' := by
  have hP := parsePublic s hs w hv
  go_enter Tryz.func52, Tryz.ntmps52
  go_wp2_with fail
  refine hP.mono ?_
  rintro e w1 ⟨he, hb⟩
  have Hb := Lib.hid hb
  clear hb hP
  rcases he with ⟨u, hu, rfl⟩ | ⟨hn, x, tp, p, rfl⟩
  · have hlt := pu_lt hu
    have Hr := Lib.hid (readNum_pu hu)
    clear hu
    have hfb := run_f32frombits (u : Int)
    have hN := fun w' (h : Below w.heap.size w w') => numberText_any u (by omega) w' (hv.tz.stays h (Nat.le_refl _))
    have Hx := Lib.hid (show hexT u = hexN 8 (bitsN (vl .f32 u)) from rfl)
    rw [show hexN 8 (bitsN (vl .f32 u)) = hexT u from rfl] at Hr
    generalize hexT u = tx at hN Hr
    go_wp2_with (go_at_call 50; refine (hN _ Hb.out).mono ?_; rintro e w2 ⟨rfl, hb⟩; have Hb2 := Lib.hid (Hb.out.trans (hb.mono Hb.out.size)); clear hb)
    · rename_i ht
      go_ret2
      refine ⟨?_, Hb2.out⟩
      rw [Hr.out, if_neg (fun he => by rw [ByteArray.toList_eq, he] at ht; simp at ht)]; rfl
    · rename_i ht
      go_ret2
      refine ⟨?_, Hb2.out⟩
      rw [Hr.out, if_pos (by rw [ByteArray.toList_eq] at ht; simpa using ht)]; rfl
  · have Hr := Lib.hid (readNum_no hn)
    clear hn
    go_wp2
    go_ret2
    exact ⟨by rw [Hr.out]; rfl, Hb.out⟩
end Go.Proofs.YtcjkcoibeieeeaaGreatDoor
