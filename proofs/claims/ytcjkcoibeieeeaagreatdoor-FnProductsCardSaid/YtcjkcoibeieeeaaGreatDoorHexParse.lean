/-
  strconv.ParseUint at base 16 and 32 bits: the walk of the library's text. No theorem of a claim stands here.
-/
import Derived.Test.YtcjkcoibeieeeaaGreatDoorHexText
import Derived.Shelf.Strconv.Lower
import Derived.Lib.Strings
import Derived.Lib.Walk
import Derived.Lib.ConvBytes
import Derived.Lib.AtoiAllMem
import Derived.Lib.AtoiErrMem
import Derived.Lib.SmallJoins
import Derived.Laws.Strings3
import Derived.Laws.Closers25
import Derived.Laws.Closers25b
import Derived.BigCall
import Derived.BigGuard
set_option linter.unusedVariables false
namespace Go.Proofs.YtcjkcoibeieeeaaGreatDoor
open Go Go.RowKit Go.Proofs.YtcjkcoibeieeeaaGreatDoor.Fl

def lwI (c : UInt8) : Int := bits .or .u8 (c.toNat : Int) 32
/-- One digit as the library reads it, capitals too. -/
def digU (c : UInt8) : Option Nat := if 48 ≤ c.toNat ∧ c.toNat ≤ 57 then some (c.toNat - 48) else if 97 ≤ lwI c ∧ lwI c ≤ 102 then some (lwI c - 87).toNat else none
def puL (a : Nat) : List UInt8 → Option Nat
  | [] => some a
  | c :: r => match digU c with
    | some d => if 4294967295 < a * 16 + d then none else puL (a * 16 + d) r
    | none => none
def pu (l : List UInt8) : Option Nat := if l = [] then none else puL 0 l

theorem digU_hexd : ∀ d : Nat, d < 16 → digU (hexd d) = some d := by decide +kernel
theorem puL_hexN : ∀ (k n a : Nat), a * 16 ^ k + n % 16 ^ k < 4294967296 → puL a (hexN k n) = some (a * 16 ^ k + n % 16 ^ k)
  | 0, n, a, _ => by simp [hexN, puL, Nat.mod_one]
  | k + 1, n, a, h => by
    have e : n % 16 ^ (k + 1) = n / 16 ^ k % 16 * 16 ^ k + n % 16 ^ k := by
      rw [Nat.pow_succ, Nat.mod_mul, Nat.mul_comm]; omega
    rw [e, Nat.pow_succ] at h ⊢
    rw [hexN_head, puL, digU_hexd _ (Nat.mod_lt _ (by decide))]
    simp only
    have e2 : a * (16 ^ k * 16) + (n / 16 ^ k % 16 * 16 ^ k + n % 16 ^ k) = (a * 16 + n / 16 ^ k % 16) * 16 ^ k + n % 16 ^ k := by
      rw [Nat.add_mul, Nat.mul_assoc, Nat.mul_comm 16 (16 ^ k)]; omega
    rw [e2] at h ⊢
    have hp : 1 ≤ 16 ^ k := Nat.one_le_pow _ _ (by decide)
    have hle : a * 16 + n / 16 ^ k % 16 ≤ (a * 16 + n / 16 ^ k % 16) * 16 ^ k := Nat.le_mul_of_pos_right _ hp
    rw [if_neg (by omega), puL_hexN k n _ h]
theorem pu_hex8 (n : Nat) (h : n < 4294967296) : pu (hexN 8 n) = some n := by
  unfold pu
  rw [if_neg (fun e => by have := hexN_len 8 n; rw [e] at this; simp at this)]
  have e : n % 16 ^ 8 = n := Nat.mod_eq_of_lt h
  have := puL_hexN 8 n 0 (by rw [e]; omega)
  rw [this, e]; simp
theorem puL_lt : ∀ (l : List UInt8) (a u : Nat), a < 4294967296 → puL a l = some u → u < 4294967296
  | [], a, u, ha, h => by simp [puL] at h; omega
  | c :: r, a, u, ha, h => by
    rw [puL] at h
    cases hd : digU c with
    | none => rw [hd] at h; cases h
    | some d =>
      rw [hd] at h
      simp only at h
      split at h
      · cases h
      · exact puL_lt r _ u (by omega) h
theorem pu_lt {l : List UInt8} {u : Nat} (h : pu l = some u) : u < 4294967296 := by
  unfold pu at h
  split at h
  · cases h
  · exact puL_lt l 0 u (by decide) h

/-- How the parse ends. -/
def ParseEnd (l : List UInt8) (e : Ending) : Prop :=
  (∃ u : Nat, puL 0 l = some u ∧ e = .returned (.tuple #[.int .u64 u, .nilIface])) ∨ (puL 0 l = none ∧ ∃ x c : Int, (c = 1 ∨ c = 2) ∧ e = .returned (.tuple #[.int .u64 x, .iface 133 (.int .i64 c)]))
theorem ParseEnd.good {l : List UInt8} {u : Nat} (h : puL 0 l = some u) : ParseEnd l (.returned (.tuple #[.int .u64 u, .nilIface])) := .inl ⟨u, h, rfl⟩
theorem ParseEnd.far {l : List UInt8} (h : puL 0 l = none) (x : Int) : ParseEnd l (.returned (.tuple #[.int .u64 x, .iface 133 (.int .i64 1)])) := .inr ⟨h, x, 1, .inl rfl, rfl⟩
theorem ParseEnd.bad {l : List UInt8} (h : puL 0 l = none) (x : Int) : ParseEnd l (.returned (.tuple #[.int .u64 x, .iface 133 (.int .i64 2)])) := .inr ⟨h, x, 2, .inr rfl, rfl⟩

set_option maxRecDepth 8000 in
set_option maxHeartbeats 4000000 in
theorem parse16 (t : ByteArray) (hne : t.size ≠ 0) (hmax : t.size ≤ 1048576) (w : World) :
    Calls Tryz.prog 100 #[.string t, .int .i64 16, .int .i64 32] w fun e w' => ParseEnd t.data.toList e ∧ Below w.heap.size w w' := by
  have hemp : t.toList.isEmpty = false := by
    rw [← decide_eq_emptyBytes]
    exact decide_eq_false (fun h => hne (by rw [h]; rfl))
  have hcv := Lib.run_convert_string_bytes (P := Tryz.prog) w 9 22 5 t (u := .string) Tryz.underlying9 Tryz.underlying22 Tryz.underlying5
  have hB : ∀ j, j < t.size → (Lib.bytesWorld w 5 t).cell? ⟨w.heap.size, j, none⟩ = some (.int .u8 (t.data.toList.getD j 0).toNat) := fun j hj => Lib.bytesWorld_cell w 5 t j hj
  have Hbel := Lib.hid (Lib.bytesWorld_below w 5 t)
  obtain ⟨W1, hW1⟩ : ∃ W1, W1 = Lib.bytesWorld w 5 t := ⟨_, rfl⟩
  rw [← hW1] at hcv hB Hbel
  clear hW1
  obtain ⟨bs, hL⟩ : ∃ bs, bs = t.data.toList := ⟨_, rfl⟩
  have hLn : bs.length = t.size := by rw [hL, Lib.size_eq]
  rw [← hL] at hB ⊢
  clear hL
  have hmv : IntKind.u64.wrap (IntKind.u64.wrap 4294967296 - 1) = 4294967295 := by
    rw [IntKind.wrap_u64, IntKind.wrap_u64]
    decide
  go_enter Tryz.func100, Tryz.ntmps100
  go_wp2
  go_loop [12, 13, 101] (fun vu vn vi => ∃ (k acc : Nat) (a : Int), vu = .bool false ∧ vn = .int .u64 a ∧ vi = .int .i64 k ∧ k ≤ t.size ∧ Hid (a = (acc : Int) ∧ acc < 4294967296 ∧ puL 0 bs = puL acc (bs.drop k)))
    (fun _ _ vi => t.size - (intOf vi).toNat)
  case atStart => exact ⟨0, 0, 0, rfl, rfl, rfl, by omega, rfl, by omega, rfl⟩
  case round =>
    obtain ⟨k, acc, a, rfl, rfl, rfl, hk, hh⟩ := hrel
    obtain ⟨ha, hacc, hdec⟩ := hh.out
    clear hh
    have a0 : 0 ≤ a := by omega
    have a1 : a < 4294967296 := by omega
    by_cases hkn : k < t.size
    · have hc := hB k hkn
      have hdrop : bs.drop k = bs[k]'(by omega) :: bs.drop (k + 1) := List.drop_eq_getElem_cons (by omega)
      have hget : bs.getD k 0 = bs[k]'(by omega) := by simp [List.getD, List.getElem?_eq_getElem (show k < bs.length by omega)]
      rw [hdrop] at hdec
      rw [hget] at hc
      generalize bs[k]'(by omega) = c at hc hdec
      have hc256 : c.toNat < 256 := c.toNat_lt
      clear hB hdrop hget
      rw [puL] at hdec
      by_cases hdig : 48 ≤ c.toNat ∧ c.toNat ≤ 57
      · have hd : digU c = some (c.toNat - 48) := if_pos hdig
        rw [hd] at hdec
        simp only at hdec
        obtain ⟨hd0, hd1⟩ := hdig
        by_cases hov : 4294967295 < acc * 16 + (c.toNat - 48)
        · rw [if_pos hov] at hdec
          have Hd := Lib.hid hdec
          have iov : 4294967295 < a * 16 + ((c.toNat : Int) - 48) := by omega
          clear hacc hov ha hdec hd
          go_wp2
          go_ret2
          exact ⟨ParseEnd.far Hd.out _, Hbel.out⟩
        · rw [if_neg hov] at hdec
          have HN : Hid (a * 16 + ((c.toNat : Int) - 48) = ((acc * 16 + (c.toNat - 48) : Nat) : Int) ∧ acc * 16 + (c.toNat - 48) < 4294967296 ∧ puL 0 bs = puL (acc * 16 + (c.toNat - 48)) (bs.drop (k + 1))) := Lib.hid ⟨by omega, by omega, hdec⟩
          have iov : a * 16 + ((c.toNat : Int) - 48) ≤ 4294967295 := by omega
          clear hacc hov hdec ha hd
          go_wp2
          refine ⟨⟨k + 1, acc * 16 + (c.toNat - 48), a * 16 + ((c.toNat : Int) - 48), rfl, (by first | rfl | (congr 1; omega)), (by first | rfl | (congr 1; omega)), by omega, HN⟩, by simp [intOf]; omega⟩
      · have hv0 := bits_lo_u8 .or (c.toNat : Int) 32
        have hv1 := bits_hi_u8 .or (c.toNat : Int) 32
        have hly : lwI c = bits .or .u8 (c.toNat : Int) 32 := rfl
        by_cases hlet : 97 ≤ bits .or .u8 (c.toNat : Int) 32 ∧ bits .or .u8 (c.toNat : Int) 32 ≤ 102
        · have hd : digU c = some (bits .or .u8 (c.toNat : Int) 32 - 87).toNat := by unfold digU; rw [if_neg hdig, hly, if_pos hlet]
          have hn95 : c.toNat ≠ 95 := by
            intro e
            rw [e] at hlet
            have e2 : bits .or .u8 ((95 : Nat) : Int) 32 = 127 := by decide +kernel
            rw [e2] at hlet
            omega
          have h95 : ((c.toNat : Int) == 95) = false := by rw [beq_eq_false_iff_ne]; omega
          rw [hd] at hdec
          simp only at hdec
          obtain ⟨hy0, hy1⟩ := hlet
          by_cases hov : 4294967295 < acc * 16 + (bits .or .u8 (c.toNat : Int) 32 - 87).toNat
          · rw [if_pos hov] at hdec
            have Hd := Lib.hid hdec
            have iov : 4294967295 < a * 16 + (bits .or .u8 (c.toNat : Int) 32 - 97 + 10) := by omega
            clear hacc hov ha hdec hd hdig hly
            go_wp2_with (go_at_call 114; refine (Tryz.internal_strconv_lower _ _).mono ?_; rintro e w' ⟨rfl, rfl⟩)
            all_goals go_ret2
            all_goals exact ⟨ParseEnd.far Hd.out _, Hbel.out⟩
          · rw [if_neg hov] at hdec
            have HN : Hid (a * 16 + (bits .or .u8 (c.toNat : Int) 32 - 97 + 10) = ((acc * 16 + (bits .or .u8 (c.toNat : Int) 32 - 87).toNat : Nat) : Int) ∧ acc * 16 + (bits .or .u8 (c.toNat : Int) 32 - 87).toNat < 4294967296 ∧ puL 0 bs = puL (acc * 16 + (bits .or .u8 (c.toNat : Int) 32 - 87).toNat) (bs.drop (k + 1))) := Lib.hid ⟨by omega, by omega, hdec⟩
            have iov : a * 16 + (bits .or .u8 (c.toNat : Int) 32 - 97 + 10) ≤ 4294967295 := by omega
            clear hacc hov hdec ha hd hly
            go_wp2_with (go_at_call 114; refine (Tryz.internal_strconv_lower _ _).mono ?_; rintro e w' ⟨rfl, rfl⟩)
            all_goals first | (exfalso; omega) | refine ⟨⟨k + 1, acc * 16 + (bits .or .u8 (c.toNat : Int) 32 - 87).toNat, a * 16 + (bits .or .u8 (c.toNat : Int) 32 - 97 + 10), rfl, (by first | rfl | (congr 1; omega)), (by first | rfl | (congr 1; omega)), by omega, HN⟩, by simp [intOf]; omega⟩
        · have hd : digU c = none := by unfold digU; rw [if_neg hdig, hly, if_neg hlet]
          rw [hd] at hdec
          have Hd := Lib.hid (show puL 0 bs = none from hdec)
          have hu0 := bits_lo_u8 .or 95 32
          have hu1 := bits_hi_u8 .or 95 32
          clear hacc ha hdec hd hly
          go_wp2_with (go_at_call 114; refine (Tryz.internal_strconv_lower _ _).mono ?_; rintro e w' ⟨rfl, rfl⟩)
          all_goals first | (go_ret2; exact ⟨ParseEnd.bad Hd.out _, Hbel.out⟩) | (exfalso; omega)
    · have hkk : k = t.size := by omega
      subst hkk
      rw [List.drop_eq_nil_of_le (by omega)] at hdec
      have Hd := Lib.hid (show puL 0 bs = some acc from hdec)
      subst ha
      clear hacc a0 a1 hdec
      go_wp2
      go_ret2
      exact ⟨ParseEnd.good Hd.out, Hbel.out⟩

theorem toErr_cell {w : World} {n : String} {g : Nat} {tp : TypeId} {p : Value} (hg : Tryz.prog.globalNamed n = some g) (h : w.var? Tryz.prog n = some #[.iface tp p]) : w.cell? ⟨g, 0, none⟩ = some (.iface tp p) := by
  have h0 := World.var?_cell hg h 0
  simpa using h0
theorem gSyn : Tryz.prog.globalNamed "strconv.ErrSyntax" = some 2 := by kernel_rfl
theorem gRng : Tryz.prog.globalNamed "strconv.ErrRange" = some 3 := by kernel_rfl
/-- What a row's list gives of the library's variables. -/
structure VarsH (w : World) : Prop where
  tz : Tz w
  syn : ∃ tp p, w.var? Tryz.prog "strconv.ErrSyntax" = some #[.iface tp p]
  rng : ∃ tp p, w.var? Tryz.prog "strconv.ErrRange" = some #[.iface tp p]
theorem VarsH.stays {w w' : World} {B : Nat} (h : VarsH w) (hb : Below B w w') (hB : w.heap.size ≤ B) : VarsH w' := by
  obtain ⟨t1, p1, e1⟩ := h.syn
  obtain ⟨t2, p2, e2⟩ := h.rng
  exact ⟨h.tz.stays hb hB, ⟨t1, p1, Go.Joins.var_stays gSyn e1 hb hB⟩, ⟨t2, p2, Go.Joins.var_stays gRng e2 hb hB⟩⟩
end Go.Proofs.YtcjkcoibeieeeaaGreatDoor
