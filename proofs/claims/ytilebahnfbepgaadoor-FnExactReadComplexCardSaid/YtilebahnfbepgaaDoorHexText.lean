/-
  The 8 hexadecimal digits of a number: in the model and in the program. No theorem of a claim stands here.
-/
import Derived.Test.YtilebahnfbepgaaDoorHexFmt
import Derived.Test.YtilebahnfbepgaaDoorBits
import Derived.Test.YtilebahnfbepgaaDoorCv
import Derived.Laws.AppendOwn
import Derived.Laws.Concat
set_option linter.unusedVariables false
namespace Go.Proofs.YtilebahnfbepgaaDoor
open Go Go.RowKit Go.Deep Go.Proofs.YtilebahnfbepgaaDoor.Fl

def bitsN (x : Option Nat) : Nat := match x with | none => 2143289344 | some b => b
theorem bitsV_eq (x : Option Nat) : bitsV x = (bitsN x : Int) := by cases x <;> rfl
theorem bitsN_lt {b : Nat} (hb : b < 2 ^ 32) : bitsN (vl .f32 b) < 4294967296 := by
  cases h : vl .f32 b with
  | none => decide
  | some c => obtain rfl := vl_some h; exact hb
def hexT (b : Nat) : List UInt8 := hexN 8 (bitsN (vl .f32 b))
theorem hexT_len (b : Nat) : (hexT b).length = 8 := hexN_len _ _

theorem repeat_zero' : ∀ c : Nat, Lib.repeatL [48] c = List.replicate c 48
  | 0 => rfl
  | c + 1 => by rw [Lib.repeatL, repeat_zero' c, List.replicate_succ]; rfl
theorem repeat_zero (c : Nat) : Lib.repeatL (ByteArray.mk #[48]).data.toList c = List.replicate c 48 := repeat_zero' c

theorem bytes_ap (a b : List UInt8) : (⟨a.toArray⟩ : ByteArray) ++ ⟨b.toArray⟩ = ⟨(a ++ b).toArray⟩ := by
  apply ByteArray.ext
  simp

theorem numberText_any (b : Nat) (hb : b < 2 ^ 32) (w : World) (hT : Tz w) :
    Calls Tryd.prog 26 #[.float .f32 b] w fun e w' => e = .returned (.tuple #[.string ⟨(hexT b).toArray⟩, .bool true]) ∧ Below w.heap.size w w' := by
  have hB := bitsOf_any b hb w
  rw [bitsV_eq] at hB
  have hm := bitsN_lt hb
  have Hx := Lib.hid (show hexT b = hexN 8 (bitsN (vl .f32 b)) from rfl)
  generalize bitsN (vl .f32 b) = m at hB hm Hx
  have hF := fun w' (h : Tz w') => formatInt16 m hm w' h
  go_enter Tryd.func26, Tryd.ntmps26
  go_wp2_with fail
  refine hB.mono ?_
  rintro e w' ⟨k, rfl, rfl⟩
  go_wp2_with fail
  refine (hF _ (hT.stays (below_drawn w k) (Nat.le_refl _))).mono ?_
  rintro e w1 ⟨L, hL1, hL8, hmL, rfl, hb1⟩
  have B1 := Lib.hid ((below_drawn w k).trans hb1 : Below w.heap.size w w1)
  clear hb1
  have hlen : (hexN L m).length = L := hexN_len _ _
  obtain ⟨c, hc⟩ : ∃ c : Nat, c = 8 - L := ⟨_, rfl⟩
  have e8 : ((8 : Int) - (L : Int)) = (c : Int) := by omega
  have hR := fun w => Tryd.strings_Repeat ⟨#[48]⟩ c w (by omega) (by show 1 * c ≤ _; omega)
  rw [repeat_zero] at hR
  have happ := bytes_ap (List.replicate c 48) (hexN L m)
  rw [hexN_pad c L m hmL, show c + L = 8 by omega] at happ
  have hrl : (List.replicate c (48 : UInt8)).length = c := List.length_replicate ..
  have hc8 : c ≤ 8 := by omega
  clear hc
  generalize List.replicate c (48 : UInt8) = z at hR happ hrl
  generalize hexN L m = y at hlen happ
  go_wp2_with (go_at_call 38; refine (hR _).mono ?_; rintro e w2 ⟨rfl, hb2⟩; have B2 := Lib.hid (B1.out.trans (hb2.mono B1.out.size)); clear hb2)
  go_ret2
  exact ⟨by rw [Hx.out]; rfl, B2.out⟩

def bvals (l : List UInt8) : List Value := l.map fun b => Value.int .u8 (b.toNat : Int)
theorem bvals_app (l r : List UInt8) : bvals (l ++ r) = bvals l ++ bvals r := by simp [bvals]
theorem infoB : (Tryd.prog.info? 5).map (fun i => (i.zero, i.size, i.bytes)) = some (some (.int .u8 0), 1, 1) := by kernel_rfl
theorem form_ownB {w : World} {base n : Nat} {e : TypeId} {v : Value} {xs : List Value} (h : w.ownsRow base e 1 v (n + 1) xs) : ∃ g cap, v = .slice (some ⟨g, 0, none⟩) (n + 1) cap ∧ base ≤ g ∧ g < w.heap.size := by
  rcases h.2 with ⟨_, h⟩ | ⟨g, cap, cur, h, hb, hg, hc, _⟩
  · omega
  · exact ⟨g, cap, h, hb, (Array.getElem?_eq_some_iff.1 hg).1⟩
theorem cell_newrowB (w : World) (v : Value) (t : TypeId) : ∀ j u, [v][j]? = some u → (w.alloc (.cells #[v] t)).cell? ((⟨w.heap.size, 0, none⟩ : Addr).add j) = some u := by
  intro j u hu
  have hj : j = 0 := by
    cases j with
    | zero => rfl
    | succ j => simp at hu
  subst hj
  simp at hu
  subst hu
  rw [add_none, Nat.zero_add, World.cell?_alloc_new]
  rfl
theorem byte_one (n : Int) : ∀ u ∈ [Value.int .u8 n], u.oneCell' = true := by
  intro u hu
  simp at hu
  subst hu
  rfl
theorem wrapsI63 (n : Int) (h₀ : 0 ≤ n) (h₁ : n < 2 ^ 63) : IntKind.i64.wrap n = n := by rw [IntKind.wrap_i64]; omega
theorem and15i (x : Int) (h0 : 0 ≤ x) (h1 : x ≤ 4294967296) : bits BinOp.and IntKind.i64 x 15 = x % 16 := by
  have h := bits_mask .i64 63 (by decide) wrapsI63 4 (by decide) x h0 (by omega)
  have e : ((2 : Int) ^ 4 - 1) = 15 := by decide
  have e2 : ((2 : Int) ^ 4) = 16 := by decide
  rw [e, e2] at h
  exact h
abbrev dig16 : ByteArray := ⟨#[48, 49, 50, 51, 52, 53, 54, 55, 56, 57, 97, 98, 99, 100, 101, 102]⟩
theorem dig16_get (d : Nat) (h : d < 16) (h2 : d < dig16.size) : dig16[d]'h2 = hexd d := by
  have hd : d = 0 ∨ d = 1 ∨ d = 2 ∨ d = 3 ∨ d = 4 ∨ d = 5 ∨ d = 6 ∨ d = 7 ∨ d = 8 ∨ d = 9 ∨ d = 10 ∨ d = 11 ∨ d = 12 ∨ d = 13 ∨ d = 14 ∨ d = 15 := by omega
  rcases hd with rfl | rfl | rfl | rfl | rfl | rfl | rfl | rfl | rfl | rfl | rfl | rfl | rfl | rfl | rfl | rfl <;> rfl
theorem hex8_take (m j : Nat) (h : j < 8) : bvals ((hexN 8 m).take (j + 1)) = bvals ((hexN 8 m).take j) ++ [.int .u8 ((hexd (m / 16 ^ (7 - j) % 16)).toNat : Int)] := by
  have hl : j < (hexN 8 m).length := by rw [hexN_len]; exact h
  rw [List.take_succ_eq_append_getElem hl, bvals_app, hexN_get h]
  rfl

set_option maxRecDepth 8000 in
set_option maxHeartbeats 4000000 in
theorem l01Hex_any (b : Nat) (hb : b < 2 ^ 32) (w : World) :
    Calls Tryd.prog 34 #[.float .f32 b] w fun e w' => e = .returned (.string ⟨(hexT b).toArray⟩) ∧ Below w.heap.size w w' := by
  have hB := l01Bits_any b hb w
  rw [bitsV_eq] at hB
  have hm := bitsN_lt hb
  have Hx := Lib.hid (show hexT b = hexN 8 (bitsN (vl .f32 b)) from rfl)
  generalize bitsN (vl .f32 b) = m at hB hm Hx
  obtain ⟨i0, hi, hz0, hz1, hz2⟩ := info_parts infoB
  go_enter Tryd.func34, Tryd.ntmps34
  go_wp2_with fail
  refine hB.mono ?_
  rintro e w' ⟨k, rfl, rfl⟩
  go_wp2_with fail
  go_loopw [4, 5] (fun O K wr => ∃ j g c : Nat, j ≤ 8 ∧ K = .int .i64 (28 - 4 * (j : Int)) ∧ O = .slice (some ⟨g, 0, none⟩) j c ∧ w.heap.size ≤ g ∧ g < wr.heap.size ∧
    Hid (wr.ownsRow w.heap.size 5 1 (.slice (some ⟨g, 0, none⟩) j c) j (bvals ((hexN 8 m).take j))) ∧ Hid (Below w.heap.size w wr)) (fun _ K _ => (intOf K + 4).toNat)
  case atStart =>
    refine ⟨0, w.heap.size, 0, by omega, rfl, rfl, Nat.le_refl _, by simp [World.drewN], Lib.hid ?_, Lib.hid ((below_drawn w k).alloc (Nat.le_refl _) _)⟩
    exact ⟨rfl, .inr ⟨w.heap.size, 0, #[], rfl, Nat.le_refl _, by show (w.heap.push _)[w.heap.size]? = _; simp, Nat.le_refl _, by simp [maxLen], rfl, rfl⟩⟩
  case round =>
    obtain ⟨j, g, c, hj, rfl, rfl, hg0, hgs, Ho, Hw⟩ := hrel
    have hcases : j = 0 ∨ j = 1 ∨ j = 2 ∨ j = 3 ∨ j = 4 ∨ j = 5 ∨ j = 6 ∨ j = 7 ∨ j = 8 := by omega
    rcases hcases with rfl | rfl | rfl | rfl | rfl | rfl | rfl | rfl | rfl
    · obtain ⟨d, hd⟩ : ∃ d : Nat, d = m / 268435456 % 16 := ⟨_, rfl⟩
      have hd16 : d < 16 := by omega
      have hand : bits BinOp.and IntKind.i64 ((m : Int) / 268435456) 15 = (d : Int) := by rw [and15i _ (by omega) (by omega)]; omega
      have hdg := dig16_get d hd16 (by show d < 16; exact hd16)
      have Hs := Lib.hid (show bvals ((hexN 8 m).take (0 + 1)) = bvals ((hexN 8 m).take 0) ++ bvals [hexd d] by rw [hex8_take m 0 (by omega), show m / 16 ^ (7 - 0) % 16 = d by rw [hd]]; rfl)
      clear hd
      go_wp2_with (at_builtin; refine wpList_append_own _ rfl (.tmp 13) (.tmp 20) 69 rfl w.heap.size 5 i0 (.int .u8 0) 1 1 Tryd.underlying69 hi hz0 hz1 hz2 rfl (by decide) (.slice (some ⟨g, 0, none⟩) 0 c) 0 _ rfl (Ho.out.alloc _) ⟨wr.heap.size, 0, none⟩ 1 1 [.int .u8 ((hexd d).toNat : Int)] rfl (by simp) (cell_newrowB _ _ _) (byte_one _) (by unfold maxLen; omega) (by omega) (by have := Hw.out.size; simp; omega) ?_; intro v' w3 hown' hgrow3 hnil3; obtain ⟨g', c', rfl, hg0', hgs'⟩ := form_ownB hown'; have Hb3 := Lib.hid ((Hw.out.alloc Hw.out.size _).grown hgrow3 (by have := Hw.out.size; simp; omega) (by intro x hx; simp [Value.ownBlock] at hx; omega)); have Ho3 := Lib.hid hown'; clear hown' hgrow3 hnil3)
      go_roundw
      case rel => exact ⟨1, g', c', by omega, by simp, rfl, hg0', hgs', Lib.hid (by rw [Hs.out]; exact Ho3.out), Hb3⟩
      case measure => simp [intOf]
    · obtain ⟨d, hd⟩ : ∃ d : Nat, d = m / 16777216 % 16 := ⟨_, rfl⟩
      have hd16 : d < 16 := by omega
      have hand : bits BinOp.and IntKind.i64 ((m : Int) / 16777216) 15 = (d : Int) := by rw [and15i _ (by omega) (by omega)]; omega
      have hdg := dig16_get d hd16 (by show d < 16; exact hd16)
      have Hs := Lib.hid (show bvals ((hexN 8 m).take (1 + 1)) = bvals ((hexN 8 m).take 1) ++ bvals [hexd d] by rw [hex8_take m 1 (by omega), show m / 16 ^ (7 - 1) % 16 = d by rw [hd]]; rfl)
      clear hd
      go_wp2_with (at_builtin; refine wpList_append_own _ rfl (.tmp 13) (.tmp 20) 69 rfl w.heap.size 5 i0 (.int .u8 0) 1 1 Tryd.underlying69 hi hz0 hz1 hz2 rfl (by decide) (.slice (some ⟨g, 0, none⟩) 1 c) 1 _ rfl (Ho.out.alloc _) ⟨wr.heap.size, 0, none⟩ 1 1 [.int .u8 ((hexd d).toNat : Int)] rfl (by simp) (cell_newrowB _ _ _) (byte_one _) (by unfold maxLen; omega) (by omega) (by have := Hw.out.size; simp; omega) ?_; intro v' w3 hown' hgrow3 hnil3; obtain ⟨g', c', rfl, hg0', hgs'⟩ := form_ownB hown'; have Hb3 := Lib.hid ((Hw.out.alloc Hw.out.size _).grown hgrow3 (by have := Hw.out.size; simp; omega) (by intro x hx; simp [Value.ownBlock] at hx; omega)); have Ho3 := Lib.hid hown'; clear hown' hgrow3 hnil3)
      go_roundw
      case rel => exact ⟨2, g', c', by omega, by simp, rfl, hg0', hgs', Lib.hid (by rw [Hs.out]; exact Ho3.out), Hb3⟩
      case measure => simp [intOf]
    · obtain ⟨d, hd⟩ : ∃ d : Nat, d = m / 1048576 % 16 := ⟨_, rfl⟩
      have hd16 : d < 16 := by omega
      have hand : bits BinOp.and IntKind.i64 ((m : Int) / 1048576) 15 = (d : Int) := by rw [and15i _ (by omega) (by omega)]; omega
      have hdg := dig16_get d hd16 (by show d < 16; exact hd16)
      have Hs := Lib.hid (show bvals ((hexN 8 m).take (2 + 1)) = bvals ((hexN 8 m).take 2) ++ bvals [hexd d] by rw [hex8_take m 2 (by omega), show m / 16 ^ (7 - 2) % 16 = d by rw [hd]]; rfl)
      clear hd
      go_wp2_with (at_builtin; refine wpList_append_own _ rfl (.tmp 13) (.tmp 20) 69 rfl w.heap.size 5 i0 (.int .u8 0) 1 1 Tryd.underlying69 hi hz0 hz1 hz2 rfl (by decide) (.slice (some ⟨g, 0, none⟩) 2 c) 2 _ rfl (Ho.out.alloc _) ⟨wr.heap.size, 0, none⟩ 1 1 [.int .u8 ((hexd d).toNat : Int)] rfl (by simp) (cell_newrowB _ _ _) (byte_one _) (by unfold maxLen; omega) (by omega) (by have := Hw.out.size; simp; omega) ?_; intro v' w3 hown' hgrow3 hnil3; obtain ⟨g', c', rfl, hg0', hgs'⟩ := form_ownB hown'; have Hb3 := Lib.hid ((Hw.out.alloc Hw.out.size _).grown hgrow3 (by have := Hw.out.size; simp; omega) (by intro x hx; simp [Value.ownBlock] at hx; omega)); have Ho3 := Lib.hid hown'; clear hown' hgrow3 hnil3)
      go_roundw
      case rel => exact ⟨3, g', c', by omega, by simp, rfl, hg0', hgs', Lib.hid (by rw [Hs.out]; exact Ho3.out), Hb3⟩
      case measure => simp [intOf]
    · obtain ⟨d, hd⟩ : ∃ d : Nat, d = m / 65536 % 16 := ⟨_, rfl⟩
      have hd16 : d < 16 := by omega
      have hand : bits BinOp.and IntKind.i64 ((m : Int) / 65536) 15 = (d : Int) := by rw [and15i _ (by omega) (by omega)]; omega
      have hdg := dig16_get d hd16 (by show d < 16; exact hd16)
      have Hs := Lib.hid (show bvals ((hexN 8 m).take (3 + 1)) = bvals ((hexN 8 m).take 3) ++ bvals [hexd d] by rw [hex8_take m 3 (by omega), show m / 16 ^ (7 - 3) % 16 = d by rw [hd]]; rfl)
      clear hd
      go_wp2_with (at_builtin; refine wpList_append_own _ rfl (.tmp 13) (.tmp 20) 69 rfl w.heap.size 5 i0 (.int .u8 0) 1 1 Tryd.underlying69 hi hz0 hz1 hz2 rfl (by decide) (.slice (some ⟨g, 0, none⟩) 3 c) 3 _ rfl (Ho.out.alloc _) ⟨wr.heap.size, 0, none⟩ 1 1 [.int .u8 ((hexd d).toNat : Int)] rfl (by simp) (cell_newrowB _ _ _) (byte_one _) (by unfold maxLen; omega) (by omega) (by have := Hw.out.size; simp; omega) ?_; intro v' w3 hown' hgrow3 hnil3; obtain ⟨g', c', rfl, hg0', hgs'⟩ := form_ownB hown'; have Hb3 := Lib.hid ((Hw.out.alloc Hw.out.size _).grown hgrow3 (by have := Hw.out.size; simp; omega) (by intro x hx; simp [Value.ownBlock] at hx; omega)); have Ho3 := Lib.hid hown'; clear hown' hgrow3 hnil3)
      go_roundw
      case rel => exact ⟨4, g', c', by omega, by simp, rfl, hg0', hgs', Lib.hid (by rw [Hs.out]; exact Ho3.out), Hb3⟩
      case measure => simp [intOf]
    · obtain ⟨d, hd⟩ : ∃ d : Nat, d = m / 4096 % 16 := ⟨_, rfl⟩
      have hd16 : d < 16 := by omega
      have hand : bits BinOp.and IntKind.i64 ((m : Int) / 4096) 15 = (d : Int) := by rw [and15i _ (by omega) (by omega)]; omega
      have hdg := dig16_get d hd16 (by show d < 16; exact hd16)
      have Hs := Lib.hid (show bvals ((hexN 8 m).take (4 + 1)) = bvals ((hexN 8 m).take 4) ++ bvals [hexd d] by rw [hex8_take m 4 (by omega), show m / 16 ^ (7 - 4) % 16 = d by rw [hd]]; rfl)
      clear hd
      go_wp2_with (at_builtin; refine wpList_append_own _ rfl (.tmp 13) (.tmp 20) 69 rfl w.heap.size 5 i0 (.int .u8 0) 1 1 Tryd.underlying69 hi hz0 hz1 hz2 rfl (by decide) (.slice (some ⟨g, 0, none⟩) 4 c) 4 _ rfl (Ho.out.alloc _) ⟨wr.heap.size, 0, none⟩ 1 1 [.int .u8 ((hexd d).toNat : Int)] rfl (by simp) (cell_newrowB _ _ _) (byte_one _) (by unfold maxLen; omega) (by omega) (by have := Hw.out.size; simp; omega) ?_; intro v' w3 hown' hgrow3 hnil3; obtain ⟨g', c', rfl, hg0', hgs'⟩ := form_ownB hown'; have Hb3 := Lib.hid ((Hw.out.alloc Hw.out.size _).grown hgrow3 (by have := Hw.out.size; simp; omega) (by intro x hx; simp [Value.ownBlock] at hx; omega)); have Ho3 := Lib.hid hown'; clear hown' hgrow3 hnil3)
      go_roundw
      case rel => exact ⟨5, g', c', by omega, by simp, rfl, hg0', hgs', Lib.hid (by rw [Hs.out]; exact Ho3.out), Hb3⟩
      case measure => simp [intOf]
    · obtain ⟨d, hd⟩ : ∃ d : Nat, d = m / 256 % 16 := ⟨_, rfl⟩
      have hd16 : d < 16 := by omega
      have hand : bits BinOp.and IntKind.i64 ((m : Int) / 256) 15 = (d : Int) := by rw [and15i _ (by omega) (by omega)]; omega
      have hdg := dig16_get d hd16 (by show d < 16; exact hd16)
      have Hs := Lib.hid (show bvals ((hexN 8 m).take (5 + 1)) = bvals ((hexN 8 m).take 5) ++ bvals [hexd d] by rw [hex8_take m 5 (by omega), show m / 16 ^ (7 - 5) % 16 = d by rw [hd]]; rfl)
      clear hd
      go_wp2_with (at_builtin; refine wpList_append_own _ rfl (.tmp 13) (.tmp 20) 69 rfl w.heap.size 5 i0 (.int .u8 0) 1 1 Tryd.underlying69 hi hz0 hz1 hz2 rfl (by decide) (.slice (some ⟨g, 0, none⟩) 5 c) 5 _ rfl (Ho.out.alloc _) ⟨wr.heap.size, 0, none⟩ 1 1 [.int .u8 ((hexd d).toNat : Int)] rfl (by simp) (cell_newrowB _ _ _) (byte_one _) (by unfold maxLen; omega) (by omega) (by have := Hw.out.size; simp; omega) ?_; intro v' w3 hown' hgrow3 hnil3; obtain ⟨g', c', rfl, hg0', hgs'⟩ := form_ownB hown'; have Hb3 := Lib.hid ((Hw.out.alloc Hw.out.size _).grown hgrow3 (by have := Hw.out.size; simp; omega) (by intro x hx; simp [Value.ownBlock] at hx; omega)); have Ho3 := Lib.hid hown'; clear hown' hgrow3 hnil3)
      go_roundw
      case rel => exact ⟨6, g', c', by omega, by simp, rfl, hg0', hgs', Lib.hid (by rw [Hs.out]; exact Ho3.out), Hb3⟩
      case measure => simp [intOf]
    · obtain ⟨d, hd⟩ : ∃ d : Nat, d = m / 16 % 16 := ⟨_, rfl⟩
      have hd16 : d < 16 := by omega
      have hand : bits BinOp.and IntKind.i64 ((m : Int) / 16) 15 = (d : Int) := by rw [and15i _ (by omega) (by omega)]; omega
      have hdg := dig16_get d hd16 (by show d < 16; exact hd16)
      have Hs := Lib.hid (show bvals ((hexN 8 m).take (6 + 1)) = bvals ((hexN 8 m).take 6) ++ bvals [hexd d] by rw [hex8_take m 6 (by omega), show m / 16 ^ (7 - 6) % 16 = d by rw [hd]]; rfl)
      clear hd
      go_wp2_with (at_builtin; refine wpList_append_own _ rfl (.tmp 13) (.tmp 20) 69 rfl w.heap.size 5 i0 (.int .u8 0) 1 1 Tryd.underlying69 hi hz0 hz1 hz2 rfl (by decide) (.slice (some ⟨g, 0, none⟩) 6 c) 6 _ rfl (Ho.out.alloc _) ⟨wr.heap.size, 0, none⟩ 1 1 [.int .u8 ((hexd d).toNat : Int)] rfl (by simp) (cell_newrowB _ _ _) (byte_one _) (by unfold maxLen; omega) (by omega) (by have := Hw.out.size; simp; omega) ?_; intro v' w3 hown' hgrow3 hnil3; obtain ⟨g', c', rfl, hg0', hgs'⟩ := form_ownB hown'; have Hb3 := Lib.hid ((Hw.out.alloc Hw.out.size _).grown hgrow3 (by have := Hw.out.size; simp; omega) (by intro x hx; simp [Value.ownBlock] at hx; omega)); have Ho3 := Lib.hid hown'; clear hown' hgrow3 hnil3)
      go_roundw
      case rel => exact ⟨7, g', c', by omega, by simp, rfl, hg0', hgs', Lib.hid (by rw [Hs.out]; exact Ho3.out), Hb3⟩
      case measure => simp [intOf]
    · obtain ⟨d, hd⟩ : ∃ d : Nat, d = m % 16 := ⟨_, rfl⟩
      have hd16 : d < 16 := by omega
      have hand : bits BinOp.and IntKind.i64 (m : Int) 15 = (d : Int) := by rw [and15i _ (by omega) (by omega)]; omega
      have hdg := dig16_get d hd16 (by show d < 16; exact hd16)
      have Hs := Lib.hid (show bvals ((hexN 8 m).take (7 + 1)) = bvals ((hexN 8 m).take 7) ++ bvals [hexd d] by rw [hex8_take m 7 (by omega), show m / 16 ^ (7 - 7) % 16 = d by rw [hd, Nat.pow_zero, Nat.div_one]]; rfl)
      clear hd
      go_wp2_with (at_builtin; refine wpList_append_own _ rfl (.tmp 13) (.tmp 20) 69 rfl w.heap.size 5 i0 (.int .u8 0) 1 1 Tryd.underlying69 hi hz0 hz1 hz2 rfl (by decide) (.slice (some ⟨g, 0, none⟩) 7 c) 7 _ rfl (Ho.out.alloc _) ⟨wr.heap.size, 0, none⟩ 1 1 [.int .u8 ((hexd d).toNat : Int)] rfl (by simp) (cell_newrowB _ _ _) (byte_one _) (by unfold maxLen; omega) (by omega) (by have := Hw.out.size; simp; omega) ?_; intro v' w3 hown' hgrow3 hnil3; obtain ⟨g', c', rfl, hg0', hgs'⟩ := form_ownB hown'; have Hb3 := Lib.hid ((Hw.out.alloc Hw.out.size _).grown hgrow3 (by have := Hw.out.size; simp; omega) (by intro x hx; simp [Value.ownBlock] at hx; omega)); have Ho3 := Lib.hid hown'; clear hown' hgrow3 hnil3)
      go_roundw
      case rel => exact ⟨8, g', c', by omega, by simp, rfl, hg0', hgs', Lib.hid (by rw [Hs.out]; exact Ho3.out), Hb3⟩
      case measure => simp [intOf]
    · have htk : (hexN 8 m).take 8 = hexN 8 m := List.take_of_length_le (by rw [hexN_len]; exact Nat.le_refl _)
      have Hconv := fun (cap : Nat) => run_convert_bytes_back (P := Tryd.prog) wr 69 9 5 ⟨g, 0, none⟩ cap (hexN 8 m) Tryd.underlying69 Tryd.underlying5 Tryd.underlying9 (fun j hj => by
        refine Ho.out.cells (g := g) rfl j _ ?_
        rw [htk]
        unfold bvals
        rw [List.getElem?_map, List.getElem?_eq_getElem hj]
        rfl)
      rw [hexN_len] at Hconv
      go_wp2
      go_ret
      exact ⟨by rw [Hx.out]; rfl, Hw.out⟩
end Go.Proofs.YtilebahnfbepgaaDoor
