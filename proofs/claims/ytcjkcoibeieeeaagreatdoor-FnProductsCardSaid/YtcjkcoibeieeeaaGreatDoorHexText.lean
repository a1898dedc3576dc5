/-
  The 8 hexadecimal digits of a number: in the model and in the program. No theorem of a claim stands here.
-/
import Derived.Test.YtcjkcoibeieeeaaGreatDoorHexFmt
import Derived.Test.YtcjkcoibeieeeaaGreatDoorBits
import Derived.Test.YtcjkcoibeieeeaaGreatDoorCv
import Derived.Laws.AppendOwn
import Derived.Laws.Concat
set_option linter.unusedVariables false
namespace Go.Proofs.YtcjkcoibeieeeaaGreatDoor
open Go Go.RowKit Go.Deep Go.Proofs.YtcjkcoibeieeeaaGreatDoor.Fl

def bitsN (x : Option Nat) : Nat := match x with | none => 2143289344 | some b => b
theorem bitsV_eq (x : Option Nat) : bitsV x = (bitsN x : Int) := by cases x <;> rfl
theorem bitsN_lt {b : Nat} (hb : b < 2 ^ 32) : bitsN (vl .f32 b) < 4294967296 := by
  cases h : vl .f32 b with
  | none => decide
  | some c => obtain rfl := vl_some h; exact hb
def hexT (b : Nat) : List UInt8 := hexN 8 (bitsN (vl .f32 b))
theorem hexT_len (b : Nat) : (hexT b).length = 8 := hexN_len _ _

theorem repeat_zero' : ∀ c : Nat, Lib.repeatL [48] c = List.replicate c 48
  | 0 => rfl
  | c + 1 => by rw [Lib.repeatL, repeat_zero' c, List.replicate_succ]; rfl
theorem repeat_zero (c : Nat) : Lib.repeatL (ByteArray.mk #[48]).data.toList c = List.replicate c 48 := repeat_zero' c

theorem bytes_ap (a b : List UInt8) : (⟨a.toArray⟩ : ByteArray) ++ ⟨b.toArray⟩ = ⟨(a ++ b).toArray⟩ := by
  apply ByteArray.ext
  simp

theorem numberText_any (b : Nat) (hb : b < 2 ^ 32) (w : World) (hT : Tz w) :
    Calls Tryz.prog 50 #[.float .f32 b] w fun e w' => e = .returned (.tuple #[.string ⟨(hexT b).toArray⟩, .bool true]) ∧ Below w.heap.size w w' := by
  have hB := bitsOf_any b hb w
  rw [bitsV_eq] at hB
  have hm := bitsN_lt hb
  have Hx := Lib.hid (show hexT b = hexN 8 (bitsN (vl .f32 b)) from rfl)
  generalize bitsN (vl .f32 b) = m at hB hm Hx
  have hF := fun w' (h : Tz w') => formatInt16 m hm w' h
  go_enter Tryz.func50, Tryz.ntmps50
  go_wp2_with fail
  refine hB.mono ?_
  rintro e w' ⟨k, rfl, rfl⟩
  go_wp2_with fail
  refine (hF _ (hT.stays (below_drawn w k) (Nat.le_refl _))).mono ?_
  rintro e w1 ⟨L, hL1, hL8, hmL, rfl, hb1⟩
  have B1 := Lib.hid ((below_drawn w k).trans hb1 : Below w.heap.size w w1)
  clear hb1
  have hlen : (hexN L m).length = L := hexN_len _ _
  obtain ⟨c, hc⟩ : ∃ c : Nat, c = 8 - L := ⟨_, rfl⟩
  have e8 : ((8 : Int) - (L : Int)) = (c : Int) := by omega
  have hR := fun w => Tryz.strings_Repeat ⟨#[48]⟩ c w (by omega) (by show 1 * c ≤ _; omega)
  rw [repeat_zero] at hR
  have happ := bytes_ap (List.replicate c 48) (hexN L m)
  rw [hexN_pad c L m hmL, show c + L = 8 by omega] at happ
  have hrl : (List.replicate c (48 : UInt8)).length = c := List.length_replicate ..
  have hc8 : c ≤ 8 := by omega
  clear hc
  generalize List.replicate c (48 : UInt8) = z at hR happ hrl
  generalize hexN L m = y at hlen happ
  go_wp2_with (go_at_call 82; refine (hR _).mono ?_; rintro e w2 ⟨rfl, hb2⟩; have B2 := Lib.hid (B1.out.trans (hb2.mono B1.out.size)); clear hb2)
  go_ret2
  exact ⟨by rw [Hx.out]; rfl, B2.out⟩

def bvals (l : List UInt8) : List Value := l.map fun b => Value.int .u8 (b.toNat : Int)
theorem bvals_app (l r : List UInt8) : bvals (l ++ r) = bvals l ++ bvals r := by simp [bvals]
theorem infoB : (Tryz.prog.info? 5).map (fun i => (i.zero, i.size, i.bytes)) = some (some (.int .u8 0), 1, 1) := by kernel_rfl
theorem form_ownB {w : World} {base n : Nat} {e : TypeId} {v : Value} {xs : List Value} (h : w.ownsRow base e 1 v (n + 1) xs) : ∃ g cap, v = .slice (some ⟨g, 0, none⟩) (n + 1) cap ∧ base ≤ g ∧ g < w.heap.size := by
  rcases h.2 with ⟨_, h⟩ | ⟨g, cap, cur, h, hb, hg, hc, _⟩
  · omega
  · exact ⟨g, cap, h, hb, (Array.getElem?_eq_some_iff.1 hg).1⟩
theorem cell_newrowB (w : World) (v : Value) (t : TypeId) : ∀ j u, [v][j]? = some u → (w.alloc (.cells #[v] t)).cell? ((⟨w.heap.size, 0, none⟩ : Addr).add j) = some u := by
  intro j u hu
  have hj : j = 0 := by
    cases j with
    | zero => rfl
    | succ j => simp at hu
  subst hj
  simp at hu
  subst hu
  rw [add_none, Nat.zero_add, World.cell?_alloc_new]
  rfl
theorem byte_one (n : Int) : ∀ u ∈ [Value.int .u8 n], u.oneCell' = true := by
  intro u hu
  simp at hu
  subst hu
  rfl
theorem wrapsI63 (n : Int) (h₀ : 0 ≤ n) (h₁ : n < 2 ^ 63) : IntKind.i64.wrap n = n := by rw [IntKind.wrap_i64]; omega
theorem and15i (x : Int) (h0 : 0 ≤ x) (h1 : x ≤ 4294967296) : bits BinOp.and IntKind.i64 x 15 = x % 16 := by
  have h := bits_mask .i64 63 (by decide) wrapsI63 4 (by decide) x h0 (by omega)
  have e : ((2 : Int) ^ 4 - 1) = 15 := by decide
  have e2 : ((2 : Int) ^ 4) = 16 := by decide
  rw [e, e2] at h
  exact h
abbrev dig16 : ByteArray := ⟨#[48, 49, 50, 51, 52, 53, 54, 55, 56, 57, 97, 98, 99, 100, 101, 102]⟩
theorem dig16_get (d : Nat) (h : d < 16) (h2 : d < dig16.size) : dig16[d]'h2 = hexd d := by
  have hd : d = 0 ∨ d = 1 ∨ d = 2 ∨ d = 3 ∨ d = 4 ∨ d = 5 ∨ d = 6 ∨ d = 7 ∨ d = 8 ∨ d = 9 ∨ d = 10 ∨ d = 11 ∨ d = 12 ∨ d = 13 ∨ d = 14 ∨ d = 15 := by omega
  rcases hd with rfl | rfl | rfl | rfl | rfl | rfl | rfl | rfl | rfl | rfl | rfl | rfl | rfl | rfl | rfl | rfl <;> rfl
theorem hex8_take (m j : Nat) (h : j < 8) : bvals ((hexN 8 m).take (j + 1)) = bvals ((hexN 8 m).take j) ++ [.int .u8 ((hexd (m / 16 ^ (7 - j) % 16)).toNat : Int)] := by
  have hl : j < (hexN 8 m).length := by rw [hexN_len]; exact h
  rw [List.take_succ_eq_append_getElem hl, bvals_app, hexN_get h]
  rfl

end Go.Proofs.YtcjkcoibeieeeaaGreatDoor
