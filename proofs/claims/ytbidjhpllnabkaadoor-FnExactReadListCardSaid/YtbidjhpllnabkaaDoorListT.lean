/-
  The text of a list, in the model and in the program. No theorem of a claim stands here.
-/
import Derived.Test.YtbidjhpllnabkaaDoorInts
import Derived.Test.YtbidjhpllnabkaaDoorDecVars
import Derived.Lib.Join
set_option linter.unusedVariables false
namespace Go.Proofs.YtbidjhpllnabkaaDoor
open Go Go.RowKit Go.Deep

def valOk (n : Int) : Bool := decide (-1000000000000000 ≤ n) && decide (n ≤ 1000000000000000)
def itemTexts (l : List Int) : List (List UInt8) := l.map Lib.itoa
def listTextOf (l : List Int) : List UInt8 := if l = [] then [110, 111, 110, 101] else Lib.join (itemTexts l) [44]
def listOk (l : List Int) : Bool := l.all valOk && decide (l.length ≤ 64)
def textRes (l : List Int) : ByteArray := if listOk l then ⟨(listTextOf l).toArray⟩ else ⟨#[]⟩

theorem getD_get {l : List Int} {k : Nat} (h : k < l.length) : l.getD k 0 = l[k] := by simp [List.getD, h]
theorem allOk_snoc {l : List Int} {k : Nat} (h : k < l.length) (ha : (l.take k).all valOk = true) (hc : valOk (l.getD k 0) = true) : (l.take (k + 1)).all valOk = true := by
  rw [List.take_succ_eq_append_getElem h, List.all_append, ha]
  rw [getD_get h] at hc
  simp [hc]
theorem allOk_bad {l : List Int} {k : Nat} (h : k < l.length) (hc : valOk (l.getD k 0) = false) : l.all valOk = false := by
  rw [getD_get h] at hc
  rw [List.all_eq_false]
  exact ⟨l[k], List.getElem_mem h, by simp [hc]⟩

theorem join_snoc {l : List Int} {k : Nat} (h0 : 0 < k) (h : k < l.length) : Lib.join (itemTexts (l.take (k + 1))) [44] = Lib.join (itemTexts (l.take k)) [44] ++ (44 :: Lib.itoa (l.getD k 0)) := by
  rw [getD_get h, List.take_succ_eq_append_getElem h]
  unfold itemTexts
  rw [List.map_append]
  cases hk : l.take k with
  | nil => have h2 := congrArg List.length hk; rw [List.length_take, List.length_nil] at h2; omega
  | cons x r =>
    simp only [List.map_cons, List.map_nil, List.cons_append]
    rw [Lib.join_cons, Lib.join_cons]
    simp [Lib.joinTail]

theorem l01List_any (w : World) (a : Option Addr) (len cap : Nat) (l : List Int) (ha : IRd w a len cap l) (hl : len ≤ 1048576) :
    Calls Tryd.prog 20 #[.slice a len cap] w fun e w' => e = .returned (.bool (listOk l)) ∧ w' = w := by
  have hlen := ha.1
  have Ha := Lib.hid ha
  clear ha
  go_enter Tryd.func20, Tryd.ntmps20
  go_wp2
  go_loop [3] (fun i => ∃ k : Nat, k ≤ len ∧ i = .int .i64 k ∧ Hid ((l.take k).all valOk = true)) (fun i => len - (intOf i).toNat)
  case atStart => exact ⟨0, Nat.zero_le _, rfl, by simp [Hid]⟩
  case round =>
    obtain ⟨k, hk, rfl, hall⟩ := hrel
    by_cases hlt : k < len
    · obtain ⟨b, o, rfl, hc, hbs⟩ := Ha.out.2.2.2.1 k hlt
      have hcap := Ha.out.2.1
      have Hs := Lib.hid (fun h => allOk_snoc (l := l) (k := k) (by omega) hall.out h)
      have Hx := Lib.hid (fun h => allOk_bad (l := l) (k := k) (by omega) h)
      generalize l.getD k 0 = v at hc Hs Hx
      clear hlen
      by_cases r1 : v < -1000000000000000
      · have d1 : decide (-1000000000000000 ≤ v) = false := by simp; omega
        have Hf := Lib.hid (show listOk l = false by unfold listOk; rw [Hx.out (by unfold valOk; rw [d1]; rfl)]; rfl)
        go_wp2_with (go_at_call 26; go_in)
        go_ret
        exact ⟨by rw [Hf.out]; rfl, rfl⟩
      · have d1 : decide (-1000000000000000 ≤ v) = true := by simp; omega
        by_cases r2 : 1000000000000000 < v
        · have d2 : decide (v ≤ 1000000000000000) = false := by simp; omega
          have Hf := Lib.hid (show listOk l = false by unfold listOk; rw [Hx.out (by unfold valOk; rw [d1, d2]; rfl)]; rfl)
          go_wp2_with (go_at_call 26; go_in)
          go_ret
          exact ⟨by rw [Hf.out]; rfl, rfl⟩
        · have d2 : decide (v ≤ 1000000000000000) = true := by simp; omega
          have Hf := Lib.hid (Hs.out (by unfold valOk; rw [d1, d2]; rfl))
          go_wp2_with (go_at_call 26; go_in)
          go_round
          case rel => exact ⟨k + 1, by omega, by go_num, Hf⟩
          case measure => simp [intOf]; omega
    · obtain rfl : k = len := by omega
      have Hf := Lib.hid (show listOk l = decide ((k : Int) ≤ 64) by
        have := hall.out
        rw [List.take_of_length_le (by omega)] at this
        unfold listOk
        rw [this, hlen, Bool.true_and]
        congr 1
        rw [eq_iff_iff]; omega)
      clear hlen
      go_wp2
      go_ret
      exact ⟨by rw [Hf.out]; rfl, rfl⟩

theorem bytes_app (a b : List UInt8) : (⟨a.toArray⟩ : ByteArray) ++ ⟨b.toArray⟩ = ⟨(a ++ b).toArray⟩ := by
  apply ByteArray.ext
  simp

theorem l01Text_any (w : World) (a : Option Addr) (len cap : Nat) (l : List Int) (ha : IRd w a len cap l) (hl : len ≤ 64) :
    Calls Tryd.prog 21 #[.slice a len cap] w fun e w' => e = .returned (.string ⟨(listTextOf l).toArray⟩) ∧ Below w.heap.size w w' := by
  have hlen := ha.1
  by_cases h0 : len = 0
  · subst h0
    have Hf := Lib.hid (show listTextOf l = [110, 111, 110, 101] by unfold listTextOf; rw [if_pos (List.length_eq_zero_iff.1 hlen)])
    clear hlen
    go_enter Tryd.func21, Tryd.ntmps21
    go_wp2
    go_ret
    exact ⟨by rw [Hf.out]; rfl, Below.refl _ _⟩
  have Ha := Lib.hid ha
  obtain ⟨b, o, rfl, hc, hbs⟩ := ha.2.2.2.1 0 (by omega)
  obtain ⟨b0, b1⟩ := ha.bound (k := 0) (by omega)
  have hcap := ha.2.1
  rw [Nat.add_zero] at hc
  have H1 := Lib.hid (show Lib.itoa (l.getD 0 0) = Lib.join (itemTexts (l.take 1)) [44] by
    rw [getD_get (by omega), List.take_succ_eq_append_getElem (by omega)]
    simp [itemTexts, Lib.join_one])
  have hne : ((len : Int) == 0) = false := by rw [beq_eq_false_iff_ne]; omega
  generalize l.getD 0 0 = v at hc b0 b1 H1
  clear ha hlen
  go_enter Tryd.func21, Tryd.ntmps21
  go_wp2_with (go_at_call 27; refine (l01Dec_any v b0 b1 _).mono ?_; rintro e w1 ⟨rfl, hb⟩; have Hb := Lib.hid hb; clear hb)
  go_loopw [3, 4] (fun s i wr => ∃ k : Nat, ∃ t : List UInt8, 1 ≤ k ∧ k ≤ len ∧ i = .int .i64 k ∧ s = .string ⟨t.toArray⟩ ∧ t.length ≤ 22 * k ∧ Hid (t = Lib.join (itemTexts (l.take k)) [44]) ∧ Hid (Below w.heap.size w wr)) (fun _ i _ => len - (intOf i).toNat)
  case atStart => exact ⟨1, _, Nat.le_refl _, by omega, rfl, rfl, by have := Lib.itoa_length_le v b0 b1; omega, H1, Hb⟩
  case round =>
    obtain ⟨k, t, hk1, hk, rfl, rfl, htl, Ht, Hw⟩ := hrel
    by_cases hlt : k < len
    · have hI := (Ha.out.stays Hw.out (Nat.le_refl _))
      obtain ⟨b', o', e', hc2, hbs2⟩ := hI.2.2.2.1 k hlt
      injection e' with e'
      injection e' with e1 e2
      subst e1 e2
      obtain ⟨g0, g1⟩ := hI.bound (k := k) hlt
      have Hs := Lib.hid (show t ++ (44 :: Lib.itoa (l.getD k 0)) = Lib.join (itemTexts (l.take (k + 1))) [44] by rw [Ht.out]; exact (join_snoc hk1 (by rw [Ha.out.1]; exact hlt)).symm)
      generalize l.getD k 0 = v2 at hc2 g0 g1 Hs
      have hil := Lib.itoa_length_le v2 g0 g1
      have htl2 : t.length ≤ 1408 := by omega
      have happ : (⟨t.toArray⟩ : ByteArray) ++ (⟨#[44]⟩ ++ ⟨(Lib.itoa v2).toArray⟩) = ⟨(t ++ (44 :: Lib.itoa v2)).toArray⟩ := by rw [show (⟨#[44]⟩ : ByteArray) = ⟨[44].toArray⟩ from rfl, bytes_app, bytes_app]; rfl
      clear hI
      go_wp2_with (go_at_call 27; refine (l01Dec_any v2 g0 g1 _).mono ?_; rintro e w2 ⟨rfl, hb⟩; have Hb2 := Lib.hid (Hw.out.trans (hb.mono Hw.out.size)); clear hb)
      go_roundw
      case rel => exact ⟨k + 1, t ++ (44 :: Lib.itoa v2), by omega, by omega, by go_num, rfl, by rw [List.length_append, List.length_cons]; omega, Hs, Hb2⟩
      case measure => simp [intOf]; omega
    · obtain rfl : k = len := by omega
      have Hf := Lib.hid (show listTextOf l = t by
        have := Ht.out
        rw [List.take_of_length_le (Nat.le_of_eq Ha.out.1)] at this
        unfold listTextOf
        rw [if_neg (fun h => by have := Ha.out.1; rw [h] at this; simp at this; omega), this])
      go_wp2
      go_ret
      exact ⟨by rw [Hf.out]; rfl, Hw.out⟩

theorem valueText_any (n : Int) (h0 : -9223372036854775808 ≤ n) (h1 : n ≤ 9223372036854775807) (w : World) (hv : TabOk w) :
    Calls Tryd.prog 23 #[.int .i64 n] w fun e w' => e = .returned (if valOk n then .tuple #[.string ⟨(Lib.itoa n).toArray⟩, .bool true] else .tuple #[.string ⟨#[]⟩, .bool false]) ∧ Below w.heap.size w w' := by
  by_cases r1 : n < -1000000000000000
  · have d1 : decide (-1000000000000000 ≤ n) = false := by simp; omega
    rw [if_neg (by unfold valOk; rw [d1]; simp)]
    go_enter Tryd.func23, Tryd.ntmps23
    go_wp2_with (go_at_call 18; go_in)
    go_ret2
    exact ⟨rfl, Below.refl _ _⟩
  · have d1 : decide (-1000000000000000 ≤ n) = true := by simp; omega
    by_cases r2 : 1000000000000000 < n
    · have d2 : decide (n ≤ 1000000000000000) = false := by simp; omega
      rw [if_neg (by unfold valOk; rw [d1, d2]; simp)]
      go_enter Tryd.func23, Tryd.ntmps23
      go_wp2_with (go_at_call 18; go_in)
      go_ret2
      exact ⟨rfl, Below.refl _ _⟩
    · have d2 : decide (n ≤ 1000000000000000) = true := by simp; omega
      rw [if_pos (by unfold valOk; rw [d1, d2]; rfl)]
      go_enter Tryd.func23, Tryd.ntmps23
      go_wp2_with (first | (go_at_call 18; go_in) | (go_at_call 19; refine (dec_of _ hv n h0 h1).mono ?_; rintro e W2 ⟨rfl, hb⟩; have Hb := Lib.hid hb; clear hb))
      go_ret2
      exact ⟨rfl, Hb.out⟩

theorem _root_.Go.World.ownsRow.below {w w' : World} {base g n c B : Nat} {e : TypeId} {xs : List Value} (h : w.ownsRow base e 1 (.slice (some ⟨g, 0, none⟩) n c) n xs) (hb : Below B w w') (hg : g < B) : w'.ownsRow base e 1 (.slice (some ⟨g, 0, none⟩) n c) n xs := by
  refine ⟨h.1, ?_⟩
  rcases h.2 with ⟨h, _⟩ | ⟨g', cap, cur, e1, h1, h2, h3⟩
  · cases h
  · have e2 : g' = g := by simp at e1; exact e1.1.symm
    exact .inr ⟨g', cap, cur, e1, h1, by rw [hb.block g' (by omega)]; exact h2, h3⟩
theorem infoS : (Tryd.prog.info? 9).map (fun i => (i.zero, i.size, i.bytes)) = some (some (.string ByteArray.empty), 1, 16) := by kernel_rfl
def strs (l : List Int) : List Value := l.map fun n => .string ⟨(Lib.itoa n).toArray⟩
theorem strs_snoc {l : List Int} {k : Nat} (h : k < l.length) : strs (l.take (k + 1)) = strs (l.take k) ++ [.string ⟨(Lib.itoa (l.getD k 0)).toArray⟩] := by
  rw [getD_get h, List.take_succ_eq_append_getElem h]; unfold strs; rw [List.map_append]; rfl
theorem form_own {w : World} {base n : Nat} {e : TypeId} {v : Value} {xs : List Value} (h : w.ownsRow base e 1 v (n + 1) xs) : ∃ g cap, v = .slice (some ⟨g, 0, none⟩) (n + 1) cap ∧ base ≤ g ∧ g < w.heap.size ∧ n + 1 ≤ cap := by
  rcases h.2 with ⟨_, h⟩ | ⟨g, cap, cur, h, hb, hg, hc, _⟩
  · omega
  · exact ⟨g, cap, h, hb, (Array.getElem?_eq_some_iff.1 hg).1, hc⟩
theorem cell_newrow (w : World) (v : Value) (t : TypeId) : ∀ j u, [v][j]? = some u → (w.alloc (.cells #[v] t)).cell? ((⟨w.heap.size, 0, none⟩ : Addr).add j) = some u := by
  intro j u hu
  have hj : j = 0 := by
    cases j with
    | zero => rfl
    | succ j => simp at hu
  subst hj
  simp at hu
  subst hu
  rw [iadd_none, Nat.zero_add, World.cell?_alloc_new]
  rfl
theorem str_one (b : ByteArray) : ∀ u ∈ [Value.string b], u.oneCell' = true := by
  intro u hu
  simp at hu
  subst hu
  rfl

def strList (l : List Int) : List ByteArray := l.map fun n => ⟨(Lib.itoa n).toArray⟩
theorem strList_len (l : List Int) : (strList l).length = l.length := by simp [strList]
theorem strList_map (l : List Int) : (strList l).map (·.data.toList) = itemTexts l := by
  unfold strList itemTexts
  rw [List.map_map]
  rfl
theorem join_len (l : List Int) (h : ∀ n ∈ l, -9223372036854775808 ≤ n ∧ n ≤ 9223372036854775807) : (Lib.join (itemTexts l) [44]).length ≤ 22 * l.length := by
  have key : ∀ r : List Int, (∀ n ∈ r, -9223372036854775808 ≤ n ∧ n ≤ 9223372036854775807) → (Lib.joinTail [44] (itemTexts r)).length ≤ 22 * r.length := by
    intro r
    induction r with
    | nil => intro _; simp [Lib.joinTail, itemTexts]
    | cons x r ih =>
      intro hr
      have h1 := ih fun n hn => hr n (List.mem_cons_of_mem _ hn)
      have h2 := Lib.itoa_length_le x (hr x (by simp)).1 (hr x (by simp)).2
      unfold Lib.joinTail itemTexts at h1 ⊢
      simp only [List.map_cons, List.flatten_cons, List.length_append, List.length_cons, List.length_nil]
      omega
  cases l with
  | nil => simp [itemTexts, Lib.join_nil]
  | cons x r =>
    have h1 := key r fun n hn => h n (List.mem_cons_of_mem _ hn)
    have h2 := Lib.itoa_length_le x (h x (by simp)).1 (h x (by simp)).2
    show (Lib.join (Lib.itoa x :: itemTexts r) [44]).length ≤ _
    rw [Lib.join_cons, List.length_append, List.length_cons]
    omega

set_option maxRecDepth 8000 in
set_option maxHeartbeats 2000000 in
theorem joinItems_any (w : World) (hv : TabOk w) (a : Option Addr) (len cap : Nat) (l : List Int) (ha : IRd w a len cap l) (hl : len ≤ 1048576) :
    Calls Tryd.prog 22 #[.slice a len cap, .int .i64 64, .func (.func 23) #[] #[]] w fun e w' => e = .returned (.tuple #[.string (textRes l), .bool (listOk l)]) ∧ Below w.heap.size w w' := by
  have hlen := ha.1
  by_cases hg : 64 < len
  · have d1 : decide (64 < (len : Int)) = true := by simp; omega
    have hk : listOk l = false := by unfold listOk; rw [hlen, decide_eq_false (by omega), Bool.and_false]
    have Hf := Lib.hid (show textRes l = ⟨#[]⟩ ∧ listOk l = false from ⟨if_neg (by rw [hk]; simp), hk⟩)
    clear hk
    clear hlen
    go_enter Tryd.func22, Tryd.ntmps22
    go_wp2
    go_ret2
    exact ⟨by rw [Hf.out.1, Hf.out.2]; rfl, Below.refl _ _⟩
  by_cases h0 : len = 0
  · subst h0
    obtain rfl := List.length_eq_zero_iff.1 hlen
    clear hlen
    go_enter Tryd.func22, Tryd.ntmps22
    go_wp2
    go_ret2
    exact ⟨rfl, Below.refl _ _⟩
  obtain ⟨i0, hi, hz0, hz1, hz2⟩ := info_parts infoS
  have d1 : decide (64 < (len : Int)) = false := by simp; omega
  have hne : ((len : Int) == 0) = false := by rw [beq_eq_false_iff_ne]; omega
  have hmk := run_make (P := Tryd.prog) w 47 9 i0 (.string ByteArray.empty) Tryd.underlying47 hi hz0 .i64 .i64 0 len (Int.le_refl _) (by omega) (by rw [hz2]; omega) (by omega)
  have Ha := Lib.hid ha
  clear ha hlen
  go_enter Tryd.func22, Tryd.ntmps22
  go_wp2
  go_loopw [8, 25] (fun O i wr => ∃ k g c : Nat, k ≤ len ∧ i = .int .i64 k ∧ O = .slice (some ⟨g, 0, none⟩) k c ∧ w.heap.size ≤ g ∧ g < wr.heap.size ∧
    Hid (wr.ownsRow w.heap.size 9 1 (.slice (some ⟨g, 0, none⟩) k c) k (strs (l.take k))) ∧ Hid (Below w.heap.size w wr) ∧ Hid ((l.take k).all valOk = true)) (fun _ i _ => len - (intOf i).toNat)
  case atStart =>
    refine ⟨0, w.heap.size, len, Nat.zero_le _, rfl, rfl, Nat.le_refl _, by simp, Lib.hid ?_, Lib.hid (below_al _ _), by simp [Hid]⟩
    have := World.ownsRow_made (w := w) (base := w.heap.size) (e := 9) (size := 1) (madeCells (Value.string ByteArray.empty).cells ((len : Int).toNat * i0.size)) len (Nat.le_refl _) (by unfold maxLen; omega) (by simp [madeCells, Value.cells, hz1])
    have e : madeCells (Value.string ByteArray.empty).cells ((len : Int).toNat * i0.size) = madeCells #[Value.string ByteArray.empty] len := by rw [hz1, Nat.mul_one]; rfl
    rw [e] at this
    simpa [strs, hz1] using this
  case round =>
    obtain ⟨k, g, c, hk, rfl, rfl, hg0, hgs, Ho, Hw, Hall⟩ := hrel
    by_cases hlt : k < len
    · have hI := (Ha.out.stays Hw.out (Nat.le_refl _))
      obtain ⟨b, o, rfl, hc2, hbs2⟩ := hI.2.2.2.1 k hlt
      have hcap := hI.2.1
      obtain ⟨g0, g1⟩ := hI.bound (k := k) hlt
      have hkl : k < l.length := by rw [Ha.out.1]; exact hlt
      have Hs := Lib.hid (strs_snoc hkl)
      have Hx := Lib.hid (fun h => allOk_bad hkl h)
      have Hy := Lib.hid (fun h => allOk_snoc hkl Hall.out h)
      generalize l.getD k 0 = v at hc2 g0 g1 Hs Hx Hy
      clear hI hkl
      cases hvo : valOk v with
      | false =>
        have hval := fun w' (hb : Below w.heap.size w w') => valueText_any v g0 g1 w' (hv.stays hb (Nat.le_refl _))
        simp only [hvo, Bool.false_eq_true, if_false] at hval
        have hk2 : listOk l = false := by unfold listOk; rw [Hx.out hvo]; simp
        have Hf := Lib.hid (show textRes l = ⟨#[]⟩ ∧ listOk l = false from ⟨if_neg (by rw [hk2]; simp), hk2⟩)
        clear hk2
        clear hvo
        go_wp2_with (go_at_call 23; refine (hval _ Hw.out).mono ?_; rintro e W2 ⟨rfl, hb⟩; have Hb := Lib.hid (Hw.out.trans (hb.mono Hw.out.size)); clear hb)
        go_ret2
        exact ⟨by rw [Hf.out.1, Hf.out.2]; rfl, Hb.out⟩
      | true =>
        have hval := fun w' (hb : Below w.heap.size w w') => valueText_any v g0 g1 w' (hv.stays hb (Nat.le_refl _))
        simp only [hvo, if_true] at hval
        have Hy2 := Lib.hid (Hy.out hvo)
        clear hvo
        go_wp2_with (first | (go_at_call 23; refine (hval _ Hw.out).mono ?_; rintro e W2 ⟨rfl, hb⟩; have Hb := Lib.hid (Hw.out.trans (hb.mono Hw.out.size)); have Ho2 := Lib.hid (Ho.out.below hb hgs); have hgs2 : g < W2.heap.size := Nat.lt_of_lt_of_le hgs hb.size; clear hb) | (at_builtin; refine wpList_append_own _ rfl (.tmp 37) (.tmp 39) 47 rfl w.heap.size 9 i0 (.string ByteArray.empty) 1 16 Tryd.underlying47 hi hz0 hz1 hz2 rfl (by decide) (.slice (some ⟨g, 0, none⟩) k c) k _ rfl (Ho2.out.alloc _) ⟨W2.heap.size, 0, none⟩ 1 1 [.string ⟨(Lib.itoa v).toArray⟩] rfl (by simp) (cell_newrow _ _ _) (str_one _) (by unfold maxLen; omega) (by omega) (by have := Hb.out.size; simp; omega) ?_; intro v' w3 hown' hgrow3 hnil3; obtain ⟨g', c', rfl, hg0', hgs', hc'⟩ := form_own hown'; have Hb3 := Lib.hid ((Hb.out.alloc Hb.out.size _).grown hgrow3 (by have := Hb.out.size; simp; omega) (by intro x hx; simp [Value.ownBlock] at hx; omega)); have Ho3 := Lib.hid hown'; clear hown' hgrow3 hnil3))
        go_roundw
        case rel => exact ⟨k + 1, g', c', by omega, by go_num, rfl, hg0', hgs', Lib.hid (by rw [Hs.out]; exact Ho3.out), Hb3, Hy2⟩
        case measure => simp [intOf]; omega
    · obtain rfl : k = len := by omega
      have htake : l.take k = l := List.take_of_length_le (Nat.le_of_eq Ha.out.1)
      have hok : listOk l = true := by
        have h1 := Hall.out
        rw [htake] at h1
        unfold listOk
        rw [h1, Ha.out.1, decide_eq_true (by omega)]; rfl
      have Hf := Lib.hid (show textRes l = ⟨(Lib.join (itemTexts l) [44]).toArray⟩ ∧ listOk l = true by
        refine ⟨?_, hok⟩
        unfold textRes
        rw [if_pos hok]
        unfold listTextOf
        rw [if_neg (fun h => by have := Ha.out.1; rw [h] at this; simp at this; omega)])
      have hbs := strList_map l
      have hJ := Tryd.strings_Join g 0 c (strList l) ⟨#[44]⟩ wr (fun j x hx => by
        have h2 := Ho.out.cells (g := g) rfl j (.string x) (by
          rw [htake]
          unfold strList at hx
          rw [List.getElem?_map] at hx
          unfold strs
          rw [List.getElem?_map]
          cases hj : l[j]? with
          | none => rw [hj] at hx; simp at hx
          | some n => rw [hj] at hx; simp at hx; simp [hx])
        rw [iadd_none] at h2
        exact h2) hgs (by rw [strList_len, Ha.out.1]; omega) (by
          rw [strList_len, Ha.out.1]
          rcases Ho.out.2 with ⟨h, _⟩ | ⟨g', cap', cur, e1, _, _, h3, _⟩
          · cases h
          · simp at e1; omega) (by
        rw [hbs]
        exact Nat.le_trans (join_len l (fun n hn => Ha.out.2.2.2.2 n hn)) (by rw [Ha.out.1]; omega))
      rw [hbs, strList_len, Ha.out.1] at hJ
      clear htake hok hbs
      go_wp2_with (go_at_call 31; refine hJ.mono ?_; rintro e W2 ⟨rfl, hb⟩; have Hb2 := Lib.hid (Hw.out.trans (hb.mono Hw.out.size)); clear hb)
      go_ret2
      exact ⟨by rw [Hf.out.1, Hf.out.2]; rfl, Hb2.out⟩

theorem implList_any (w : World) (hv : TabOk w) (a : Option Addr) (len cap : Nat) (l : List Int) (ha : IRd w a len cap l) (hl : len ≤ 1048576) :
    Calls Tryd.prog 10 #[.slice a len cap] w fun e w' => e = .returned (.tuple #[.string (textRes l), .bool (listOk l)]) ∧ Below w.heap.size w w' := by
  go_enter Tryd.func10, Tryd.ntmps10
  go_wp2_with (go_at_call 22; refine (joinItems_any w hv a len cap l ha hl).mono ?_; rintro e W2 ⟨rfl, hb⟩; have Hb := Lib.hid hb; clear hb)
  go_ret2
  exact ⟨rfl, Hb.out⟩
end Go.Proofs.YtbidjhpllnabkaaDoor
