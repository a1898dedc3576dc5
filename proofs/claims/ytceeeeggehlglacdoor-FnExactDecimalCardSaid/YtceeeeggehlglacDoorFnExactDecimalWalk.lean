/-
  The walk of the law on decimal texts.
-/
import Derived.Test.YtceeeeggehlglacDoorDec
import Derived.Test.YtceeeeggehlglacDoorFmt
import Derived.Lib.LaidTab
import Derived.Lib.AppendIntMem
set_option linter.unusedVariables false
namespace Go.Proofs.YtceeeeggehlglacDoor.fnExactDecimal
open Go Go.RowKit

theorem walk (n : Int) (h0 : -9223372036854775808 ≤ n) (h1 : n ≤ 9223372036854775807) (w : World) (htab : Lib.TabIs Tryd.prog w "internal/strconv.uint64pow10" .u64 Lib.pow10Tab) :
    Calls Tryd.prog 4 #[.int .i64 n] w fun e w' => e = .returned (.bool true) ∧ Below w.heap.size w w' := by
  go_enter Tryd.func4, Tryd.ntmps4
  go_wp2_with (first | (go_at_call 13; go_in) | (go_at_call 29; refine (l01Dec_any n h0 h1 _).mono ?_; rintro e w' ⟨rfl, hb⟩; have Hb := Lib.hid hb; have Ht := Lib.hid (Lib.tabBelow_of_tabIs htab _ hb); clear hb) | (go_at_call 14; go_in) | (go_at_call 30; refine (Tryd.strconv_FormatInt_10 n h0 h1 _ Ht.out).mono ?_; rintro e w' ⟨rfl, k, os, rfl⟩))
  go_ret
  exact ⟨rfl, Hb.out.trans (Lib.below_grow _ _ Hb.out.size _ _)⟩
end Go.Proofs.YtceeeeggehlglacDoor.fnExactDecimal
