/- The contracts of Zig and Zag, the program's and the document's. -/
import Derived.Test.YtplnaaokapilpaaDoorChecked
import Derived.Test.YtplnaaokapilpaaDoorMath
import Derived.WalkKit
import Derived.Lib.Hide
namespace Go.Proofs.YtplnaaokapilpaaDoor.Vm
open Go.RowKit

theorem ret_int {k : IntKind} {a b : Int} (h : a = b) : Ending.returned (.int k a) = .returned (.int k b) := by rw [h]

set_option maxRecDepth 100000 in
theorem zig_any (n : Int) (w : World) (h1 : -9223372036854775808 ≤ n) (h2 : n ≤ 9223372036854775807) :
    Calls Tryd.prog 67 #[.int .i64 n] w fun e w' => e = .returned (.int .u64 (zig n)) ∧ w = w' := by
  by_cases h : 0 ≤ n
  · go_enter Tryd.func67, Tryd.ntmps67
    go_wp2
    go_ret
    exact ⟨ret_int (by unfold zig; rw [if_pos h]), rfl⟩
  · go_enter Tryd.func67, Tryd.ntmps67
    go_wp2
    go_ret
    exact ⟨ret_int (by unfold zig; rw [if_neg (by omega)]), rfl⟩

set_option maxRecDepth 100000 in
theorem zag_any (n : Int) (w : World) (h1 : 0 ≤ n) (h2 : n < 18446744073709551616) :
    Calls Tryd.prog 96 #[.int .u64 n] w fun e w' => e = .returned (.int .i64 (zag n)) ∧ w = w' := by
  by_cases h : n % 2 = 0
  · have e : (n % 2 == 0) = true := by simp [h]
    have H := Lib.hid h
    clear h
    go_enter Tryd.func96, Tryd.ntmps96
    go_wp2
    go_ret
    exact ⟨ret_int (by unfold zag; rw [if_pos H.out]), rfl⟩
  · have e : (n % 2 == 0) = false := by simp [h]
    have H := Lib.hid h
    clear h
    go_enter Tryd.func96, Tryd.ntmps96
    go_wp2
    go_ret
    exact ⟨ret_int (by unfold zag; rw [if_neg H.out]), rfl⟩
end Go.Proofs.YtplnaaokapilpaaDoor.Vm
