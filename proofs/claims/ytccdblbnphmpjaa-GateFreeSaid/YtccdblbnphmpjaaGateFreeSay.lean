/- The walk of the law GateFree over the program's own Gate, Clash, and awake. -/
import Derived.Test.YtccdblbnphmpjaaGateFreeWalk
import Derived.Test.YtccdblbnphmpjaaAwakeEight
import Derived.Test.YtccdblbnphmpjaaGates
import Derived.Test.YtccdblbnphmpjaaClashes
import Derived.Test.YtccdblbnphmpjaaArgs
namespace Go.Proofs.Ytccdblbnphmpjaa.Vm
open Go Go.RowKit

theorem gateFree_walk (a1 : Option Addr) (n1 c1 : Nat) (z1 : List Int) (a2 : Option Addr) (n2 c2 : Nat) (z2 : List Int) (a3 : Option Addr) (n3 c3 : Nat) (z3 : List Int) (w : World)
    (i1 : IsRow .i64 w a1 n1 c1 z1) (i2 : IsRow .i64 w a2 n2 c2 z2) (i3 : IsRow .i64 w a3 n3 c3 z3) :
    Calls Try.prog 5 #[.agg #[.slice a1 n1 c1, .slice a2 n2 c2, .slice a3 n3 c3]] w fun e w' => e = .returned (.bool true) ∧ Below w.heap.size w w' := by
  obtain ⟨r1, y1, _⟩ := i1.rowZ
  obtain ⟨r2, y2, _⟩ := i2.rowZ
  obtain ⟨r3, y3, _⟩ := i3.rowZ
  exact gateFree_says (awake8_any gate_any clash_any) gate_any clash_any a1 n1 c1 a2 n2 c2 a3 n3 c3 _ _ _ w r1 r2 r3 y1 y2 y3
end Go.Proofs.Ytccdblbnphmpjaa.Vm
