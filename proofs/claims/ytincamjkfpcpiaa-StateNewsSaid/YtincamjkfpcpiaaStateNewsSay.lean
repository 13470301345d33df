/- tuggerlaw05.StateNews, with awake's contract. -/
import Derived.Test.YtincamjkfpcpiaaStateNewsWalk
import Derived.Test.YtincamjkfpcpiaaAwakeFiveWalk
namespace Go.Proofs.Ytincamjkfpcpiaa.Vm
open Go Go.RowKit
theorem stateNews_say (W H : Int) (g : ByteArray) (a : Option Addr) (n c : Nat) (zs : List Int) (w : World) (_ : (Lit.int .i64 W).wf = true) (_ : (Lit.int .i64 H).wf = true) (hg : g.size ≤ maxLen) (hi : IsRow .i64 w a n c zs) :
    Calls Try.prog 4 #[gridV W H g, .slice a n c] w fun e w' => e = .returned (.bool true) ∧ Below w.heap.size w w' :=
  stateNews_walk awake5_any W H g a n c zs w hg hi
end Go.Proofs.Ytincamjkfpcpiaa.Vm
