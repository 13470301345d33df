/- tuggerlaw05.StateSwaps, with awake's contract. -/
import Derived.Test.YtincamjkfpcpiaaStateSwapsWalk
import Derived.Test.YtincamjkfpcpiaaAwakeFiveWalk
namespace Go.Proofs.Ytincamjkfpcpiaa.Vm
open Go Go.RowKit
theorem stateSwaps_say (W H : Int) (g : ByteArray) (h : Sh) (s : St) (p q : Int) (w : World) (_ : (Lit.int .i64 W).wf = true) (_ : (Lit.int .i64 H).wf = true) (hg : g.size ≤ maxLen) (hi : IsSt w h s) (_ : (Lit.int .i64 p).wf = true) (_ : (Lit.int .i64 q).wf = true) :
    Calls Try.prog 5 #[gridV W H g, shV h, .agg #[.int .i64 p, .int .i64 q]] w fun e w' => e = .returned (.bool true) ∧ Below w.heap.size w w' :=
  stateSwaps_walk awake5_any W H g h s p q w hg hi
end Go.Proofs.Ytincamjkfpcpiaa.Vm
