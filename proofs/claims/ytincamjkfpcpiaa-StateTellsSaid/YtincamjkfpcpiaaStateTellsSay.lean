/- tuggerlaw05.StateTells, with awake's contract. -/
import Derived.Test.YtincamjkfpcpiaaStateTellsWalk
import Derived.Test.YtincamjkfpcpiaaAwakeFiveWalk
namespace Go.Proofs.Ytincamjkfpcpiaa.Vm
open Go Go.RowKit
theorem stateTells_say (W H : Int) (g : ByteArray) (h h' : Sh) (s s' : St) (p q : Int) (w : World) (_ : (Lit.int .i64 W).wf = true) (_ : (Lit.int .i64 H).wf = true) (hg : g.size ≤ maxLen) (hi : IsSt w h s) (hi' : IsSt w h' s') (_ : (Lit.int .i64 p).wf = true) (_ : (Lit.int .i64 q).wf = true) :
    Calls Try.prog 3 #[gridV W H g, twoV h h', .agg #[.int .i64 p, .int .i64 q]] w fun e w' => e = .returned (.bool true) ∧ Below w.heap.size w w' :=
  stateTells_walk awake5_any W H g h h' s s' p q w hg hi hi'
end Go.Proofs.Ytincamjkfpcpiaa.Vm
