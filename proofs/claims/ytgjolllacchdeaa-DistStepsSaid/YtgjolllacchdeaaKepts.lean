/- What is held while a region draws its order: nothing that lay at its first world has turned. No program is named here. -/
import Derived.WalkKit
import Derived.Below
namespace Go.Proofs.Ytgjolllacchdeaa.Vm
open Go.RowKit

/-- What lay there lies there. -/
def Kept (a w : World) : Prop := Below a.heap.size a w
theorem Kept.refl (a : World) : Kept a a := Below.refl _ a
theorem Kept.drew {a w : World} (h : Kept a w) : Kept a w.drew := Below.drew h
theorem Kept.alloc {a w : World} (h : Kept a w) (o : Obj) : Kept a (w.alloc o) := Below.alloc h (Below.size h) o
end Go.Proofs.Ytgjolllacchdeaa.Vm
