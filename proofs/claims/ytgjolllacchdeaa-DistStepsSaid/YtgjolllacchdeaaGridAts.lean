/- A grid that lies in a block. -/
import Derived.Test.YtgjolllacchdeaaFloors
namespace Go.Proofs.Ytgjolllacchdeaa.Vm
open Go.RowKit

/-- A grid that lies in a block. -/
def GridAt (w : World) (b : Nat) (W H : Int) (s : ByteArray) : Prop :=
  w.cell? ⟨b, 0, none⟩ = some (.int .i64 W) ∧ w.cell? ⟨b, 1, none⟩ = some (.int .i64 H) ∧ w.cell? ⟨b, 2, none⟩ = some (.string s)
theorem GridAt.below {w w' : World} {b B : Nat} {W H : Int} {s : ByteArray} (h : GridAt w b W H s) (hb : Below B w w') (hB : b < B) : GridAt w' b W H s :=
  ⟨(hb.cell (p := ⟨b, 0, none⟩) hB).trans h.1, (hb.cell (p := ⟨b, 1, none⟩) hB).trans h.2.1, (hb.cell (p := ⟨b, 2, none⟩) hB).trans h.2.2⟩

theorem gridAt_new (w : World) (W H : Int) (s : ByteArray) : GridAt (w.alloc (gridO W H s)) w.heap.size W H s := ⟨by simp, by simp, by simp⟩
end Go.Proofs.Ytgjolllacchdeaa.Vm
