/- The contract of grid.measure. -/
import Derived.Test.YtlfgdalpaacccaaFloors
import Derived.Test.YtlfgdalpaacccaaGridMath
import Derived.Laws.RangeAny
namespace Go.Proofs.Ytlfgdalpaacccaa.Vm
open Go.RowKit

/-- What measure answers: the sides, if the text has the form of a map. -/
def MeasPost (w : World) (l : List Nat) (e : Ending) (w' : World) : Prop :=
  (∃ (W H : Nat) (cells : List Nat), measS l = some (W, H, cells) ∧ W ≤ l.length ∧ H ≤ l.length ∧ e = .returned (.tuple #[.int .i64 W, .int .i64 H, .bool true]) ∧ Below w.heap.size w w') ∨
  (measS l = none ∧ ∃ W H : Int, e = .returned (.tuple #[.int .i64 W, .int .i64 H, .bool false]) ∧ Below w.heap.size w w')

theorem measPost_no {w w' : World} {l : List Nat} {W H : Int} (h : measS l = none) (hb : Below w.heap.size w w') : MeasPost w l (.returned (.tuple #[.int .i64 W, .int .i64 H, .bool false])) w' := .inr ⟨h, W, H, rfl, hb⟩
theorem measPost_yes {w w' : World} {l : List Nat} {W H : Nat} {cells : List Nat} (h : measS l = some (W, H, cells)) (hW : W ≤ l.length) (hH : H ≤ l.length) (hb : Below w.heap.size w w') : MeasPost w l (.returned (.tuple #[.int .i64 W, .int .i64 H, .bool true])) w' := .inl ⟨W, H, cells, h, hW, hH, rfl, hb⟩

theorem below_iter (w : World) (s : ByteArray) (k : Nat) : Below w.heap.size w (w.iter s k) := (Below.refl _ _).alloc (Nat.le_refl _) _

end Go.Proofs.Ytlfgdalpaacccaa.Vm
