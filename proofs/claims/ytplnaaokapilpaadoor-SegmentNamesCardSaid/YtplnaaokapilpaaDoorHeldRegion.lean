/- A region that draws its order, whose calls make memory but answer the same in every world in which what lay there lies: one walk in the text's order (Derived.Deep.Quiet's law, at the class of these worlds). No program is named here. -/
import Derived.Test.YtplnaaokapilpaaDoorWords
import Derived.Deep.QuietTactic
import Derived.BigQuiet
namespace Go.Proofs.YtplnaaokapilpaaDoor.Vm
open Go Go.RowKit

/-- A world in which what lay at A lies. -/
structure Held (A : World) where
  V : World
  k : Kept A V
theorem held_here {A w : World} (h : Kept A w) : ∃ n : Held A, w = n.V := ⟨⟨w, h⟩, rfl⟩
theorem Held.cell {A : World} (n : Held A) {p : Addr} {v : Value} (h : A.cell? p = some v) : n.V.cell? p = some v :=
  (Below.cell n.k (World.block_lt_of_cell? A p h)).trans h
/-- A contract that leaves what lay there, at that class. -/
theorem Held.call {P : Program} {A : World} (n : Held A) {f : FuncId} {args : Array Value} {v : Value} (h : Calls P f args n.V fun e w' => e = .returned v ∧ Below n.V.heap.size n.V w') :
    Calls P f args n.V fun e w' => e = .returned v ∧ ∃ m : Held A, w' = m.V :=
  h.mono fun _ _ ⟨he, hb⟩ => ⟨he, held_here (Below.trans n.k (hb.mono n.k.size))⟩
theorem wp_region_class {P : Program} {A : World} {id : Nat} {Q : Exit → Act → World → Prop} {a : Act} {w : World} {l : List Oper} (hw : Kept A w) (hm : P.follows .mixedOrders = true) (hB : Region.lexB .any l.toArray = true)
    (h : wpQuiet P l.toArray (fun w' => ∃ n : Held A, w' = n.V) (fun a' => ∀ w', (∃ n : Held A, w' = n.V) → Q .normal a' w') l a) : (Code.region id l.toArray true).wp P Q a w :=
  wp_region_quiet (C := fun w' => ∃ n : Held A, w' = n.V) hm hB (held_here hw.drew) (by simpa using h)
end Go.Proofs.YtplnaaokapilpaaDoor.Vm
