/- The boxes of a law's arguments: a grid, some ints, two slices of ints. -/
import Derived.Test.YtccdblbnphmpjaaStWords
import Derived.Test.YtccdblbnphmpjaaWords
namespace Go.Proofs.Ytccdblbnphmpjaa.Vm
open Go Go.RowKit

/-- The boxes of a law's arguments: a grid, some ints, two slices. -/
structure Args (b : Nat) (W H : Int) (s : ByteArray) (ats : List Int) (v1 v2 : Value) (V : World) : Prop where
  g : GridAt V b W H s
  ats : ∀ i, i < ats.length → V.cell? ⟨b + 1, i, none⟩ = some (.int .i64 (ats.getD i 0))
  l0 : V.cell? ⟨b + 1 + 1, 0, none⟩ = some v1
  l1 : V.cell? ⟨b + 1 + 1, 1, none⟩ = some v2
theorem Args.below {b B : Nat} {W H : Int} {s : ByteArray} {ats : List Int} {v1 v2 : Value} {V V' : World} (h : Args b W H s ats v1 v2 V) (hb : Below B V V') (hB : b + 1 + 1 < B) : Args b W H s ats v1 v2 V' :=
  ⟨h.g.below hb (by omega), fun i hi => (hb.cell (p := ⟨b + 1, i, none⟩) (show b + 1 < B by omega)).trans (h.ats i hi), (hb.cell (p := ⟨b + 1 + 1, 0, none⟩) hB).trans h.l0, (hb.cell (p := ⟨b + 1 + 1, 1, none⟩) hB).trans h.l1⟩

theorem IsRow.rowZ {w : World} {a : Option Addr} {n c : Nat} {zs : List Int} (h : IsRow .i64 w a n c zs) : RowZ .i64 w w.heap.size a n c (zs.take n) ∧ (∀ z ∈ zs.take n, (Lit.int .i64 z).wf = true) ∧ n ≤ maxLen :=
  ⟨RowZ.of_isRow h, fun z hz => h.wf z (List.mem_of_mem_take hz), Nat.le_trans (RowZ.of_isRow h).2.1 (RowZ.of_isRow h).2.2.1⟩
end Go.Proofs.Ytccdblbnphmpjaa.Vm
