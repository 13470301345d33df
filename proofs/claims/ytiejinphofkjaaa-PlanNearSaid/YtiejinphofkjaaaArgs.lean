/- The boxes of a law's arguments: a grid, some ints, two slices of ints. -/
import Derived.Test.YtiejinphofkjaaaStWords
import Derived.Test.YtiejinphofkjaaaWords
namespace Go.Proofs.Ytiejinphofkjaaa.Vm
open Go Go.RowKit

/-- The boxes of a law's arguments: a grid, some ints, two slices. -/
structure Args (b : Nat) (W H : Int) (s : ByteArray) (ats : List Int) (v1 v2 : Value) (V : World) : Prop where
  g : GridAt V b W H s
  ats : ∀ i, i < ats.length → V.cell? ⟨b + 1, i, none⟩ = some (.int .i64 (ats.getD i 0))
  l0 : V.cell? ⟨b + 1 + 1, 0, none⟩ = some v1
  l1 : V.cell? ⟨b + 1 + 1, 1, none⟩ = some v2
theorem Args.below {b B : Nat} {W H : Int} {s : ByteArray} {ats : List Int} {v1 v2 : Value} {V V' : World} (h : Args b W H s ats v1 v2 V) (hb : Below B V V') (hB : b + 1 + 1 < B) : Args b W H s ats v1 v2 V' :=
  ⟨h.g.below hb (by omega), fun i hi => (hb.cell (p := ⟨b + 1, i, none⟩) (show b + 1 < B by omega)).trans (h.ats i hi), (hb.cell (p := ⟨b + 1 + 1, 0, none⟩) hB).trans h.l0, (hb.cell (p := ⟨b + 1 + 1, 1, none⟩) hB).trans h.l1⟩
theorem args_head (w : World) (W H : Int) (s : ByteArray) (ats : List Int) (v1 v2 : Value) (t1 t2 : TypeId) (cs : Array Value) (hc : cs = ⟨ats.map (Value.int .i64)⟩) :
    ∃ w3, w3 = ((w.alloc (gridO W H s)).alloc (.cells cs t1)).alloc (.cells #[v1, v2] t2) ∧ Below w.heap.size w w3 ∧ w3.heap.size = w.heap.size + 3 ∧ Args w.heap.size W H s ats v1 v2 w3 := by
  subst hc
  have h1 : Below w.heap.size w (w.alloc (gridO W H s)) := (Below.refl _ _).alloc (Nat.le_refl _) _
  have z1 : (w.alloc (gridO W H s)).heap.size = w.heap.size + 1 := by simp
  have g1 := gridAt_new w W H s
  generalize w.alloc (gridO W H s) = u1 at h1 z1 g1
  have h2 : Below u1.heap.size u1 (u1.alloc (.cells ⟨ats.map (Value.int .i64)⟩ t1)) := (Below.refl _ _).alloc (Nat.le_refl _) _
  have z2 : (u1.alloc (.cells ⟨ats.map (Value.int .i64)⟩ t1)).heap.size = w.heap.size + 2 := by simp [z1]
  have c2 : ∀ i, i < ats.length → (u1.alloc (.cells ⟨ats.map (Value.int .i64)⟩ t1)).cell? ⟨w.heap.size + 1, i, none⟩ = some (.int .i64 (ats.getD i 0)) := fun i hi => by
    rw [← z1, cell_of_row (u1.alloc (.cells ⟨ats.map (Value.int .i64)⟩ t1)) u1.heap.size i ⟨ats.map (Value.int .i64)⟩ t1 (0, 0) (heap_alloc_new u1 _)]
    simp [List.getD, hi]
  generalize u1.alloc (.cells ⟨ats.map (Value.int .i64)⟩ t1) = u2 at h2 z2 c2
  have h3 : Below u2.heap.size u2 (u2.alloc (.cells #[v1, v2] t2)) := (Below.refl _ _).alloc (Nat.le_refl _) _
  have c3 : ∀ i v, #[v1, v2][i]? = some v → (u2.alloc (.cells #[v1, v2] t2)).cell? ⟨w.heap.size + 1 + 1, i, none⟩ = some v := fun i v hv => by
    rw [show w.heap.size + 1 + 1 = u2.heap.size by omega, cell_of_row (u2.alloc (.cells #[v1, v2] t2)) u2.heap.size i #[v1, v2] t2 (0, 0) (heap_alloc_new u2 _)]
    exact hv
  exact ⟨_, rfl, (h1.trans (h2.mono (by omega))).trans (h3.mono (by omega)), by simp [z2],
    ⟨(g1.below h2 (by omega)).below h3 (by omega), fun i hi => (h3.cell (p := ⟨w.heap.size + 1, i, none⟩) (show w.heap.size + 1 < u2.heap.size by omega)).trans (c2 i hi), c3 0 v1 rfl, c3 1 v2 rfl⟩⟩

theorem IsRow.rowZ {w : World} {a : Option Addr} {n c : Nat} {zs : List Int} (h : IsRow .i64 w a n c zs) : RowZ .i64 w w.heap.size a n c (zs.take n) ∧ (∀ z ∈ zs.take n, (Lit.int .i64 z).wf = true) ∧ n ≤ maxLen :=
  ⟨RowZ.of_isRow h, fun z hz => h.wf z (List.mem_of_mem_take hz), Nat.le_trans (RowZ.of_isRow h).2.1 (RowZ.of_isRow h).2.2.1⟩
end Go.Proofs.Ytiejinphofkjaaa.Vm
