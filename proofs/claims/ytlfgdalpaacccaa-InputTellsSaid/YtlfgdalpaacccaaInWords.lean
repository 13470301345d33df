/- Words for memory: inputs as values, as blocks; a grid, a state and an input in boxes. No function of the program is named here. -/
import Derived.Test.YtlfgdalpaacccaaInMath
import Derived.Test.YtlfgdalpaacccaaStWords
namespace Go.Proofs.Ytlfgdalpaacccaa.Vm
open Go Go.RowKit

/-- An input that lies in a block. -/
def InpAt (w : World) (b : Nat) (x : Inp) : Prop :=
  w.cell? ⟨b, 0, none⟩ = some (.int .i64 x.k) ∧ w.cell? ⟨b, 1, none⟩ = some (.int .i64 x.a) ∧ w.cell? ⟨b, 2, none⟩ = some (.int .i64 x.b) ∧ w.cell? ⟨b, 3, none⟩ = some (.int .i64 x.c)
theorem InpAt.below {w w' : World} {b B : Nat} {x : Inp} (h : InpAt w b x) (hb : Below B w w') (hB : b < B) : InpAt w' b x :=
  ⟨(hb.cell (p := ⟨b, 0, none⟩) hB).trans h.1, (hb.cell (p := ⟨b, 1, none⟩) hB).trans h.2.1, (hb.cell (p := ⟨b, 2, none⟩) hB).trans h.2.2.1, (hb.cell (p := ⟨b, 3, none⟩) hB).trans h.2.2.2⟩
theorem inpAt_new (w : World) (x : Inp) (t : TypeId) : InpAt (w.alloc (inpO x t)) w.heap.size x := ⟨by simp, by simp, by simp, by simp⟩

/-- A grid, a state and an input, boxed. -/
theorem gsx_head (w : World) (W H : Int) (g : ByteArray) (h : Sh) (x : Inp) :
    ∃ w3, w3 = ((w.alloc (gridO W H g)).alloc (shO h)).alloc (inpO x 41) ∧ Below w.heap.size w w3 ∧ w3.heap.size = w.heap.size + 3 ∧ GridAt w3 w.heap.size W H g ∧ StAt w3 (w.heap.size + 1) h ∧ InpAt w3 (w.heap.size + 1 + 1) x := by
  obtain ⟨u, hu, h1, z1, g1, s1⟩ := gs_head w W H g h
  have h3 : Below u.heap.size u (u.alloc (inpO x 41)) := (Below.refl _ _).alloc (Nat.le_refl _) _
  have x3 := inpAt_new u x 41
  rw [z1] at x3
  exact ⟨u.alloc (inpO x 41), by rw [hu], h1.trans (h3.mono (by omega)), by simp [z1], g1.below h3 (by omega), s1.below h3 (by omega), x3⟩
end Go.Proofs.Ytlfgdalpaacccaa.Vm
