/- The contract of input.apply, kinds 1 to 6: words. -/
import Derived.Test.YtlfgdalpaacccaaEffects
import Derived.Test.YtlfgdalpaacccaaInChecksB
import Derived.Test.YtlfgdalpaacccaaFaults
import Derived.Test.YtlfgdalpaacccaaOrders
import Derived.Test.YtlfgdalpaacccaaBlocks
import Derived.Test.YtlfgdalpaacccaaHeldRegion
namespace Go.Proofs.Ytlfgdalpaacccaa.Vm
open Go Go.RowKit

theorem fetch_find {fl : Int → Bool} {s : St} (h : RightP fl s) {i : Nat} (hi : i < s.rs.length) (hb : (s.rs.getD i zr).b = 1) : 0 ≤ findS s.ts (s.rs.getD i zr).c := by
  have hm := h.mode i hi
  unfold ModeP at hm
  rcases hm with ⟨h1, _⟩ | ⟨_, k, _, h2, _⟩ | ⟨h1, _⟩ | ⟨h1, _⟩ <;> omega
/-- A grid and an input, boxed beside a state. -/
theorem gx_head {w : World} {B b : Nat} {h : Sh} {s : St} (m : Mine w B b h s) (W H : Int) (g : ByteArray) (x : Inp) :
    ∃ w2, w2 = (w.alloc (gridO W H g)).alloc (inpO x 41) ∧ TurnsH w B b h s w2 ∧ GridAt w2 w.heap.size W H g ∧ InpAt w2 (w.heap.size + 1) x ∧ w2.heap.size = w.heap.size + 2 := by
  have h1 : Below w.heap.size w (w.alloc (gridO W H g)) := (Below.refl _ _).alloc (Nat.le_refl _) _
  have z1 : (w.alloc (gridO W H g)).heap.size = w.heap.size + 1 := by simp
  have g1 := gridAt_new w W H g
  generalize w.alloc (gridO W H g) = u at h1 z1 g1
  have h2 : Below u.heap.size u (u.alloc (inpO x 41)) := (Below.refl _ _).alloc (Nat.le_refl _) _
  have x2 := inpAt_new u x 41
  rw [z1] at x2
  exact ⟨_, rfl, .calls m (h1.trans (h2.mono (by omega))), g1.below h2 (by omega), x2, by simp [z1]⟩
end Go.Proofs.Ytlfgdalpaacccaa.Vm
