/- The contract of the document's Record (a record as bytes). The contract of the document's State (a state as bytes). The contract of the document's ReadState. -/
import Derived.Test.YtplnaaokapilpaaDoorRefCods
import Derived.Test.YtplnaaokapilpaaDoorCodWords
import Derived.Test.YtplnaaokapilpaaDoorPushes
import Derived.Test.YtplnaaokapilpaaDoorStWords
import Derived.Test.YtplnaaokapilpaaDoorAppendZ
import Derived.Test.YtplnaaokapilpaaDoorAppends
import Derived.Test.YtplnaaokapilpaaDoorOwnRs
import Derived.Test.YtplnaaokapilpaaDoorSames
import Derived.Test.YtplnaaokapilpaaDoorStCopies
import Derived.Deep.LoopGhost
import Derived.Deep.CutRange
import Derived.Deep.CutBlock
import Derived.Deep.DeepCutAuto
import Derived.Lib.AppendZeros
import Derived.BigQuiet
import Derived.Deep.RegionHeld3
import Derived.Deep.RegionLaw
import Derived.BigRegion
namespace Go.Proofs.YtplnaaokapilpaaDoor.Vm
open Go Go.RowKit

end Go.Proofs.YtplnaaokapilpaaDoor.Vm

namespace Go.Proofs.YtplnaaokapilpaaDoor.Vm
open Go Go.RowKit

/-- An append of one int, and of five, as they are laid for it. -/
theorem append_one {w : World} {B : Nat} {v : Value} {out : List Int} (x : Int) (hown : OwnZ w B v out) (hlen : out.length ≤ 910000) (hB : B ≤ w.heap.size) :
    ∃ v' w', (Builtin.append_ #[30, 30] 30 #[v, .slice (some ⟨w.heap.size, 0, none⟩) 1 1]).run Tryd.prog (w.alloc (.cells #[.int .i64 x] 3)) = .ok v' w' ∧ OwnZ w' B v' (out ++ [x]) ∧ Below B w w' := by
  have hba : Below w.heap.size w (w.alloc (.cells #[.int .i64 x] 3)) := (Below.refl _ _).alloc (Nat.le_refl _) _
  obtain ⟨v', w', h1, h2, h3⟩ := run_append_z (w := w.alloc (.cells #[.int .i64 x] 3)) 30 (own_upto hown hba (fun k hk => (World.ownsRow.lt hown k hk).2)) (rowZ_lit w [x] 3 (by simp)) (by simp; omega) (by simp; omega)
  exact ⟨v', w', h1, h2, (hba.mono hB).trans h3⟩
theorem append_five {w : World} {B : Nat} {v : Value} {out : List Int} (o : Obj) (a b c d e : Int) (hown : OwnZ w B v out) (hlen : out.length ≤ 900000) (hB : B ≤ w.heap.size) :
    ∃ v' w', (Builtin.append_ #[30, 30] 30 #[v, .slice (some ⟨w.heap.size + 1, 0, none⟩) 5 5]).run Tryd.prog ((w.alloc o).alloc (.cells #[.int .i64 a, .int .i64 b, .int .i64 c, .int .i64 d, .int .i64 e] 3)) = .ok v' w' ∧ OwnZ w' B v' (out ++ [a, b, c, d, e]) ∧ Below B w w' := by
  have hb0 : Below w.heap.size w (w.alloc o) := (Below.refl _ _).alloc (Nat.le_refl _) _
  have hz : (w.alloc o).heap.size = w.heap.size + 1 := by simp
  have hba : Below w.heap.size w ((w.alloc o).alloc (.cells #[.int .i64 a, .int .i64 b, .int .i64 c, .int .i64 d, .int .i64 e] 3)) := hb0.alloc (by omega) _
  have hr := rowZ_lit (w.alloc o) [a, b, c, d, e] 3 (by simp)
  rw [hz] at hr
  obtain ⟨v', w', h1, h2, h3⟩ := run_append_z (w := (w.alloc o).alloc (.cells #[.int .i64 a, .int .i64 b, .int .i64 c, .int .i64 d, .int .i64 e] 3)) 30 (own_upto hown hba (fun k hk => (World.ownsRow.lt hown k hk).2)) hr (by simp; omega) (by simp; omega)
  exact ⟨v', w', h1, h2, (hba.mono hB).trans h3⟩


end Go.Proofs.YtplnaaokapilpaaDoor.Vm

namespace Go.Proofs.YtplnaaokapilpaaDoor.Vm
open Go Go.RowKit







end Go.Proofs.YtplnaaokapilpaaDoor.Vm
