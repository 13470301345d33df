/- The contract of grid.Parse. -/
import Derived.Test.YtiejinphofkjaaaRights
import Derived.Test.YtiejinphofkjaaaOwns
import Derived.Lib.OthersKept
import Derived.Laws.MakeOwn
namespace Go.Proofs.Ytiejinphofkjaaa.Vm
open Go.RowKit

theorem own_iterAt {w : World} {B e size n : Nat} {v : Value} {xs : List Value} {k : Nat} {s : ByteArray} {pos : Nat} (h : w.ownsRow B e size v n xs) (hk : w.heap[k]? = some (.stringIter s pos)) (pos' : Nat) : (w.iterAt k s pos').ownsRow B e size v n xs := by
  refine ⟨h.1, ?_⟩
  rcases h.2 with h0 | ⟨g, cap, cur, hv, hb, hg, rest⟩
  · exact .inl h0
  · refine .inr ⟨g, cap, cur, hv, hb, ?_, rest⟩
    rw [Lib.iterAt_other _ _ _ _ _ (fun e => by subst e; rw [hk] at hg; cases hg)]
    exact hg
theorem own_ne_iter {w : World} {B e size n : Nat} {v : Value} {xs : List Value} {k : Nat} {s : ByteArray} {pos : Nat} (h : w.ownsRow B e size v n xs) (hk : w.heap[k]? = some (.stringIter s pos)) : some k ≠ v.ownBlock := by
  rcases h.2 with ⟨rfl, _⟩ | ⟨g, cap, cur, rfl, hb, hg, rest⟩
  · simp [Value.ownBlock]
  · intro e
    simp only [Value.ownBlock, Option.some.injEq] at e
    subst e
    rw [hk] at hg
    cases hg

theorem heap_keep {w : World} {o : Obj} {k : Nat} (h : k < w.heap.size) : (w.alloc o).heap[k]? = w.heap[k]? := by
  show (w.heap.push o)[k]? = _
  rw [Array.getElem?_push_lt h, Array.getElem?_eq_getElem h]
/-- A grid and an error, as Parse answers them. -/
def ParsePost (w : World) (R : Nat × Nat × List Nat × Nat) (e : Ending) (w' : World) : Prop :=
  e = .returned (.tuple #[gridV R.1 R.2.1 (strOf R.2.2.1), .int .i64 (R.2.2.2 : Nat)]) ∧ Below w.heap.size w w'
theorem parsePost_no {w w' : World} {R : Nat × Nat × List Nat × Nat} {er : Nat} (h : R = (0, 0, [], er)) (hb : Below w.heap.size w w') : ParsePost w R (.returned (.tuple #[.agg #[.int .i64 0, .int .i64 0, .string ⟨#[]⟩], .int .i64 er])) w' := by
  subst h
  exact ⟨rfl, hb⟩
theorem parsePost_yes {w w' : World} {R : Nat × Nat × List Nat × Nat} {W H : Nat} {l : List Nat} (h : R = (W, H, l, 0)) (hb : Below w.heap.size w w') : ParsePost w R (.returned (.tuple #[.agg #[.int .i64 W, .int .i64 H, .string (strOf l)], .int .i64 0])) w' := by
  subst h
  exact ⟨rfl, hb⟩

/-- A grid stored into a block of the call's own. -/
theorem below_three {w w1 : World} {a b c : Value} (h : Below w.heap.size w w1) : Below w.heap.size w (((w1.setCell ⟨w.heap.size, 0, none⟩ a).setCell ⟨w.heap.size, 1, none⟩ b).setCell ⟨w.heap.size, 2, none⟩ c) :=
  ((h.setCell (by simp) _).setCell (by simp) _).setCell (by simp) _

end Go.Proofs.Ytiejinphofkjaaa.Vm
