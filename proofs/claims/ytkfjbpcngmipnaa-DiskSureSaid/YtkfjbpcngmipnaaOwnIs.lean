/- Words for ints in new memory ('OwnI'), and the contract of tuggerref01.Ints: are two lists of ints one? Lists of ints that are handed back; a list by a test. No function of the program is named here. -/
import Derived.Test.YtkfjbpcngmipnaaOwns
import Derived.Test.YtkfjbpcngmipnaaWords
import Derived.Deep.QuietTactic
import Derived.BigQuiet
namespace Go.Proofs.Ytkfjbpcngmipnaa.Vm
open Go.RowKit

theorem info_int : (Try.prog.info? 3).map (fun i => (i.zero, i.size, i.bytes)) = some (some (.int .i64 0), 1, 8) := by kernel_rfl

def i64s (l : List Nat) : List Value := l.map fun z => Value.int .i64 (z : Nat)
/-- The call owns these ints. -/
def OwnI (w : World) (B : Nat) (v : Value) (l : List Nat) : Prop := w.ownsRow B 3 1 v l.length (i64s l)

theorem own_pushI {w : World} {B : Nat} {v : Value} {l : List Nat} {x : Nat} (h : w.ownsRow B 3 1 v (l.length + 1) (i64s l ++ [.int .i64 (x : Nat)])) : OwnI w B v (l ++ [x]) := by
  unfold OwnI
  simpa [i64s] using h

theorem push_stepI {w wr w1 : World} {B : Nat} {v v' : Value} {out : List Nat} {x : Nat} {o : Obj} {X : Int} (hX : X = (x : Nat)) (hown : OwnI wr B v out) (hbel : Below B w wr) (hB : B ≤ w.heap.size)
    (hown1 : w1.ownsRow B 3 1 v' (out.length + 1) (i64s out ++ [.int .i64 X])) (hg : (wr.alloc o).grownBy w1 v.ownBlock) : OwnI w1 B v' (out ++ [x]) ∧ Below B w w1 := by
  subst hX
  have hs := hbel.size
  exact ⟨own_pushI hown1, (hbel.alloc (by omega) o).grown hg (by simp; omega) (fun k hk => (World.ownsRow.lt hown k hk).1)⟩

theorem ownI_below {w w' : World} {B : Nat} {v : Value} {l : List Nat} (h : OwnI w B v l) (hb : Below w.heap.size w w') : OwnI w' B v l := by
  refine ⟨h.1, ?_⟩
  rcases h.2 with h2 | ⟨g, cap, cur, rfl, hg, hh, r⟩
  · exact .inl h2
  · exact .inr ⟨g, cap, cur, rfl, hg, by rw [hb.block g (Array.getElem?_eq_some_iff.1 hh).1]; exact hh, r⟩
theorem OwnI.mono {w : World} {B B' : Nat} {v : Value} {l : List Nat} (h : OwnI w B v l) (hB : B' ≤ B) : OwnI w B' v l := by
  refine ⟨h.1, ?_⟩
  rcases h.2 with h2 | ⟨g, cap, cur, hv, hb, r⟩
  · exact .inl h2
  · exact .inr ⟨g, cap, cur, hv, by omega, r⟩

end Go.Proofs.Ytkfjbpcngmipnaa.Vm

namespace Go.Proofs.Ytkfjbpcngmipnaa.Vm
open Go.RowKit

/-- Ints in new memory, as a list's reader has it. -/
def ListPost (w : World) (l : List Nat) (e : Ending) (w' : World) : Prop := ∃ v, e = .returned v ∧ OwnI w' w.heap.size v l ∧ Below w.heap.size w w'

theorem filter_snoc (p : Nat → Bool) (k : Nat) : (List.range (k + 1)).filter p = (List.range k).filter p ++ (if p k then [k] else []) := by
  rw [List.range_succ, List.filter_append]
  cases h : p k <;> simp [h]
theorem filter_len (p : Nat → Bool) (k : Nat) : ((List.range k).filter p).length ≤ k := by
  have := List.length_filter_le p (List.range k)
  simpa using this
end Go.Proofs.Ytkfjbpcngmipnaa.Vm
