/- The contracts of the document's small functions for encodings: in, put, sign, take, small. -/
import Derived.Test.YtplnaaokapilpaaDoorCodMath
import Derived.Test.YtplnaaokapilpaaDoorRefPuts
import Derived.Test.YtplnaaokapilpaaDoorRefTakes
import Derived.Test.YtplnaaokapilpaaDoorZigs
import Derived.Test.YtplnaaokapilpaaDoorAppends
import Derived.Test.YtplnaaokapilpaaDoorAppendZ
import Derived.Deep.RegionHeld3
namespace Go.Proofs.YtplnaaokapilpaaDoor.Vm
open Go Go.RowKit




theorem Own.calls {w w' : World} {B : Nat} {v : Value} {l : List Nat} (h : Own w B v l) (hb : Below w.heap.size w w') : Own w' B v l := own_upto h hb (fun k hk => (World.ownsRow.lt h k hk).2)
theorem kept_tr {A w w' : World} (h : Kept A w) (h' : Kept w w') : Kept A w' := Below.trans h (Below.mono h' h.size)

/-- A block of these cells. -/
def BoxAt (w : World) (b : Nat) (cs : Array Value) (t : TypeId) : Prop := w.heap[b]? = some (.cells cs t (0, 0))
section
variable {w w' : World} {b : Nat} {cs : Array Value} {t : TypeId}
theorem boxAt_new (w : World) (cs : Array Value) (t : TypeId) : BoxAt (w.alloc (.cells cs t)) w.heap.size cs t := heap_alloc_new w _
theorem BoxAt.lt (h : BoxAt w b cs t) : b < w.heap.size := (Array.getElem?_eq_some_iff.1 h).1
theorem BoxAt.cell (h : BoxAt w b cs t) {i : Nat} {v : Value} (hv : cs[i]? = some v) : w.cell? ⟨b, i, none⟩ = some v := (cell_of_row w b i cs t (0, 0) h).trans hv
theorem BoxAt.calls (h : BoxAt w b cs t) (hb : Below w.heap.size w w') : BoxAt w' b cs t := (hb.block b h.lt).trans h
theorem BoxAt.grown {B : Nat} {v : Value} {l : List Nat} (h : BoxAt w b cs t) (ho : Own w B v l) (hg : w.grownBy w' v.ownBlock) (hne : 5 ≠ t) : BoxAt w' b cs t :=
  (hg.block b h.lt (fun e => own_apart ho h hne e.symm)).trans h
end
/-- What an append of bytes leaves. -/
theorem run_append_b {w : World} (ty : TypeId) {B : Nat} {v : Value} {out : List Nat} (hown : Own w B v out) {ao : Option Addr} {m c B2 : Nat} {l : List Nat} (hr : Row .u8 w B2 ao m c l) (hlen : out.length + m ≤ 100000000) (hB : B ≤ w.heap.size) :
    ∃ v' w', (Builtin.append_ #[27, 27] ty #[v, .slice ao m c]).run Tryd.prog w = .ok v' w' ∧ Own w' B v' (out ++ l) ∧ w.grownBy w' v.ownBlock := by
  obtain ⟨i0, hi0, hz0, hz1, hz2⟩ := info_parts info_u8
  have hlm : l.length = m := hr.1
  cases ao with
  | none =>
    have hm0 : m = 0 := by
      rcases Nat.eq_zero_or_pos m with h0 | h0
      · exact h0
      · obtain ⟨b, off, e, _⟩ := hr.cells h0; cases e
    subst hm0
    obtain rfl := List.eq_nil_of_length_eq_zero hlm
    exact ⟨v, w, run_append_none B 27 ty 5 i0 1 Tryd.underlying27 hi0 v out.length c (u8s out) hown, by rw [List.append_nil]; exact hown, World.grownBy.refl _ _⟩
  | some ad =>
    obtain ⟨v', w', hrun, hown', hg, _⟩ := run_append_own (P := Tryd.prog) w B 27 ty 5 i0 (.int .u8 0) 1 1 Tryd.underlying27 hi0 hz0 hz1 hz2 rfl (by decide) v out.length (u8s out) hown ad m c (u8s l) (by rw [u8s_len]; omega) (cells_row hr)
      (u8s_one _) (by unfold maxLen; omega) (by omega) hB
    exact ⟨v', w', hrun, Own.of_append hlm hown', hg⟩
/-- An append of bytes as one step of a region that draws its order; what lay at A is held. -/
theorem step_append_b {ops : Array Oper} {o : Oper} {a : Act} {w A : World} {K : Act → World → Prop} {Q : Exit → Act → World → Prop} {E : Prop} (hgd : o.guard = none) (s x : Operand)
    (ho : o.op = .call { callee := .builtin .append, args := #[s, x], argTypes := #[27, 27] })
    {B : Nat} {v : Value} {out : List Nat} (hs : a.eval s = v) {ao : Option Addr} {m c B2 : Nat} {l : List Nat} (hx : a.eval x = .slice ao m c) (hown : Own w B v out) (hr : Own w B2 (.slice ao m c) l)
    (hlen : out.length + l.length ≤ 100000000) (hB : B ≤ A.heap.size) (hk : Below B A w) (h : ∀ v' w', Own w' B v' (out ++ l) → w.grownBy w' v.ownBlock → Below B A w' → K (a.put o.dst v') w') :
    if Region.wanted o (yielded ops a.tmps) = true then Oper.wp Tryd.prog o a w K Q else E := by
  have hw : Region.wanted o (yielded ops a.tmps) = true := by simp [Region.wanted, hgd]
  rw [if_pos hw]
  have hrow := hr.row
  have hlm := hrow.1
  obtain ⟨v', w', hrun, h1, h2⟩ := run_append_b o.type hown hrow (by omega) (Nat.le_trans hB hk.size)
  unfold Oper.wp
  simp [execOp, ho, resolve, invoke, builtin, hs, hx, hrun, Result.andThen]
  exact h v' w' h1 h2 (hk.grown h2 (Nat.le_trans hB hk.size) (fun k hk2 => (World.ownsRow.lt hown k hk2).1))

section
variable {w w' : World} {b : Nat} {a : Option Addr} {n c : Nat} {t : Tk}
theorem BoxAt.fz {cs : Array Value} {ty : TypeId} (h : BoxAt w b cs ty) (i : Nat) : w.frozen? ⟨b, i, none⟩ = false := frozen_of_row w b i cs ty h
theorem BoxAt.set {cs : Array Value} {ty : TypeId} (h : BoxAt w b cs ty) (i : Nat) (u : Value) : BoxAt (w.setCell ⟨b, i, none⟩ u) b (cs.set! i u) ty := heap_setCell_same w b i cs _ u h
theorem BoxAt.drew {cs : Array Value} {ty : TypeId} (h : BoxAt w b cs ty) : BoxAt w.drew b cs ty := h
theorem BoxAt.but {cs : Array Value} {ty : TypeId} {lb : Nat} (h : BoxAt w b cs ty) (hb : But lb w w') (hne : b ≠ lb) : BoxAt w' b cs ty := (hb.block b h.lt (fun e => hne (by injection e))).trans h
end


end Go.Proofs.YtplnaaokapilpaaDoor.Vm
