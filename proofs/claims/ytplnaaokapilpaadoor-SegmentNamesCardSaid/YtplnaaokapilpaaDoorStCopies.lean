/- The contracts of slices.Clone at robots, tasks and ints, and of state.Copy. -/
import Derived.Test.YtplnaaokapilpaaDoorStWords
import Derived.Test.YtplnaaokapilpaaDoorOwnRs
import Derived.WalkLawsBesides
namespace Go.Proofs.YtplnaaokapilpaaDoor.Vm
open Go Go.RowKit


theorem eql_nil {t e : TypeId} (ht : Tryd.prog.underlying t = some (.slice e)) (a : Option Addr) (n c : Nat) (w : World) : (binOp .eql t (.slice a n c) (.slice none 0 0)).run Tryd.prog w = .ok (.bool a.isNone) w := by
  simp only [binOp]
  simp [run_equal_slice_nil w t e a n c ht, Result.andThen]

theorem OwnZ.mono {w : World} {B B' : Nat} {v : Value} {l : List Int} (h : OwnZ w B v l) (hB : B' ≤ B) : OwnZ w B' v l := by
  refine ⟨h.1, ?_⟩
  rcases h.2 with h2 | ⟨g, cap, cur, hv, hb, r⟩
  · exact .inl h2
  · exact .inr ⟨g, cap, cur, hv, by omega, r⟩

theorem OwnZ.rowZ {w : World} {B : Nat} {a : Option Addr} {n c : Nat} {l : List Int} (h : OwnZ w B (.slice a n c) l) : RowZ .i64 w w.heap.size a n c l := by
  obtain ⟨a', c', e, hr⟩ := OwnZ.row h
  injection e with e1 e2 e3
  subst e1 e2 e3
  exact hr

theorem below_set4 {B b : Nat} {a V : World} (h : Below B a V) (hb : B ≤ b) (v0 v1 v2 v3 : Value) : Below B a ((((V.setCell ⟨b, 0, none⟩ v0).setCell ⟨b, 1, none⟩ v1).setCell ⟨b, 2, none⟩ v2).setCell ⟨b, 3, none⟩ v3) :=
  (((h.setCell (p := ⟨b, 0, none⟩) hb v0).setCell (p := ⟨b, 1, none⟩) hb v1).setCell (p := ⟨b, 2, none⟩) hb v2).setCell (p := ⟨b, 3, none⟩) hb v3
theorem own_set4 {B b n size : Nat} {e : TypeId} {v : Value} {xs : List Value} {V : World} (h : V.ownsRow B e size v n xs) (hb : b < B) (v0 v1 v2 v3 : Value) : ((((V.setCell ⟨b, 0, none⟩ v0).setCell ⟨b, 1, none⟩ v1).setCell ⟨b, 2, none⟩ v2).setCell ⟨b, 3, none⟩ v3).ownsRow B e size v n xs :=
  ownsRow_setCell_below (ownsRow_setCell_below (ownsRow_setCell_below (ownsRow_setCell_below h (a := ⟨b, 0, none⟩) hb v0) (a := ⟨b, 1, none⟩) hb v1) (a := ⟨b, 2, none⟩) hb v2) (a := ⟨b, 3, none⟩) hb v3
theorem stAt_set4 {b : Nat} {V : World} {x0 x1 x2 x3 : Value} (h0 : V.cell? ⟨b, 0, none⟩ = some x0) (h1 : V.cell? ⟨b, 1, none⟩ = some x1) (h2 : V.cell? ⟨b, 2, none⟩ = some x2) (h3 : V.cell? ⟨b, 3, none⟩ = some x3) (h : Sh) :
    StAt ((((V.setCell ⟨b, 0, none⟩ (.int .i64 h.t)).setCell ⟨b, 1, none⟩ (.slice h.a1 h.n1 h.c1)).setCell ⟨b, 2, none⟩ (.slice h.a2 h.n2 h.c2)).setCell ⟨b, 3, none⟩ (.slice h.a3 h.n3 h.c3)) b h := by
  refine ⟨?_, ?_, ?_, ?_⟩ <;> simp [go_sem, h0, h1, h2, h3]

end Go.Proofs.YtplnaaokapilpaaDoor.Vm
