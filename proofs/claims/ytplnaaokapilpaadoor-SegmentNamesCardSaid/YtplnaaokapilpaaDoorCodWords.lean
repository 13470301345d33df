/- Words for memory: a record as a value, in a block, and its slices. No function of the program is named here. -/
import Derived.Test.YtplnaaokapilpaaDoorCodMath
import Derived.Test.YtplnaaokapilpaaDoorAppendZ
namespace Go.Proofs.YtplnaaokapilpaaDoor.Vm
open Go Go.RowKit

/-- A record's slices. -/
structure Rh where
  t : Int
  a1 : Option Addr
  n1 : Nat
  c1 : Nat
  a2 : Option Addr
  n2 : Nat
  c2 : Nat
  a3 : Option Addr
  n3 : Nat
  c3 : Nat
  k : Int
abbrev rhV (h : Rh) : Value := .agg #[.int .i64 h.t, .slice h.a1 h.n1 h.c1, .slice h.a2 h.n2 h.c2, .slice h.a3 h.n3 h.c3, .int .u32 h.k]
abbrev rhO (h : Rh) : Obj := .cells #[.int .i64 h.t, .slice h.a1 h.n1 h.c1, .slice h.a2 h.n2 h.c2, .slice h.a3 h.n3 h.c3, .int .u32 h.k] 44
def RhAt (w : World) (b : Nat) (h : Rh) : Prop :=
  w.cell? ⟨b, 0, none⟩ = some (.int .i64 h.t) ∧ w.cell? ⟨b, 1, none⟩ = some (.slice h.a1 h.n1 h.c1) ∧ w.cell? ⟨b, 2, none⟩ = some (.slice h.a2 h.n2 h.c2) ∧ w.cell? ⟨b, 3, none⟩ = some (.slice h.a3 h.n3 h.c3) ∧ w.cell? ⟨b, 4, none⟩ = some (.int .u32 h.k)
theorem RhAt.below {w w' : World} {b B : Nat} {h : Rh} (hs : RhAt w b h) (hb : Below B w w') (hB : b < B) : RhAt w' b h :=
  ⟨(hb.cell (p := ⟨b, 0, none⟩) hB).trans hs.1, (hb.cell (p := ⟨b, 1, none⟩) hB).trans hs.2.1, (hb.cell (p := ⟨b, 2, none⟩) hB).trans hs.2.2.1, (hb.cell (p := ⟨b, 3, none⟩) hB).trans hs.2.2.2.1, (hb.cell (p := ⟨b, 4, none⟩) hB).trans hs.2.2.2.2⟩
theorem rhAt_new (w : World) (h : Rh) : RhAt (w.alloc (rhO h)) w.heap.size h := ⟨by simp, by simp, by simp, by simp, by simp⟩
structure RhIn (w : World) (B : Nat) (h : Rh) (x : Rcd) : Prop where
  tick : h.t = x.tick
  ins : RowI w B h.a1 h.n1 h.c1 x.ins
  cs : RowZ .i64 w B h.a2 h.n2 h.c2 x.cs
  ws : RowZ .i64 w B h.a3 h.n3 h.c3 x.ws
  ck : h.k = x.ck
theorem RhIn.below {w w' : World} {B : Nat} {h : Rh} {x : Rcd} (hs : RhIn w B h x) (hb : Below B w w') : RhIn w' B h x := ⟨hs.tick, hs.ins.below hb, hs.cs.below hb, hs.ws.below hb, hs.ck⟩
theorem RhIn.mono {w : World} {B B' : Nat} {h : Rh} {x : Rcd} (hs : RhIn w B h x) (hB : B ≤ B') : RhIn w B' h x := ⟨hs.tick, hs.ins.mono hB, hs.cs.mono hB, hs.ws.mono hB, hs.ck⟩
end Go.Proofs.YtplnaaokapilpaaDoor.Vm
