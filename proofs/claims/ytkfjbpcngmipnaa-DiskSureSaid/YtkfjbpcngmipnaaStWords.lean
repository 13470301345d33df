/- A grid that lies in a block. Words for memory: states as values, as blocks, and what their slices hold; grids and states in boxes. No function of the program is named here. -/
import Derived.Test.YtkfjbpcngmipnaaFloors
import Derived.Test.YtkfjbpcngmipnaaStMath
namespace Go.Proofs.Ytkfjbpcngmipnaa.Vm
open Go.RowKit

/-- A grid that lies in a block. -/
def GridAt (w : World) (b : Nat) (W H : Int) (s : ByteArray) : Prop :=
  w.cell? ⟨b, 0, none⟩ = some (.int .i64 W) ∧ w.cell? ⟨b, 1, none⟩ = some (.int .i64 H) ∧ w.cell? ⟨b, 2, none⟩ = some (.string s)
theorem GridAt.below {w w' : World} {b B : Nat} {W H : Int} {s : ByteArray} (h : GridAt w b W H s) (hb : Below B w w') (hB : b < B) : GridAt w' b W H s :=
  ⟨(hb.cell (p := ⟨b, 0, none⟩) hB).trans h.1, (hb.cell (p := ⟨b, 1, none⟩) hB).trans h.2.1, (hb.cell (p := ⟨b, 2, none⟩) hB).trans h.2.2⟩

end Go.Proofs.Ytkfjbpcngmipnaa.Vm

namespace Go.Proofs.Ytkfjbpcngmipnaa.Vm
open Go.RowKit

/-- A state's cells. -/
structure Sh where
  t : Int
  a1 : Option Addr
  n1 : Nat
  c1 : Nat
  a2 : Option Addr
  n2 : Nat
  c2 : Nat
  a3 : Option Addr
  n3 : Nat
  c3 : Nat
abbrev shV (h : Sh) : Value := .agg #[.int .i64 h.t, .slice h.a1 h.n1 h.c1, .slice h.a2 h.n2 h.c2, .slice h.a3 h.n3 h.c3]
/-- A state's cells lie in block b. -/
def StAt (w : World) (b : Nat) (h : Sh) : Prop :=
  w.cell? ⟨b, 0, none⟩ = some (.int .i64 h.t) ∧ w.cell? ⟨b, 1, none⟩ = some (.slice h.a1 h.n1 h.c1) ∧ w.cell? ⟨b, 2, none⟩ = some (.slice h.a2 h.n2 h.c2) ∧ w.cell? ⟨b, 3, none⟩ = some (.slice h.a3 h.n3 h.c3)
theorem StAt.below {w w' : World} {b B : Nat} {h : Sh} (hs : StAt w b h) (hb : Below B w w') (hB : b < B) : StAt w' b h :=
  ⟨(hb.cell (p := ⟨b, 0, none⟩) hB).trans hs.1, (hb.cell (p := ⟨b, 1, none⟩) hB).trans hs.2.1, (hb.cell (p := ⟨b, 2, none⟩) hB).trans hs.2.2.1, (hb.cell (p := ⟨b, 3, none⟩) hB).trans hs.2.2.2⟩

/-- What the slices of a state hold. -/
structure StIn (w : World) (B : Nat) (h : Sh) (s : St) : Prop where
  tick : h.t = s.tick
  rs : RowR w B h.a1 h.n1 h.c1 s.rs
  ts : RowR w B h.a2 h.n2 h.c2 s.ts
  bl : RowZ .i64 w B h.a3 h.n3 h.c3 s.bl
theorem StIn.below {w w' : World} {B : Nat} {h : Sh} {s : St} (hs : StIn w B h s) (hb : Below B w w') : StIn w' B h s := ⟨hs.tick, hs.rs.below hb, hs.ts.below hb, hs.bl.below hb⟩
theorem StIn.mono {w : World} {B B' : Nat} {h : Sh} {s : St} (hs : StIn w B h s) (hB : B ≤ B') : StIn w B' h s :=
  ⟨hs.tick, hs.rs.mono hB, hs.ts.mono hB, by
    obtain ⟨h1, h2, h3, h4⟩ := hs.bl
    exact ⟨h1, h2, h3, fun hn => by obtain ⟨b, off, e, hb, hc⟩ := h4 hn; exact ⟨b, off, e, by omega, hc⟩⟩⟩
/-- The robots' Tasks are ints. -/
def WfC (s : St) : Prop := ∀ i, i < s.rs.length → (Lit.int .i64 (s.rs.getD i zr).c).wf = true

/-- A new record. -/
theorem recAt_new (w : World) (r : Rec) (t : TypeId) : RecAt (w.alloc (.cells #[.int .i64 r.a, .int .i64 r.b, .int .i64 r.c, .int .i64 r.d, .int .i64 r.e] t)) w.heap.size 0 r := ⟨by simp, by simp, by simp, by simp, by simp⟩
end Go.Proofs.Ytkfjbpcngmipnaa.Vm
