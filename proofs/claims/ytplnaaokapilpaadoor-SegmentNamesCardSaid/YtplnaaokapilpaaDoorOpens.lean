/- Arguments opened: a grid, and an array of two ints. Arguments opened: a slice of ints, an array of three ints, an array of two slices of ints. Arguments opened: a state, an array of two states. -/
import Derived.Test.YtplnaaokapilpaaDoorFloors
import Derived.Test.YtplnaaokapilpaaDoorWords
import Derived.Test.YtplnaaokapilpaaDoorStWords
import Derived.WalkKit
import Derived.ProofKit
import Derived.OpenShut
import Derived.ShutString
import Derived.ChangeOld
import Derived.Below
import Derived.Deep.Slices
import Derived.Deep.Fields
import Derived.Lib.SmallJoins
namespace Go.Proofs.YtplnaaokapilpaaDoor.Vm
open Go.ChangeShapes Go.WideShapes Go.ChangeAt Go.RowKit
set_option maxRecDepth 100000

theorem cellsInt1 : Tryd.prog.cellsOf 3 = 1 := by kernel_rfl
theorem cellsStr1 : Tryd.prog.cellsOf 9 = 1 := by kernel_rfl


end Go.Proofs.YtplnaaokapilpaaDoor.Vm

namespace Go.Proofs.YtplnaaokapilpaaDoor.Vm
open Go.ChangeShapes Go.WideShapes Go.ChangeAt Go.RowKit
set_option maxRecDepth 100000

theorem cellsRowI : Tryd.prog.cellsOf 30 = 1 := by kernel_rfl
/-- A slice of ints in one cell, opened. -/
theorem row_of_trodI {H : Type} {enc : TypeId × Value → H} {W : World} {m : Nat} {c : Value} {x : DataW H × List MemPlace}
    (h : DataW.trod enc Tryd.prog W 0 (fun _ => true) true m 30 [c] = some x) : ∃ a n k zs, c = .slice a n k ∧ IsRow .i64 W a n k zs := by
  rcases open_ints Tryd.underlying30 Tryd.underlying3 (by kernel_rfl) h with ⟨hcs, _⟩ | ⟨y, l, k, zs, hcs, _, hl, hm, hz, _, hcell, hwz⟩
  · simp at hcs
    exact ⟨none, 0, 0, [], hcs, .inl ⟨rfl, rfl, rfl, rfl⟩⟩
  · simp at hcs
    exact ⟨some y, l, k, zs, hcs, .inr ⟨y, rfl, hl, hm, by simpa using hz, hcell, hwz⟩⟩
theorem open_intsArg {H : Type} {enc : TypeId × Value → H} {W : World} {b0 : Nat} {v : Value} {d : DataW H} {ps : List MemPlace}
    (hv : Value.okWide Tryd.prog W .any b0 30 v) (h : DataW.Trod enc Tryd.prog W 0 (fun _ => true) true 30 v d ps) : ∃ a n k zs, v = .slice a n k ∧ IsRow .i64 W a n k zs := by
  obtain ⟨a0, n0, k0, rfl⟩ := okWide_slice Tryd.underlying30 hv
  obtain ⟨fuel, hf⟩ := h
  obtain ⟨a, n, k, zs, e, hr⟩ := row_of_trodI (c := .slice a0 n0 k0) (by simpa [Value.cells] using hf)
  exact ⟨a, n, k, zs, e, hr⟩


end Go.Proofs.YtplnaaokapilpaaDoor.Vm

namespace Go.Proofs.YtplnaaokapilpaaDoor.Vm
open Go Go.ChangeShapes Go.WideShapes Go.ChangeAt Go.RowKit Go.Deep
set_option maxRecDepth 100000

/-- A slice of records that came in: nil; or 'cap' records. -/
def IsRowR (w : World) (a : Option Addr) (len cap : Nat) (rs : List Rec) : Prop :=
  (a = none ∧ len = 0 ∧ cap = 0 ∧ rs = []) ∨
  ∃ x, a = some x ∧ len ≤ cap ∧ cap ≤ maxLen ∧ rs.length = len ∧ (0 < len → ∃ b off, x = ⟨b, off, none⟩ ∧ b < w.heap.size ∧ ∀ i, i < len → RecAt w b (off + i * 5) (rs.getD i zr)) ∧ ∀ i, i < rs.length → (Lit.int .i64 (rs.getD i zr).c).wf = true
theorem IsRowR.row {w : World} {a : Option Addr} {len cap : Nat} {rs : List Rec} (h : IsRowR w a len cap rs) : RowR w w.heap.size a len cap rs := by
  rcases h with ⟨rfl, rfl, rfl, rfl⟩ | ⟨x, rfl, hl, hm, hz, hc, _⟩
  · exact RowR.nil _ _
  · exact ⟨hz, hl, hm, fun hn => by obtain ⟨b, off, rfl, hb, hc⟩ := hc hn; exact ⟨b, off, rfl, hb, hc⟩⟩
theorem IsRowR.wf {w : World} {a : Option Addr} {len cap : Nat} {rs : List Rec} (h : IsRowR w a len cap rs) : ∀ i, i < rs.length → (Lit.int .i64 (rs.getD i zr).c).wf = true := by
  rcases h with ⟨rfl, rfl, rfl, rfl⟩ | ⟨x, rfl, hl, hm, hz, hc, hw⟩
  · intro i hi; simp at hi
  · exact hw

/-- Five ints in a row of cells. -/
theorem rec_of_trod {H : Type} {enc : TypeId × Value → H} {W : World} {base : Nat} {sp : Nat → Bool} {held : Bool} {e : TypeId} {n : Nat} {cs : List Value} {z : DataW H × List MemPlace} {o0 o1 o2 o3 o4 : Field}
    (he : Tryd.prog.underlying e = some (.struct #[o0, o1, o2, o3, o4])) (hone : oneCellFields Tryd.prog #[o0, o1, o2, o3, o4] = true) (hI : o0.type = 3 ∧ o1.type = 3 ∧ o2.type = 3 ∧ o3.type = 3 ∧ o4.type = 3)
    (hc : cs.length = 5) (h : DataW.trod enc Tryd.prog W base sp held n e cs = some z) : ∃ r : Rec, cs = recL r ∧ (Lit.int .i64 r.c).wf = true := by
  obtain ⟨ys, n', _, _, _, hyl, hf⟩ := DataW.trod_struct he h
  have hyl5 : ys.length = 5 := hyl
  obtain ⟨c0, c1, c2, c3, c4, rfl⟩ : ∃ c0 c1 c2 c3 c4, cs = [c0, c1, c2, c3, c4] := by
    match cs, hc with
    | [c0, c1, c2, c3, c4], _ => exact ⟨c0, c1, c2, c3, c4, rfl⟩
  obtain ⟨p0, k0⟩ := hone_of hone 0 o0 rfl
  obtain ⟨p1, k1⟩ := hone_of hone 1 o1 rfl
  obtain ⟨p2, k2⟩ := hone_of hone 2 o2 rfl
  obtain ⟨p3, k3⟩ := hone_of hone 3 o3 rfl
  obtain ⟨p4, k4⟩ := hone_of hone 4 o4 rfl
  obtain ⟨i0, i1, i2, i3, i4⟩ := hI
  have h0 := hf 0 o0 rfl
  have h1 := hf 1 o1 rfl
  have h2 := hf 2 o2 rfl
  have h3 := hf 3 o3 rfl
  have h4 := hf 4 o4 rfl
  rw [p0, k0, i0, List.getElem?_eq_getElem (by omega)] at h0
  rw [p1, k1, i1, List.getElem?_eq_getElem (by omega)] at h1
  rw [p2, k2, i2, List.getElem?_eq_getElem (by omega)] at h2
  rw [p3, k3, i3, List.getElem?_eq_getElem (by omega)] at h3
  rw [p4, k4, i4, List.getElem?_eq_getElem (by omega)] at h4
  obtain ⟨x0, e0, _, _⟩ := DataW.trod_int Tryd.underlying3 h0
  obtain ⟨x1, e1, _, _⟩ := DataW.trod_int Tryd.underlying3 h1
  obtain ⟨x2, e2, _, w2⟩ := DataW.trod_int Tryd.underlying3 h2
  obtain ⟨x3, e3, _, _⟩ := DataW.trod_int Tryd.underlying3 h3
  obtain ⟨x4, e4, _, _⟩ := DataW.trod_int Tryd.underlying3 h4
  simp at e0 e1 e2 e3 e4
  subst e0 e1 e2 e3 e4
  exact ⟨⟨x0, x1, x2, x3, x4⟩, rfl, w2⟩

/-- A slice of records in one cell, opened. -/
theorem rowR_of_trod {H : Type} {enc : TypeId × Value → H} {W : World} {m : Nat} {c : Value} {x : DataW H × List MemPlace} {t e : TypeId} {o0 o1 o2 o3 o4 : Field} (ht : Tryd.prog.underlying t = some (.slice e))
    (he : Tryd.prog.underlying e = some (.struct #[o0, o1, o2, o3, o4])) (hone : oneCellFields Tryd.prog #[o0, o1, o2, o3, o4] = true) (hI : o0.type = 3 ∧ o1.type = 3 ∧ o2.type = 3 ∧ o3.type = 3 ∧ o4.type = 3) (hC : Tryd.prog.cellsOf e = 5)
    (h : DataW.trod enc Tryd.prog W 0 (fun _ => true) true m t [c] = some x) : ∃ a n k rs, c = .slice a n k ∧ IsRowR W a n k rs := by
  rcases open_slice ht h with ⟨hcs, _⟩ | ⟨a, len, cap, mm, n, D, Pl, hcs, _, hl, hm, hmm, _, hi⟩
  · simp at hcs
    exact ⟨none, 0, 0, [], hcs, .inl ⟨rfl, rfl, rfl, rfl⟩⟩
  · simp at hcs
    have hmm : mm = cap := by simpa using hmm
    subst hmm
    have hex : ∀ i, ∃ r : Rec, i < len → (∀ j, j < 5 → W.cell? (a.add (i * 5 + j)) = (recL r)[j]?) ∧ (Lit.int .i64 r.c).wf = true := fun i => by
      by_cases hil : i < len
      · obtain ⟨cs', hc', ht'⟩ := hi i (by omega)
        rw [hC] at hc'
        obtain ⟨_, hcl, hat⟩ := World.cells?_some hc'
        obtain ⟨r, rfl, hw⟩ := rec_of_trod he hone hI hcl ht'
        exact ⟨r, fun _ => ⟨fun j hj => by rw [← Go.Deep.add_add]; exact hat j hj, hw⟩⟩
      · exact ⟨zr, fun h => absurd h hil⟩
    obtain ⟨rs, hrl, hrs⟩ : ∃ rs : List Rec, rs.length = len ∧ ∀ i, i < len → (∀ j, j < 5 → W.cell? (a.add (i * 5 + j)) = (recL (rs.getD i zr))[j]?) ∧ (Lit.int .i64 (rs.getD i zr).c).wf = true := by
      refine ⟨(List.range len).map fun i => Classical.choose (hex i), by simp, fun i hil => ?_⟩
      have hget : ((List.range len).map fun i => Classical.choose (hex i)).getD i zr = Classical.choose (hex i) := by simp [List.getD, hil]
      rw [hget]
      exact Classical.choose_spec (hex i) hil
    refine ⟨some a, len, mm, rs, hcs, .inr ⟨a, rfl, hl, hm, hrl, fun hn => ?_, fun i hi => (hrs i (by omega)).2⟩⟩
    obtain ⟨b, off, spot⟩ := a
    have h0 := (hrs 0 hn).1 0 (by omega)
    have hspot : spot = none := by simpa [Addr.add] using World.cell?_spot (h0.trans (rfl : (recL (rs.getD 0 zr))[0]? = some (.int .i64 (rs.getD 0 zr).a)))
    subst hspot
    have hc : ∀ i, i < len → ∀ j, j < 5 → W.cell? ⟨b, off + i * 5 + j, none⟩ = (recL (rs.getD i zr))[j]? := fun i hi j hj => by
      have := (hrs i hi).1 j hj
      rwa [Row.add, ← Nat.add_assoc] at this
    refine ⟨b, off, rfl, ?_, fun i hi => ⟨hc i hi 0 (by omega), hc i hi 1 (by omega), hc i hi 2 (by omega), hc i hi 3 (by omega), hc i hi 4 (by omega)⟩⟩
    exact World.block_lt_of_cell? W ⟨b, off + 0 * 5 + 0, none⟩ ((hc 0 hn 0 (by omega)).trans (rfl : (recL (rs.getD 0 zr))[0]? = some (.int .i64 (rs.getD 0 zr).a)))

/-- A state that came in. -/
structure IsSt (W : World) (h : Sh) (s : St) : Prop where
  tick : h.t = s.tick
  rs : IsRowR W h.a1 h.n1 h.c1 s.rs
  ts : IsRowR W h.a2 h.n2 h.c2 s.ts
  bl : ∃ zs, IsRow .i64 W h.a3 h.n3 h.c3 zs ∧ s.bl = zs.take h.n3
theorem IsSt.stIn {W : World} {h : Sh} {s : St} (hs : IsSt W h s) : StIn W W.heap.size h s :=
  ⟨hs.tick, hs.rs.row, hs.ts.row, by obtain ⟨zs, hz, e⟩ := hs.bl; rw [e]; exact RowZ.of_isRow hz⟩
theorem IsSt.wfC {W : World} {h : Sh} {s : St} (hs : IsSt W h s) : WfC s := hs.rs.wf


end Go.Proofs.YtplnaaokapilpaaDoor.Vm
