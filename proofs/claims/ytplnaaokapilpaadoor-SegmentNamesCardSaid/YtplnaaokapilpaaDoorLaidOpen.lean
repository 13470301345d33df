/- What the rows' listed variables give the walks of layer 14, and the door's own heap as a world that has them. -/
import Derived.Test.YtplnaaokapilpaaDoorSegLays
import Derived.Test.YtplnaaokapilpaaDoorRows
import Derived.ProofKit
import Derived.LaidMore
import Derived.LaidHandle
import Derived.MakeChecks
import Derived.OpenShut
namespace Go.Proofs.YtplnaaokapilpaaDoor.Vm
open Go Go.RowKit Go.ChangeShapes Go.WideShapes
set_option maxRecDepth 100000

def laid14 : List (String × DataW Unit) := [("math/bits.deBruijn32tab", Rows.laid_math_bits_deBruijn32tab), ("math/bits.deBruijn64tab", Rows.laid_math_bits_deBruijn64tab), ("internal/strconv.uint64pow10", Rows.laid_internal_strconv_uint64pow10), ("strconv.ErrRange", Rows.laid_strconv_ErrRange), ("strconv.ErrSyntax", Rows.laid_strconv_ErrSyntax), ("tugger/segment.prefixes", Rows.laid_tugger_segment_prefixes)]
theorem gPow : Tryd.prog.globalNamed "internal/strconv.uint64pow10" = some 3 := by kernel_rfl
theorem gRng : Tryd.prog.globalNamed "strconv.ErrRange" = some 2 := by kernel_rfl
theorem gSyn : Tryd.prog.globalNamed "strconv.ErrSyntax" = some 1 := by kernel_rfl
theorem gPre : Tryd.prog.globalNamed "tugger/segment.prefixes" = some 0 := by kernel_rfl
theorem tPow : (Tryd.prog.globals[3]?).map (·.type) = some 148 := by kernel_rfl
theorem tRng : (Tryd.prog.globals[2]?).map (·.type) = some 58 := by kernel_rfl
theorem tSyn : (Tryd.prog.globals[1]?).map (·.type) = some 58 := by kernel_rfl
theorem tPre : (Tryd.prog.globals[0]?).map (·.type) = some 53 := by kernel_rfl
theorem powIs : Rows.laid_internal_strconv_uint64pow10 (H := Unit) = Lib.tabData .u64 Lib.pow10Tab := by rfl
theorem one_cell14 {P : Program} {w : World} {n : String} {g : Nat} {cs : Array Value} {v : Value} (hg : P.globalNamed n = some g) (h : w.var? P n = some cs) (hc : cs.toList = [v]) : w.cell? ⟨g, 0, none⟩ = some v := by
  have h1 := World.var?_cell hg h 0
  have e : cs = #[v] := by
    apply Array.toList_inj.1
    rw [hc]
  rw [h1, e]
  rfl
/-- What the condition gives. -/
theorem laid14_of {W : World} (h : laidMetH Tryd.prog laid14 W) : Laid14 W := by
  rw [MakeChecks.laidMetH_plain _ _ _ (by kernel_rfl)] at h
  obtain ⟨ps, ⟨_, _, _, _, _, _, _, _, _, _, ⟨_, _, _, _, _, _, _, _, _, _, ⟨g3, t3, cs3, f3, p3, q3, hg3, ht3, hv3, hd3, ⟨g4, t4, cs4, f4, p4, q4, hg4, ht4, hv4, hd4, ⟨g5, t5, cs5, f5, p5, q5, hg5, ht5, hv5, hd5, ⟨g6, t6, cs6, f6, p6, q6, hg6, ht6, hv6, hd6, _, _⟩, _⟩, _⟩, _⟩, _⟩, _⟩, _, _⟩ := h
  obtain rfl := Option.some.inj (gPow.symm.trans hg3)
  obtain rfl := Option.some.inj (gRng.symm.trans hg4)
  obtain rfl := Option.some.inj (gSyn.symm.trans hg5)
  obtain rfl := Option.some.inj (gPre.symm.trans hg6)
  obtain rfl := Option.some.inj (tPow.symm.trans ht3)
  obtain rfl := Option.some.inj (tRng.symm.trans ht4)
  obtain rfl := Option.some.inj (tSyn.symm.trans ht5)
  obtain rfl := Option.some.inj (tPre.symm.trans ht6)
  have htab : Lib.TabIs Tryd.prog W "internal/strconv.uint64pow10" .u64 Lib.pow10Tab := by
    unfold Lib.TabIs
    rw [hv3, ← Lib.cells_of_tab Tryd.underlying148 Tryd.underlying56 (by kernel_rfl) (by kernel_rfl) (by rw [powIs] at hd3; exact hd3)]
  obtain ⟨_, u4, v4, hc4, _, _⟩ := iface_of_trod Tryd.underlying58 (show DataW.trod _ Tryd.prog W 0 _ false f4 _ cs4.toList = some (.iface "*errors.errorString" _, p4) from hd4)
  obtain ⟨_, u5, v5, hc5, _, _⟩ := iface_of_trod Tryd.underlying58 (show DataW.trod _ Tryd.prog W 0 _ false f5 _ cs5.toList = some (.iface "*errors.errorString" _, p5) from hd5)
  obtain ⟨xs, m6, _, hx, hlen, hn, hel⟩ := DataW.trod_array Tryd.underlying53 hd6
  have c9 : Tryd.prog.cellsOf 9 = 1 := by kernel_rfl
  have c53 : Tryd.prog.cellsOf 53 = 2 := by kernel_rfl
  rw [c53] at hlen
  have hcl := World.var?_cell gPre hv6
  obtain ⟨l6⟩ := cs6
  simp only [List.size_toArray] at hlen hel
  match l6, hlen with
  | [y0, y1], _ =>
    have k0 := hel 0 (by omega)
    have k1 := hel 1 (by omega)
    rw [c9] at k0 k1
    match xs, hn with
    | [x0, x1], _ =>
      obtain ⟨s0, e0, r0, _⟩ := DataW.trod_string Tryd.underlying9 (show DataW.trod _ Tryd.prog W 0 _ false m6 9 [y0] = some x0 from k0)
      obtain ⟨s1, e1, r1, _⟩ := DataW.trod_string Tryd.underlying9 (show DataW.trod _ Tryd.prog W 0 _ false m6 9 [y1] = some x1 from k1)
      injection e0 with e0 _
      injection e1 with e1 _
      subst e0 e1
      have hx2 := congrArg Prod.fst hx
      simp only [Rows.laid_tugger_segment_prefixes, List.map_cons, List.map_nil, r0, r1, DataW.agg.injEq, List.cons.injEq, DataW.lit.injEq, Lit.string.injEq, and_true] at hx2
      have b0 : s0 = strOf segB := by
        apply bytesOf_inj
        rw [bytesOf_strOf (by decide)]
        unfold bytesOf
        rw [← hx2.1]
        rfl
      have b1 : s1 = strOf snapB := by
        apply bytesOf_inj
        rw [bytesOf_strOf (by decide)]
        unfold bytesOf
        rw [← hx2.2]
        rfl
      exact ⟨by rw [hcl 0, b0]; rfl, by rw [hcl 1, b1]; rfl, ⟨_, _, one_cell14 gSyn hv5 hc5⟩, ⟨_, _, one_cell14 gRng hv4 hc4⟩, htab⟩
/-- The door's own heap meets the condition. -/
theorem door14 (os : Os) (args : Array Value) : laidMetH Tryd.prog laid14 ((World.doorLaid Tryd.prog 400 os).forCall (fun _ _ => 0) ⟨#[], args, []⟩).memory :=
  laidMetH_of_parts3 (fuel := 8) (laidMet_of_run' 8 (by kernel_rfl) (by kernel_rfl)) (by kernel_rfl) (by kernel_rfl)
end Go.Proofs.YtplnaaokapilpaaDoor.Vm
