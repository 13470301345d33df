/- A slice of slices of ints that came in, opened; the boxes of layer 9's laws; what their calls answer. -/
import Derived.Test.YtiejinphofkjaaaAwakeNine
import Derived.Test.YtiejinphofkjaaaListsNine
import Derived.Test.YtiejinphofkjaaaRights
import Derived.SizedLaws
import Derived.Deep.Matrix
namespace Go.Proofs.Ytiejinphofkjaaa.Vm
open Go.ChangeShapes Go.WideShapes Go.ChangeAt Go.RowKit Go.Deep
set_option maxRecDepth 100000

theorem cells_rowI9 : Try.prog.cellsOf 29 = 1 := by kernel_rfl
theorem cells_int9 : Try.prog.cellsOf 3 = 1 := by kernel_rfl
theorem open_rowsI {H : Type} {enc : TypeId × Value → H} {W : World} {b0 : Nat} {v : Value} {d : DataW H} {ps : List MemPlace}
    (hv : Value.okWide Try.prog W .any b0 25 v) (h : DataW.Trod enc Try.prog W 0 (fun _ => true) true 25 v d ps) :
    ∃ a n c ls, v = .slice a n c ∧ RowL W W.heap.size a n c ls ∧ ∀ q ∈ ls, WfZ q := by
  obtain ⟨a, len, cap, rfl⟩ := okWide_slice Try.underlying25 hv
  obtain ⟨fuel, hf⟩ := h
  rcases open_int_rows Try.underlying25 Try.underlying29 Try.underlying3 cells_rowI9 cells_int9 hf with ⟨hcs, _⟩ | ⟨a', len', cap', A, L, C, Z, hcs, _, hl, hm, hx, hrow⟩
  · simp [Value.cells] at hcs
    obtain ⟨rfl, rfl, rfl⟩ := hcs
    exact ⟨none, 0, 0, [], rfl, rowL_nil W _, by simp⟩
  · simp [Value.cells] at hcs
    obtain ⟨rfl, rfl, rfl⟩ := hcs
    have hr : ∀ r, r < len → RowZ .i64 W W.heap.size (A r) (L r) (C r) ((Z r).take (L r)) ∧ WfZ ((Z r).take (L r)) := fun r hrl => by
      obtain ⟨_, h1, h2, h3, h4, h5, h6⟩ := hrow r (by omega)
      have hw : IsRow .i64 W (A r) (L r) (C r) (Z r) := by
        cases hA : A r with
        | none =>
          have h0 := h5 hA
          exact .inl ⟨rfl, by omega, h0, List.eq_nil_of_length_eq_zero (by omega)⟩
        | some a' => exact .inr ⟨a', rfl, h1, h2, h3, fun i hi => (h6 a' hA).2 i (by omega), h4⟩
      exact ⟨RowZ.of_isRow hw, fun y hy => hw.wf y (List.mem_of_mem_take hy)⟩
    refine ⟨_, len, cap, (List.range len).map fun r => (Z r).take (L r), rfl, ⟨by simp, hl, hm, fun hn => ?_⟩, ?_⟩
    · obtain ⟨gb, go, gs⟩ := a'
      have hgs : gs = none := by simpa [Addr.add] using World.cell?_spot (hrow 0 (by omega)).1
      subst hgs
      refine ⟨gb, go, rfl, by simpa [Addr.add] using World.block_lt_of_cell? W _ (hrow 0 (by omega)).1, fun i hi => ?_⟩
      have h0 := (hrow i (by omega)).1
      rw [Row.add] at h0
      rw [show ((List.range len).map fun r => (Z r).take (L r)).getD i [] = (Z i).take (L i) by simp [List.getD, hi]]
      exact ⟨A i, L i, C i, h0, (hr i hi).1⟩
    · intro l hl2
      obtain ⟨r, hr1, rfl⟩ := List.mem_map.1 hl2
      exact (hr r (List.mem_range.1 hr1)).2
theorem rowL_empty (w : World) (B : Nat) (a : Option Addr) {c : Nat} (hc : c ≤ maxLen) : RowL w B a 0 c [] := ⟨rfl, Nat.zero_le _, hc, fun h => absurd h (by omega)⟩
end Go.Proofs.Ytiejinphofkjaaa.Vm

namespace Go.Proofs.Ytiejinphofkjaaa.Vm
open Go Go.RowKit Go.Maps
set_option maxRecDepth 100000

/-- The boxes of a law: a grid, two ints. -/
theorem args9_head (w : World) (W H : Int) (s : ByteArray) (x y : Int) :
    ∃ w1, w1 = (w.alloc (gridO W H s)).alloc (.cells #[.int .i64 x, .int .i64 y] 24) ∧ Below w.heap.size w w1 ∧ w1.heap.size = w.heap.size + 2 ∧ GridAt w1 w.heap.size W H s ∧ w1.cell? ⟨w.heap.size + 1, 0, none⟩ = some (.int .i64 x) ∧ w1.cell? ⟨w.heap.size + 1, 1, none⟩ = some (.int .i64 y) := by
  refine ⟨_, rfl, ((Below.refl _ _).alloc (Nat.le_refl _) _).alloc (by simp) _, by simp, ?_, cell_new _ _ _ (by simp) rfl, cell_new _ _ _ (by simp) rfl⟩
  exact (gridAt_new w W H s).below ((Below.refl _ _).alloc (Nat.le_refl _) _) (by simp)
/-- What a path answers, where what lay at A is kept. -/
def PathPost (A : World) (r : Option (List Int)) (e : Ending) (V' : World) : Prop :=
  ∃ a n c l b, e = .returned (.tuple #[.slice a n c, .bool b]) ∧ PathOut r l b ∧ RowZ .i64 V' V'.heap.size a n c l ∧ Kept A V'
theorem path_kept {f : Nat} (hf : SaysPath f) {W H fr to : Int} {s : ByteArray} {bl : List Int} {oth : List (List Int)} {a1 a2 : Option Addr} {n1 c1 n2 c2 B : Nat} {A V : World} (hA : Kept A V) (hok : Okay W H s) (h1 : RowZ .i64 V B a1 n1 c1 bl) (h2 : RowL V B a2 n2 c2 oth) (hB : B ≤ V.heap.size) (hn1 : n1 ≤ 1000) (hn2 : n2 ≤ 1000)
    (hq : ∀ q ∈ oth, q.length ≤ 1000) (hw : WfZ bl) (hwq : ∀ q ∈ oth, WfZ q) (hfr : wfI fr) (hto : wfI to) :
    Calls Try.prog f #[gridV W H s, .int .i64 fr, .int .i64 to, .slice a1 n1 c1, .slice a2 n2 c2] V (PathPost A (pathG W H (bytesOf s) bl oth fr to)) :=
  (hf W H fr to s bl oth a1 a2 n1 c1 n2 c2 B V hok h1 h2 hB hn1 hn2 hq hw hwq hfr hto).mono fun e V' ⟨x1, x2, x3, x4, x5, g1, g2, g3, g4⟩ => ⟨x1, x2, x3, x4, x5, g1, g2, g3, Below.trans hA (g4.mono (Below.size hA))⟩
end Go.Proofs.Ytiejinphofkjaaa.Vm
