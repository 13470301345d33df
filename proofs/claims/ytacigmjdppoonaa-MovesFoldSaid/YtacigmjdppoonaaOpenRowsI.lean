/- A slice of slices of ints that came in, opened. -/
import Derived.Test.YtacigmjdppoonaaIntRows
import Derived.Test.YtacigmjdppoonaaAppendZ
import Derived.SizedLaws
import Derived.Deep.Matrix
namespace Go.Proofs.Ytacigmjdppoonaa.Vm
open Go.ChangeShapes Go.WideShapes Go.ChangeAt Go.RowKit Go.Deep
set_option maxRecDepth 100000

theorem cells_rowI9 : Try.prog.cellsOf 27 = 1 := by kernel_rfl
theorem cells_int9 : Try.prog.cellsOf 3 = 1 := by kernel_rfl
theorem open_rowsI {H : Type} {enc : TypeId × Value → H} {W : World} {b0 : Nat} {v : Value} {d : DataW H} {ps : List MemPlace}
    (hv : Value.okWide Try.prog W .any b0 24 v) (h : DataW.Trod enc Try.prog W 0 (fun _ => true) true 24 v d ps) :
    ∃ a n c ls, v = .slice a n c ∧ RowL W W.heap.size a n c ls ∧ ∀ q ∈ ls, WfZ q := by
  obtain ⟨a, len, cap, rfl⟩ := okWide_slice Try.underlying24 hv
  obtain ⟨fuel, hf⟩ := h
  rcases open_int_rows Try.underlying24 Try.underlying27 Try.underlying3 cells_rowI9 cells_int9 hf with ⟨hcs, _⟩ | ⟨a', len', cap', A, L, C, Z, hcs, _, hl, hm, hx, hrow⟩
  · simp [Value.cells] at hcs
    obtain ⟨rfl, rfl, rfl⟩ := hcs
    exact ⟨none, 0, 0, [], rfl, rowL_nil W _, by simp⟩
  · simp [Value.cells] at hcs
    obtain ⟨rfl, rfl, rfl⟩ := hcs
    have hr : ∀ r, r < len → RowZ .i64 W W.heap.size (A r) (L r) (C r) ((Z r).take (L r)) ∧ WfZ ((Z r).take (L r)) := fun r hrl => by
      obtain ⟨_, h1, h2, h3, h4, h5, h6⟩ := hrow r (by omega)
      have hw : IsRow .i64 W (A r) (L r) (C r) (Z r) := by
        cases hA : A r with
        | none =>
          have h0 := h5 hA
          exact .inl ⟨rfl, by omega, h0, List.eq_nil_of_length_eq_zero (by omega)⟩
        | some a' => exact .inr ⟨a', rfl, h1, h2, h3, fun i hi => (h6 a' hA).2 i (by omega), h4⟩
      exact ⟨RowZ.of_isRow hw, fun y hy => hw.wf y (List.mem_of_mem_take hy)⟩
    refine ⟨_, len, cap, (List.range len).map fun r => (Z r).take (L r), rfl, ⟨by simp, hl, hm, fun hn => ?_⟩, ?_⟩
    · obtain ⟨gb, go, gs⟩ := a'
      have hgs : gs = none := by simpa [Addr.add] using World.cell?_spot (hrow 0 (by omega)).1
      subst hgs
      refine ⟨gb, go, rfl, by simpa [Addr.add] using World.block_lt_of_cell? W _ (hrow 0 (by omega)).1, fun i hi => ?_⟩
      have h0 := (hrow i (by omega)).1
      rw [Row.add] at h0
      rw [show ((List.range len).map fun r => (Z r).take (L r)).getD i [] = (Z i).take (L i) by simp [List.getD, hi]]
      exact ⟨A i, L i, C i, h0, (hr i hi).1⟩
    · intro l hl2
      obtain ⟨r, hr1, rfl⟩ := List.mem_map.1 hl2
      exact (hr r (List.mem_range.1 hr1)).2
theorem rowL_empty (w : World) (B : Nat) (a : Option Addr) {c : Nat} (hc : c ≤ maxLen) : RowL w B a 0 c [] := ⟨rfl, Nat.zero_le _, hc, fun h => absurd h (by omega)⟩
end Go.Proofs.Ytacigmjdppoonaa.Vm
