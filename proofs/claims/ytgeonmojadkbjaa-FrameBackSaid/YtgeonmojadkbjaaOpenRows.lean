/- A slice of slices of bytes that came in, opened; the reach of each. -/
import Derived.Test.YtgeonmojadkbjaaRowss
import Derived.SizedLaws
import Derived.Deep.Matrix
namespace Go.Proofs.Ytgeonmojadkbjaa.Vm
open Go.ChangeShapes Go.WideShapes Go.ChangeAt Go.RowKit Go.Deep

theorem cells_u8s : Try.prog.cellsOf 22 = 1 := by kernel_rfl
theorem cells_u8 : Try.prog.cellsOf 5 = 1 := by kernel_rfl
theorem bytes_u8 : Try.prog.bytesOf 5 = 1 := by kernel_rfl

/-- A weight of a member is one of all. -/
theorem weights_of_mem {H : Type} {P : Program} {e : TypeId} {l : List (DataW H)} {d : DataW H} (hd : d ∈ l) {n : Nat} (hn : n ∈ d.weights P e) : n ∈ DataW.weightsAll P e l := by
  induction l with
  | nil => cases hd
  | cons d' r ih =>
    simp only [DataW.weightsAll, List.mem_append]
    rcases List.mem_cons.1 hd with rfl | hd
    · exact .inl hn
    · exact .inr (ih hd)
/-- The reach of a slice among a slice's elements. -/
theorem reach_inside {H : Type} {P : Program} {ts : List TypeId} {ds : List (DataW H)} (h : (DataW.weightsEach P ts ds).all (· ≤ reachBytes) = true) {j : Nat} {t e q : TypeId} {elems spare e' sp' : List (DataW H)}
    (ht : ts[j]? = some t) (hd : ds[j]? = some (.slice elems spare)) (hu : P.underlying t = some (.slice e)) (hu2 : P.underlying e = some (.slice q)) (hx : DataW.slice e' sp' ∈ elems) : (e'.length + sp'.length) * P.bytesOf q ≤ reachBytes := by
  have hm : (e'.length + sp'.length) * P.bytesOf q ∈ DataW.weights P t (.slice elems spare) := by
    simp only [DataW.weights, hu, List.mem_cons, List.mem_append]
    exact .inr (.inl (weights_of_mem hx (by simp [DataW.weights, hu2])))
  exact of_decide_eq_true (List.all_eq_true.1 h _ (DataW.weights_mem_each ht hd _ hm))

/-- What a slice of slices of bytes that came in holds. -/
theorem open_rows {H : Type} {enc : TypeId × Value → H} {W : World} {fuel : Nat} {a : Option Addr} {len cap : Nat} {x : DataW H × List MemPlace}
    (hf : DataW.trod enc Try.prog W 0 (fun _ => true) true fuel 28 (Value.slice a len cap).cells.toList = some x) :
    ∃ ls, Rows W W.heap.size a len cap ls ∧ (∀ l ∈ ls, ∀ x ∈ l, x < 256) ∧ ∀ l ∈ ls, l.length = 0 ∨ ∃ elems spare e' sp', x.1 = .slice elems spare ∧ DataW.slice e' sp' ∈ elems ∧ l.length ≤ e'.length + sp'.length := by
  rcases open_int_rows Try.underlying28 Try.underlying22 Try.underlying5 cells_u8s cells_u8 hf with ⟨hcs, _⟩ | ⟨a', len', cap', A, L, C, Z, hcs, _, hl, hm, hx, hrow⟩
  · simp [Value.cells] at hcs
    obtain ⟨rfl, rfl, rfl⟩ := hcs
    exact ⟨[], Rows.nil W _, by simp, by simp⟩
  · simp [Value.cells] at hcs
    obtain ⟨rfl, rfl, rfl⟩ := hcs
    have hr : ∀ r, r < len → Row .u8 W W.heap.size (A r) (L r) (C r) (((Z r).take (L r)).map Int.toNat) ∧ ∀ y ∈ ((Z r).take (L r)).map Int.toNat, y < 256 := fun r hrl => by
      obtain ⟨_, h1, h2, h3, h4, h5, h6⟩ := hrow r (by omega)
      have hw : IsRow .u8 W (A r) (L r) (C r) (Z r) := by
        cases hA : A r with
        | none =>
          have h0 := h5 hA
          exact .inl ⟨rfl, by omega, h0, List.eq_nil_of_length_eq_zero (by omega)⟩
        | some a' => exact .inr ⟨a', rfl, h1, h2, h3, fun i hi => (h6 a' hA).2 i (by omega), h4⟩
      refine ⟨Row.of_isRow hw (fun n hn => (bounds_u8 (hw.wf n hn)).1), fun y hy => ?_⟩
      obtain ⟨n, hn, rfl⟩ := List.mem_map.1 hy
      have := bounds_u8 (hw.wf n (List.mem_of_mem_take hn))
      omega
    refine ⟨(List.range len).map fun r => ((Z r).take (L r)).map Int.toNat, ⟨by simp, hl, hm, fun hn => ?_⟩, ?_, ?_⟩
    · obtain ⟨gb, go, gs⟩ := a'
      have hgs : gs = none := by simpa [Addr.add] using World.cell?_spot (hrow 0 (by omega)).1
      subst hgs
      refine ⟨gb, go, rfl, by simpa [Addr.add] using World.block_lt_of_cell? W _ (hrow 0 (by omega)).1, fun i hi => ?_⟩
      have h0 := (hrow i (by omega)).1
      have hri := (hr i hi).1
      have e : ((List.range len).map fun r => ((Z r).take (L r)).map Int.toNat).getD i [] = ((Z i).take (L i)).map Int.toNat := by simp [List.getD, hi]
      rw [e, hri.1]
      rw [Row.add] at h0
      exact ⟨A i, C i, h0, hri⟩
    · intro l hl2
      obtain ⟨r, hr1, rfl⟩ := List.mem_map.1 hl2
      exact (hr r (List.mem_range.1 hr1)).2
    · intro l hl2
      obtain ⟨r, hr1, rfl⟩ := List.mem_map.1 hl2
      have hr1 := List.mem_range.1 hr1
      obtain ⟨_, h1, _, h3, _, h5, _⟩ := hrow r (by omega)
      cases hA : A r with
      | none => exact .inl (by have := h5 hA; simp; omega)
      | some a'' =>
        refine .inr ⟨_, _, lits .u8 ((Z r).take (L r)), lits .u8 ((Z r).drop (L r)), by rw [hx], List.mem_map.2 ⟨r, List.mem_range.2 hr1, by simp [intRow, hA]⟩, ?_⟩
        simp [lits]
end Go.Proofs.Ytgeonmojadkbjaa.Vm
