/- Arguments opened: a slice of ints, an array of three ints, an array of two slices of ints. -/
import Derived.Test.YtgjolllacchdeaaOpens
import Derived.Test.YtgjolllacchdeaaWordsZ
namespace Go.Proofs.Ytgjolllacchdeaa.Vm
open Go.ChangeShapes Go.WideShapes Go.ChangeAt Go.RowKit

theorem cellsRowI : Try.prog.cellsOf 25 = 1 := by kernel_rfl
/-- A slice of ints in one cell, opened. -/
theorem row_of_trodI {H : Type} {enc : TypeId × Value → H} {W : World} {m : Nat} {c : Value} {x : DataW H × List MemPlace}
    (h : DataW.trod enc Try.prog W 0 (fun _ => true) true m 25 [c] = some x) : ∃ a n k zs, c = .slice a n k ∧ IsRow .i64 W a n k zs := by
  rcases open_ints Try.underlying25 Try.underlying3 (by kernel_rfl) h with ⟨hcs, _⟩ | ⟨y, l, k, zs, hcs, _, hl, hm, hz, _, hcell, hwz⟩
  · simp at hcs
    exact ⟨none, 0, 0, [], hcs, .inl ⟨rfl, rfl, rfl, rfl⟩⟩
  · simp at hcs
    exact ⟨some y, l, k, zs, hcs, .inr ⟨y, rfl, hl, hm, by simpa using hz, hcell, hwz⟩⟩
theorem open_intsArg {H : Type} {enc : TypeId × Value → H} {W : World} {b0 : Nat} {v : Value} {d : DataW H} {ps : List MemPlace}
    (hv : Value.okWide Try.prog W .any b0 25 v) (h : DataW.Trod enc Try.prog W 0 (fun _ => true) true 25 v d ps) : ∃ a n k zs, v = .slice a n k ∧ IsRow .i64 W a n k zs := by
  obtain ⟨a0, n0, k0, rfl⟩ := okWide_slice Try.underlying25 hv
  obtain ⟨fuel, hf⟩ := h
  obtain ⟨a, n, k, zs, e, hr⟩ := row_of_trodI (c := .slice a0 n0 k0) (by simpa [Value.cells] using hf)
  exact ⟨a, n, k, zs, e, hr⟩

theorem cellsThree : Try.prog.cellsOf 43 = 3 := by kernel_rfl
theorem open_threeInts {H : Type} {enc : TypeId × Value → H} {W : World} {base b0 : Nat} {sp : Nat → Bool} {held : Bool} {v : Value} {d : DataW H} {ps : List MemPlace}
    (hv : Value.okWide Try.prog W .any b0 43 v) (h : DataW.Trod enc Try.prog W base sp held 43 v d ps) :
    ∃ x y z : Int, v = .agg #[.int .i64 x, .int .i64 y, .int .i64 z] ∧ (Lit.int .i64 x).wf = true ∧ (Lit.int .i64 y).wf = true ∧ (Lit.int .i64 z).wf = true := by
  obtain ⟨cs, rfl, hsz, _⟩ : ∃ cs, v = .agg cs ∧ cs.size = Try.prog.cellsOf 43 ∧ Row.okWide Try.prog W .any b0 43 cs := by
    simpa [Value.okWide, Try.underlying43] using hv
  rw [cellsThree] at hsz
  obtain ⟨l⟩ := cs
  obtain ⟨c0, c1, c2, rfl⟩ : ∃ c0 c1 c2, l = [c0, c1, c2] := by
    match l, hsz with
    | [c0, c1, c2], _ => exact ⟨c0, c1, c2, rfl⟩
  obtain ⟨fuel, hf⟩ := h
  obtain ⟨xs, m, _, _, _, hl, hel⟩ := DataW.trod_array Try.underlying43 hf
  have h0 := hel 0 (by omega)
  have h1 := hel 1 (by omega)
  have h2 := hel 2 (by omega)
  rw [cellsInt1] at h0 h1 h2
  simp only [Value.cells] at h0 h1 h2
  rw [List.getElem?_eq_getElem (by omega)] at h0 h1 h2
  obtain ⟨x, e0, _, w0⟩ := DataW.trod_int Try.underlying3 h0
  obtain ⟨y, e1, _, w1⟩ := DataW.trod_int Try.underlying3 h1
  obtain ⟨z, e2, _, w2⟩ := DataW.trod_int Try.underlying3 h2
  simp at e0 e1 e2
  subst e0 e1 e2
  exact ⟨x, y, z, rfl, w0, w1, w2⟩

theorem cellsLists : Try.prog.cellsOf 26 = 2 := by kernel_rfl
theorem open_twoLists {H : Type} {enc : TypeId × Value → H} {W : World} {b0 : Nat} {v : Value} {d : DataW H} {ps : List MemPlace}
    (hv : Value.okWide Try.prog W .any b0 26 v) (h : DataW.Trod enc Try.prog W 0 (fun _ => true) true 26 v d ps) :
    ∃ a1 n1 k1 z1 a2 n2 k2 z2, v = .agg #[.slice a1 n1 k1, .slice a2 n2 k2] ∧ IsRow .i64 W a1 n1 k1 z1 ∧ IsRow .i64 W a2 n2 k2 z2 := by
  obtain ⟨cs, rfl, hsz, _⟩ : ∃ cs, v = .agg cs ∧ cs.size = Try.prog.cellsOf 26 ∧ Row.okWide Try.prog W .any b0 26 cs := by
    simpa [Value.okWide, Try.underlying26] using hv
  rw [cellsLists] at hsz
  obtain ⟨l⟩ := cs
  obtain ⟨c0, c1, rfl⟩ : ∃ c0 c1, l = [c0, c1] := by
    match l, hsz with
    | [c0, c1], _ => exact ⟨c0, c1, rfl⟩
  obtain ⟨fuel, hf⟩ := h
  obtain ⟨xs, m, _, _, _, hl, hel⟩ := DataW.trod_array Try.underlying26 hf
  have h0 := hel 0 (by omega)
  have h1 := hel 1 (by omega)
  rw [cellsRowI] at h0 h1
  simp only [Value.cells] at h0 h1
  rw [List.getElem?_eq_getElem (by omega)] at h0 h1
  obtain ⟨a1, n1, k1, z1, e0, w0⟩ := row_of_trodI (c := c0) (by simpa using h0)
  obtain ⟨a2, n2, k2, z2, e1, w1⟩ := row_of_trodI (c := c1) (by simpa using h1)
  subst e0 e1
  exact ⟨a1, n1, k1, z1, a2, n2, k2, z2, rfl, w0, w1⟩
end Go.Proofs.Ytgjolllacchdeaa.Vm
