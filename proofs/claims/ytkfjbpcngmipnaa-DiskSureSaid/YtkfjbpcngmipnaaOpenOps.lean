/- A slice of operations of a disk that came in, opened. -/
import Derived.Test.YtkfjbpcngmipnaaOpens
import Derived.Test.YtkfjbpcngmipnaaLight13
namespace Go.Proofs.Ytkfjbpcngmipnaa.Vm
open Go Go.ChangeShapes Go.WideShapes Go.ChangeAt Go.RowKit Go.Deep
set_option maxRecDepth 100000

theorem cellsOp : Try.prog.cellsOf 36 = 6 := by kernel_rfl
theorem bytes_of_trod13 {H : Type} {enc : TypeId × Value → H} {W : World} {m : Nat} {c : Value} {x : DataW H × List MemPlace}
    (h : DataW.trod enc Try.prog W 0 (fun _ => true) true m 33 [c] = some x) : ∃ a n k l, c = .slice a n k ∧ Row .u8 W W.heap.size a n k l := by
  rcases open_ints Try.underlying33 Try.underlying5 (by kernel_rfl) h with ⟨hcs, _⟩ | ⟨x, l, c, zs, hcs, _, hl, hm, hz, _, hcell, hwz⟩
  · simp at hcs
    exact ⟨none, 0, 0, [], hcs, Row.nil _ _⟩
  · simp at hcs
    have hr : IsRow .u8 W _ _ _ zs := .inr ⟨_, rfl, hl, hm, by simpa using hz, hcell, hwz⟩
    exact ⟨_, _, _, _, hcs, Row.of_isRow hr (fun n hn => (bounds_u8 (hr.wf n hn)).1)⟩
theorem op_of_trod {H : Type} {enc : TypeId × Value → H} {W : World} {e : TypeId} {n : Nat} {cs : List Value} {z : DataW H × List MemPlace} {o0 o1 o2 o3 o4 o5 : Field}
    (he : Try.prog.underlying e = some (.struct #[o0, o1, o2, o3, o4, o5])) (hone : oneCellFields Try.prog #[o0, o1, o2, o3, o4, o5] = true) (hI : o0.type = 3 ∧ o1.type = 9 ∧ o2.type = 9 ∧ o3.type = 33 ∧ o4.type = 3 ∧ o5.type = 34)
    (hc : cs.length = 6) (h : DataW.trod enc Try.prog W 0 (fun _ => true) true n e cs = some z) : ∃ (x : OpS) (v : OpV), cs = opL x v ∧ OpIn W W.heap.size x v ∧ x.n ≤ 9223372036854775807 := by
  obtain ⟨ys, n', _, _, _, hyl, hf⟩ := DataW.trod_struct he h
  have hyl5 : ys.length = 6 := hyl
  obtain ⟨c0, c1, c2, c3, c4, c5, rfl⟩ : ∃ c0 c1 c2 c3 c4 c5, cs = [c0, c1, c2, c3, c4, c5] := by
    match cs, hc with
    | [c0, c1, c2, c3, c4, c5], _ => exact ⟨c0, c1, c2, c3, c4, c5, rfl⟩
  obtain ⟨p0, k0⟩ := hone_of hone 0 o0 rfl
  obtain ⟨p1, k1⟩ := hone_of hone 1 o1 rfl
  obtain ⟨p2, k2⟩ := hone_of hone 2 o2 rfl
  obtain ⟨p3, k3⟩ := hone_of hone 3 o3 rfl
  obtain ⟨p4, k4⟩ := hone_of hone 4 o4 rfl
  obtain ⟨p5, k5⟩ := hone_of hone 5 o5 rfl
  obtain ⟨i0, i1, i2, i3, i4, i5⟩ := hI
  have h0 := hf 0 o0 rfl
  have h1 := hf 1 o1 rfl
  have h2 := hf 2 o2 rfl
  have h3 := hf 3 o3 rfl
  have h4 := hf 4 o4 rfl
  have h5 := hf 5 o5 rfl
  rw [p0, k0, i0, List.getElem?_eq_getElem (by omega)] at h0
  rw [p1, k1, i1, List.getElem?_eq_getElem (by omega)] at h1
  rw [p2, k2, i2, List.getElem?_eq_getElem (by omega)] at h2
  rw [p3, k3, i3, List.getElem?_eq_getElem (by omega)] at h3
  rw [p4, k4, i4, List.getElem?_eq_getElem (by omega)] at h4
  rw [p5, k5, i5, List.getElem?_eq_getElem (by omega)] at h5
  obtain ⟨x0, e0, _, _⟩ := DataW.trod_int Try.underlying3 h0
  obtain ⟨x1, e1, _, l1⟩ := DataW.trod_string Try.underlying9 h1
  obtain ⟨x2, e2, _, l2⟩ := DataW.trod_string Try.underlying9 h2
  obtain ⟨a3, n3, q3, z3, e3, r3⟩ := bytes_of_trod13 (c := c3) (by simpa using h3)
  obtain ⟨x4, e4, _, w4⟩ := DataW.trod_int Try.underlying3 h4
  obtain ⟨a5, n5, q5, z5, e5, r5⟩ := row_of_trodI (c := c5) (by simpa using h5)
  simp at e0 e1 e2 e4
  subst e0 e1 e2 e3 e4 e5
  refine ⟨⟨x0, x1, x2, z3, x4, z5.take n5⟩, ⟨a3, n3, q3, a5, n5, q5⟩, rfl, ⟨r3, RowZ.of_isRow r5, l1, l2, bounds_i64 w4, fun k hk => (bounds_i64 (r5.wf k (List.mem_of_mem_take hk))).2⟩, ?_⟩
  exact (bounds_i64 w4).2
theorem rowO_of_trod {H : Type} {enc : TypeId × Value → H} {W : World} {m : Nat} {c : Value} {x : DataW H × List MemPlace}
    (h : DataW.trod enc Try.prog W 0 (fun _ => true) true m 22 [c] = some x) : ∃ a n k l, c = .slice a n k ∧ RowO W W.heap.size a n k l ∧ ∀ p ∈ l, p.1.n ≤ 9223372036854775807 := by
  rcases open_slice Try.underlying22 h with ⟨hcs, _⟩ | ⟨a, len, cap, mm, n, D, Pl, hcs, _, hl, hm, hmm, _, hi⟩
  · simp at hcs
    exact ⟨none, 0, 0, [], hcs, ⟨rfl, Nat.le_refl _, by simp [maxLen], fun h => absurd h (by omega)⟩, by simp⟩
  · simp at hcs
    have hmm : mm = cap := by simpa using hmm
    subst hmm
    have hex : ∀ i, ∃ r : OpS × OpV, (i < len → (∀ j, j < 6 → W.cell? (a.add (i * 6 + j)) = (opL r.1 r.2)[j]?) ∧ OpIn W W.heap.size r.1 r.2) ∧ r.1.n ≤ 9223372036854775807 := fun i => by
      by_cases hil : i < len
      · obtain ⟨cs', hc', ht'⟩ := hi i (by omega)
        rw [cellsOp] at hc'
        obtain ⟨_, hcl, hat⟩ := World.cells?_some hc'
        obtain ⟨r, v, rfl, ho, hn⟩ := op_of_trod Try.underlying36 (by kernel_rfl) ⟨rfl, rfl, rfl, rfl, rfl, rfl⟩ hcl ht'
        exact ⟨(r, v), fun _ => ⟨fun j hj => by rw [← Go.Deep.add_add]; exact hat j hj, ho⟩, hn⟩
      · exact ⟨zop, fun h => absurd h hil, by simp [zop]⟩
    obtain ⟨rs, hrl, hrs, hwn⟩ : ∃ rs : List (OpS × OpV), rs.length = len ∧ (∀ i, i < len → (∀ j, j < 6 → W.cell? (a.add (i * 6 + j)) = (opL (rs.getD i zop).1 (rs.getD i zop).2)[j]?) ∧ OpIn W W.heap.size (rs.getD i zop).1 (rs.getD i zop).2) ∧ ∀ p ∈ rs, p.1.n ≤ 9223372036854775807 := by
      refine ⟨(List.range len).map fun i => Classical.choose (hex i), by simp, fun i hil => ?_, fun p hp => ?_⟩
      · have hget : ((List.range len).map fun i => Classical.choose (hex i)).getD i zop = Classical.choose (hex i) := by simp [List.getD, hil]
        rw [hget]
        exact (Classical.choose_spec (hex i)).1 hil
      · obtain ⟨i, _, rfl⟩ := List.mem_map.1 hp
        exact (Classical.choose_spec (hex i)).2
    refine ⟨some a, len, mm, rs, hcs, ⟨hrl, hl, hm, fun hn => ?_⟩, hwn⟩
    obtain ⟨b, off, spot⟩ := a
    have h0 := (hrs 0 hn).1 0 (by omega)
    have hspot : spot = none := by simpa [Addr.add] using World.cell?_spot (h0.trans (rfl : (opL (rs.getD 0 zop).1 (rs.getD 0 zop).2)[0]? = some (.int .i64 (rs.getD 0 zop).1.act)))
    subst hspot
    have hc : ∀ i, i < len → ∀ j, j < 6 → W.cell? ⟨b, off + i * 6 + j, none⟩ = (opL (rs.getD i zop).1 (rs.getD i zop).2)[j]? := fun i hi j hj => by
      have := (hrs i hi).1 j hj
      rwa [Row.add, ← Nat.add_assoc] at this
    refine ⟨b, off, rfl, ?_, fun i hi => ⟨fun j y hj => ?_, (hrs i hi).2⟩⟩
    · exact World.block_lt_of_cell? W ⟨b, off + 0 * 6 + 0, none⟩ ((hc 0 hn 0 (by omega)).trans (rfl : (opL (rs.getD 0 zop).1 (rs.getD 0 zop).2)[0]? = some (.int .i64 (rs.getD 0 zop).1.act)))
    · have hj6 : j < 6 := by simpa [opL] using (List.getElem?_eq_some_iff.1 hj).1
      rw [hc i hi j hj6]
      exact hj
theorem open_ops {H : Type} {enc : TypeId × Value → H} {W : World} {b0 : Nat} {v : Value} {d : DataW H} {ps : List MemPlace}
    (hv : Value.okWide Try.prog W .any b0 22 v) (h : DataW.Trod enc Try.prog W 0 (fun _ => true) true 22 v d ps) : ∃ a n k l, v = .slice a n k ∧ RowO W W.heap.size a n k l ∧ ∀ p ∈ l, p.1.n ≤ 9223372036854775807 := by
  obtain ⟨a0, n0, k0, rfl⟩ := okWide_slice Try.underlying22 hv
  obtain ⟨fuel, hf⟩ := h
  obtain ⟨a, n, k, l, e, hr⟩ := rowO_of_trod (c := .slice a0 n0 k0) (by simpa [Value.cells] using hf)
  exact ⟨a, n, k, l, e, hr⟩
end Go.Proofs.Ytkfjbpcngmipnaa.Vm
