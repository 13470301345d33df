/- Arguments of the kinds []byte and api.Record, opened. -/
import Derived.Test.YtplnaaokapilpaaGreatDoorOpens
import Derived.Test.YtplnaaokapilpaaGreatDoorPushes
set_option linter.unusedVariables false
set_option linter.unusedSimpArgs false
namespace Go.Proofs.YtplnaaokapilpaaGreatDoor.Vm
set_option maxRecDepth 100000
open Go Go.ChangeShapes Go.WideShapes Go.ChangeAt Go.RowKit Go.Deep

theorem open_bytesArg {H : Type} {enc : TypeId × Value → H} {W : World} {b0 : Nat} {v : Value} {d : DataW H} {ps : List MemPlace}
    (hv : Value.okWide Tryz.prog W .any b0 22 v) (h : DataW.Trod enc Tryz.prog W 0 (fun _ => true) true 22 v d ps) : ∃ a n c z, v = .slice a n c ∧ IsRow .u8 W a n c z := by
  obtain ⟨a0, len0, cap0, rfl⟩ := okWide_slice Tryz.underlying22 hv
  obtain ⟨fuel, hf⟩ := h
  rcases open_ints Tryz.underlying22 Tryz.underlying5 (by kernel_rfl) hf with ⟨hcs, _⟩ | ⟨x, l, c, zs, hcs, _, hl, hm, hz, _, hcell, hwz⟩
  · simp [Value.cells] at hcs
    obtain ⟨rfl, rfl, rfl⟩ := hcs
    exact ⟨none, 0, 0, [], rfl, .inl ⟨rfl, rfl, rfl, rfl⟩⟩
  · simp [Value.cells] at hcs
    obtain ⟨rfl, rfl, rfl⟩ := hcs
    exact ⟨_, _, _, zs, rfl, .inr ⟨_, rfl, hl, hm, by simpa using hz, hcell, hwz⟩⟩
theorem cellsInpR : Tryz.prog.cellsOf 99 = 4 := by kernel_rfl
theorem inpR_of_trod {H : Type} {enc : TypeId × Value → H} {W : World} {base : Nat} {sp : Nat → Bool} {held : Bool} {e : TypeId} {n : Nat} {cs : List Value} {z : DataW H × List MemPlace} {o0 o1 o2 o3 : Field}
    (he : Tryz.prog.underlying e = some (.struct #[o0, o1, o2, o3])) (hone : oneCellFields Tryz.prog #[o0, o1, o2, o3] = true) (hI : o0.type = 3 ∧ o1.type = 3 ∧ o2.type = 3 ∧ o3.type = 3)
    (hc : cs.length = 4) (h : DataW.trod enc Tryz.prog W base sp held n e cs = some z) : ∃ r : Inp, cs = inpL r ∧ InpWf r := by
  obtain ⟨ys, n', _, _, _, hyl, hf⟩ := DataW.trod_struct he h
  have hyl5 : ys.length = 4 := hyl
  obtain ⟨c0, c1, c2, c3, rfl⟩ : ∃ c0 c1 c2 c3, cs = [c0, c1, c2, c3] := by
    match cs, hc with
    | [c0, c1, c2, c3], _ => exact ⟨c0, c1, c2, c3, rfl⟩
  obtain ⟨p0, k0⟩ := hone_of hone 0 o0 rfl
  obtain ⟨p1, k1⟩ := hone_of hone 1 o1 rfl
  obtain ⟨p2, k2⟩ := hone_of hone 2 o2 rfl
  obtain ⟨p3, k3⟩ := hone_of hone 3 o3 rfl
  obtain ⟨i0, i1, i2, i3⟩ := hI
  have h0 := hf 0 o0 rfl
  have h1 := hf 1 o1 rfl
  have h2 := hf 2 o2 rfl
  have h3 := hf 3 o3 rfl
  rw [p0, k0, i0, List.getElem?_eq_getElem (by omega)] at h0
  rw [p1, k1, i1, List.getElem?_eq_getElem (by omega)] at h1
  rw [p2, k2, i2, List.getElem?_eq_getElem (by omega)] at h2
  rw [p3, k3, i3, List.getElem?_eq_getElem (by omega)] at h3
  obtain ⟨x0, e0, _, w0⟩ := DataW.trod_int Tryz.underlying3 h0
  obtain ⟨x1, e1, _, w1⟩ := DataW.trod_int Tryz.underlying3 h1
  obtain ⟨x2, e2, _, w2⟩ := DataW.trod_int Tryz.underlying3 h2
  obtain ⟨x3, e3, _, w3⟩ := DataW.trod_int Tryz.underlying3 h3
  simp at e0 e1 e2 e3
  subst e0 e1 e2 e3
  exact ⟨⟨x0, x1, x2, x3⟩, rfl, bounds_i64 w0, bounds_i64 w1, bounds_i64 w2, bounds_i64 w3⟩
theorem rowX_of_trod {H : Type} {enc : TypeId × Value → H} {W : World} {m : Nat} {c : Value} {x : DataW H × List MemPlace}
    (h : DataW.trod enc Tryz.prog W 0 (fun _ => true) true m 46 [c] = some x) : ∃ a n k l, c = .slice a n k ∧ RowI W W.heap.size a n k l ∧ ∀ p ∈ l, InpWf p := by
  rcases open_slice Tryz.underlying46 h with ⟨hcs, _⟩ | ⟨a, len, cap, mm, n, D, Pl, hcs, _, hl, hm, hmm, _, hi⟩
  · simp at hcs
    exact ⟨none, 0, 0, [], hcs, ⟨rfl, Nat.le_refl _, by simp [maxLen], fun h => absurd h (by omega)⟩, fun p hp => by simp at hp⟩
  · simp at hcs
    have hmm : mm = cap := by simpa using hmm
    subst hmm
    have hex : ∀ i, ∃ r : Inp, i < len → (∀ j, j < 4 → W.cell? (a.add (i * 4 + j)) = (inpL r)[j]?) ∧ InpWf r := fun i => by
      by_cases hil : i < len
      · obtain ⟨cs', hc', ht'⟩ := hi i (by omega)
        rw [cellsInpR] at hc'
        obtain ⟨_, hcl, hat⟩ := World.cells?_some hc'
        obtain ⟨r, rfl, hw⟩ := inpR_of_trod Tryz.underlying99 (by kernel_rfl) ⟨rfl, rfl, rfl, rfl⟩ hcl ht'
        exact ⟨r, fun _ => ⟨fun j hj => by rw [← Go.Deep.add_add]; exact hat j hj, hw⟩⟩
      · exact ⟨zx, fun h => absurd h hil⟩
    obtain ⟨rs, hrl, hrs⟩ : ∃ rs : List Inp, rs.length = len ∧ ∀ i, i < len → (∀ j, j < 4 → W.cell? (a.add (i * 4 + j)) = (inpL (rs.getD i zx))[j]?) ∧ InpWf (rs.getD i zx) := by
      refine ⟨(List.range len).map fun i => Classical.choose (hex i), by simp, fun i hil => ?_⟩
      have hget : ((List.range len).map fun i => Classical.choose (hex i)).getD i zx = Classical.choose (hex i) := by simp [List.getD, hil]
      rw [hget]
      exact Classical.choose_spec (hex i) hil
    refine ⟨some a, len, mm, rs, hcs, ⟨hrl, hl, hm, fun hn => ?_⟩, fun p hp => ?_⟩
    · obtain ⟨b, off, spot⟩ := a
      have h0 := (hrs 0 hn).1 0 (by omega)
      have hspot : spot = none := by simpa [Addr.add] using World.cell?_spot (h0.trans (rfl : (inpL (rs.getD 0 zx))[0]? = some (.int .i64 (rs.getD 0 zx).k)))
      subst hspot
      have hc : ∀ i, i < len → ∀ j, j < 4 → W.cell? ⟨b, off + i * 4 + j, none⟩ = (inpL (rs.getD i zx))[j]? := fun i hi j hj => by
        have := (hrs i hi).1 j hj
        rwa [Row.add, ← Nat.add_assoc] at this
      refine ⟨b, off, rfl, ?_, fun i hi => ⟨hc i hi 0 (by omega), hc i hi 1 (by omega), hc i hi 2 (by omega), hc i hi 3 (by omega)⟩⟩
      exact World.block_lt_of_cell? W ⟨b, off + 0 * 4 + 0, none⟩ ((hc 0 hn 0 (by omega)).trans (rfl : (inpL (rs.getD 0 zx))[0]? = some (.int .i64 (rs.getD 0 zx).k)))
    · obtain ⟨i, hi, rfl⟩ := List.getElem_of_mem hp
      have := (hrs i (by omega)).2
      simpa [List.getD, hi] using this
theorem rowE_of_trod {H : Type} {enc : TypeId × Value → H} {W : World} {m : Nat} {c : Value} {x : DataW H × List MemPlace}
    (h : DataW.trod enc Tryz.prog W 0 (fun _ => true) true m 47 [c] = some x) : ∃ a n k zs, c = .slice a n k ∧ IsRow .i64 W a n k zs := by
  rcases open_ints Tryz.underlying47 Tryz.underlying28 (by kernel_rfl) h with ⟨hcs, _⟩ | ⟨y, l, k, zs, hcs, _, hl, hm, hz, _, hcell, hwz⟩
  · simp at hcs
    exact ⟨none, 0, 0, [], hcs, .inl ⟨rfl, rfl, rfl, rfl⟩⟩
  · simp at hcs
    exact ⟨some y, l, k, zs, hcs, .inr ⟨y, rfl, hl, hm, by simpa using hz, hcell, hwz⟩⟩
theorem cellsRecord : Tryz.prog.cellsOf 50 = 5 := by kernel_rfl
theorem open_record {H : Type} {enc : TypeId × Value → H} {W : World} {b0 : Nat} {v : Value} {d : DataW H} {ps : List MemPlace}
    (hv : Value.okWide Tryz.prog W .any b0 50 v) (h : DataW.Trod enc Tryz.prog W 0 (fun _ => true) true 50 v d ps) : ∃ (h : Rh) (x : Rcd), v = rhV h ∧ RhIn W W.heap.size h x ∧ WfR x := by
  obtain ⟨cs, rfl, hsz, _⟩ : ∃ cs, v = .agg cs ∧ cs.size = Tryz.prog.cellsOf 50 ∧ Row.okWide Tryz.prog W .any b0 50 cs := by
    simpa [Value.okWide, Tryz.underlying50] using hv
  rw [cellsRecord] at hsz
  obtain ⟨l⟩ := cs
  obtain ⟨v0, v1, v2, v3, v4, rfl⟩ : ∃ v0 v1 v2 v3 v4, l = [v0, v1, v2, v3, v4] := by
    match l, hsz with
    | [v0, v1, v2, v3, v4], _ => exact ⟨v0, v1, v2, v3, v4, rfl⟩
  obtain ⟨fuel, hf0⟩ := h
  have hf1 : DataW.trod enc Tryz.prog W 0 (fun _ => true) true fuel 50 [v0, v1, v2, v3, v4] = some (d, ps) := by simpa [Value.cells] using hf0
  obtain ⟨ys, n', _, _, _, hyl, hf⟩ := DataW.trod_struct Tryz.underlying50 hf1
  have hyl5 : ys.length = 5 := hyl
  have h0 : DataW.trod enc Tryz.prog W 0 (fun _ => true) true n' 3 (([v0, v1, v2, v3, v4].drop 0).take (Tryz.prog.cellsOf 3)) = ys[0]? := hf 0 _ rfl
  have h1 : DataW.trod enc Tryz.prog W 0 (fun _ => true) true n' 46 (([v0, v1, v2, v3, v4].drop 1).take (Tryz.prog.cellsOf 46)) = ys[1]? := hf 1 _ rfl
  have h2 : DataW.trod enc Tryz.prog W 0 (fun _ => true) true n' 47 (([v0, v1, v2, v3, v4].drop 2).take (Tryz.prog.cellsOf 47)) = ys[2]? := hf 2 _ rfl
  have h3 : DataW.trod enc Tryz.prog W 0 (fun _ => true) true n' 23 (([v0, v1, v2, v3, v4].drop 3).take (Tryz.prog.cellsOf 23)) = ys[3]? := hf 3 _ rfl
  have h4 : DataW.trod enc Tryz.prog W 0 (fun _ => true) true n' 48 (([v0, v1, v2, v3, v4].drop 4).take (Tryz.prog.cellsOf 48)) = ys[4]? := hf 4 _ rfl
  rw [show Tryz.prog.cellsOf 3 = 1 by kernel_rfl, List.getElem?_eq_getElem (by omega)] at h0
  rw [show Tryz.prog.cellsOf 46 = 1 by kernel_rfl, List.getElem?_eq_getElem (by omega)] at h1
  rw [show Tryz.prog.cellsOf 47 = 1 by kernel_rfl, List.getElem?_eq_getElem (by omega)] at h2
  rw [show Tryz.prog.cellsOf 23 = 1 by kernel_rfl, List.getElem?_eq_getElem (by omega)] at h3
  rw [show Tryz.prog.cellsOf 48 = 1 by kernel_rfl, List.getElem?_eq_getElem (by omega)] at h4
  obtain ⟨t, e0, _, _⟩ := DataW.trod_int Tryz.underlying3 h0
  obtain ⟨k, e4, _, w4⟩ := DataW.trod_int Tryz.underlying48 h4
  obtain ⟨a1, n1, c1, ins, e1, i1, wf1⟩ := rowX_of_trod h1
  obtain ⟨a2, n2, c2, cs, e2, i2⟩ := rowE_of_trod h2
  obtain ⟨a3, n3, c3, ws, e3, i3⟩ := row_of_trodI h3
  simp at e0 e4
  subst e0 e1 e2 e3 e4
  have hb := bounds_u32 w4
  exact ⟨⟨t, a1, n1, c1, a2, n2, c2, a3, n3, c3, k⟩, ⟨t, ins, cs.take n2, ws.take n3, k⟩, rfl, ⟨rfl, i1, RowZ.of_isRow i2, RowZ.of_isRow i3, rfl⟩, ⟨wf1, by show 0 ≤ k ∧ k < 4294967296; omega⟩⟩
end Go.Proofs.YtplnaaokapilpaaGreatDoor.Vm
