/- A manifest and a slice of records that came in, opened. -/
import Derived.Test.YtplnaaokapilpaaGreatDoorOpenRecs
import Derived.Test.YtplnaaokapilpaaGreatDoorRecRows
set_option linter.unusedVariables false
set_option linter.unusedSimpArgs false
namespace Go.Proofs.YtplnaaokapilpaaGreatDoor.Vm
open Go Go.ChangeShapes Go.WideShapes Go.ChangeAt Go.RowKit Go.Deep
set_option maxRecDepth 100000

theorem open_man {H : Type} {enc : TypeId × Value → H} {W : World} {b0 : Nat} {v : Value} {d : DataW H} {ps : List MemPlace}
    (hv : Value.okWide Tryz.prog W .any b0 25 v) (h : DataW.Trod enc Tryz.prog W 0 (fun _ => true) true 25 v d ps) : ∃ a1 n1 c1 l1 a2 n2 c2 l2, v = .agg #[.slice a1 n1 c1, .slice a2 n2 c2] ∧ RowZ .i64 W W.heap.size a1 n1 c1 l1 ∧ RowZ .i64 W W.heap.size a2 n2 c2 l2 := by
  obtain ⟨cs, rfl, hsz, _⟩ : ∃ cs, v = .agg cs ∧ cs.size = Tryz.prog.cellsOf 25 ∧ Row.okWide Tryz.prog W .any b0 25 cs := by
    simpa [Value.okWide, Tryz.underlying25] using hv
  rw [show Tryz.prog.cellsOf 25 = 2 by kernel_rfl] at hsz
  obtain ⟨l⟩ := cs
  obtain ⟨v0, v1, rfl⟩ : ∃ v0 v1, l = [v0, v1] := by
    match l, hsz with
    | [v0, v1], _ => exact ⟨v0, v1, rfl⟩
  obtain ⟨fuel, hf0⟩ := h
  have hf1 : DataW.trod enc Tryz.prog W 0 (fun _ => true) true fuel 25 [v0, v1] = some (d, ps) := by simpa [Value.cells] using hf0
  obtain ⟨ys, n', _, _, _, hyl, hf⟩ := DataW.trod_struct Tryz.underlying25 hf1
  have hyl2 : ys.length = 2 := hyl
  have h0 : DataW.trod enc Tryz.prog W 0 (fun _ => true) true n' 23 (([v0, v1].drop 0).take (Tryz.prog.cellsOf 23)) = ys[0]? := hf 0 _ rfl
  have h1 : DataW.trod enc Tryz.prog W 0 (fun _ => true) true n' 23 (([v0, v1].drop 1).take (Tryz.prog.cellsOf 23)) = ys[1]? := hf 1 _ rfl
  rw [show Tryz.prog.cellsOf 23 = 1 by kernel_rfl, List.getElem?_eq_getElem (by omega)] at h0 h1
  obtain ⟨a1, n1, c1, z1, e1, i1⟩ := row_of_trodI h0
  obtain ⟨a2, n2, c2, z2, e2, i2⟩ := row_of_trodI h1
  subst e1 e2
  exact ⟨a1, n1, c1, z1.take n1, a2, n2, c2, z2.take n2, rfl, RowZ.of_isRow i1, RowZ.of_isRow i2⟩
theorem recd_of_trod {H : Type} {enc : TypeId × Value → H} {W : World} {n : Nat} {cs : List Value} {z : DataW H × List MemPlace}
    (hc : cs.length = 5) (h : DataW.trod enc Tryz.prog W 0 (fun _ => true) true n 50 cs = some z) : ∃ (r : Rh) (x : Rcd), cs = rcdL r ∧ RhIn W W.heap.size r x ∧ WfR x := by
  obtain ⟨v0, v1, v2, v3, v4, rfl⟩ : ∃ v0 v1 v2 v3 v4, cs = [v0, v1, v2, v3, v4] := by
    match cs, hc with
    | [v0, v1, v2, v3, v4], _ => exact ⟨v0, v1, v2, v3, v4, rfl⟩
  obtain ⟨ys, n', _, _, _, hyl, hf⟩ := DataW.trod_struct Tryz.underlying50 h
  have hyl5 : ys.length = 5 := hyl
  have h0 : DataW.trod enc Tryz.prog W 0 (fun _ => true) true n' 3 (([v0, v1, v2, v3, v4].drop 0).take (Tryz.prog.cellsOf 3)) = ys[0]? := hf 0 _ rfl
  have h1 : DataW.trod enc Tryz.prog W 0 (fun _ => true) true n' 46 (([v0, v1, v2, v3, v4].drop 1).take (Tryz.prog.cellsOf 46)) = ys[1]? := hf 1 _ rfl
  have h2 : DataW.trod enc Tryz.prog W 0 (fun _ => true) true n' 47 (([v0, v1, v2, v3, v4].drop 2).take (Tryz.prog.cellsOf 47)) = ys[2]? := hf 2 _ rfl
  have h3 : DataW.trod enc Tryz.prog W 0 (fun _ => true) true n' 23 (([v0, v1, v2, v3, v4].drop 3).take (Tryz.prog.cellsOf 23)) = ys[3]? := hf 3 _ rfl
  have h4 : DataW.trod enc Tryz.prog W 0 (fun _ => true) true n' 48 (([v0, v1, v2, v3, v4].drop 4).take (Tryz.prog.cellsOf 48)) = ys[4]? := hf 4 _ rfl
  rw [show Tryz.prog.cellsOf 3 = 1 by kernel_rfl, List.getElem?_eq_getElem (by omega)] at h0
  rw [show Tryz.prog.cellsOf 46 = 1 by kernel_rfl, List.getElem?_eq_getElem (by omega)] at h1
  rw [show Tryz.prog.cellsOf 47 = 1 by kernel_rfl, List.getElem?_eq_getElem (by omega)] at h2
  rw [show Tryz.prog.cellsOf 23 = 1 by kernel_rfl, List.getElem?_eq_getElem (by omega)] at h3
  rw [show Tryz.prog.cellsOf 48 = 1 by kernel_rfl, List.getElem?_eq_getElem (by omega)] at h4
  obtain ⟨t, e0, _, _⟩ := DataW.trod_int Tryz.underlying3 h0
  obtain ⟨k, e4, _, w4⟩ := DataW.trod_int Tryz.underlying48 h4
  obtain ⟨a1, n1, c1, ins, e1, i1, wf1⟩ := rowX_of_trod h1
  obtain ⟨a2, n2, c2, cs, e2, i2⟩ := rowE_of_trod h2
  obtain ⟨a3, n3, c3, ws, e3, i3⟩ := row_of_trodI h3
  simp at e0 e4
  subst e0 e1 e2 e3 e4
  have hb := bounds_u32 w4
  exact ⟨⟨t, a1, n1, c1, a2, n2, c2, a3, n3, c3, k⟩, ⟨t, ins, cs.take n2, ws.take n3, k⟩, rfl, ⟨rfl, i1, RowZ.of_isRow i2, RowZ.of_isRow i3, rfl⟩, ⟨wf1, by show 0 ≤ k ∧ k < 4294967296; omega⟩⟩
theorem rowRc_of_trod {H : Type} {enc : TypeId × Value → H} {W : World} {m : Nat} {c : Value} {x : DataW H × List MemPlace}
    (h : DataW.trod enc Tryz.prog W 0 (fun _ => true) true m 27 [c] = some x) : ∃ a n k hs xs, c = .slice a n k ∧ RowRc W W.heap.size a n k hs xs ∧ ∀ p ∈ xs, WfR p := by
  rcases open_slice Tryz.underlying27 h with ⟨hcs, _⟩ | ⟨a, len, cap, mm, n, D, Pl, hcs, _, hl, hm, hmm, _, hi⟩
  · simp at hcs
    exact ⟨none, 0, 0, [], [], hcs, ⟨rfl, Nat.le_refl _, by simp [maxLen], fun h => absurd h (by omega)⟩, by simp⟩
  · simp at hcs
    have hmm : mm = cap := by simpa using hmm
    subst hmm
    have hex : ∀ i, ∃ r : Rh × Rcd, i < len → (∀ j, j < 5 → W.cell? (a.add (i * 5 + j)) = (rcdL r.1)[j]?) ∧ RhIn W W.heap.size r.1 r.2 ∧ WfR r.2 := fun i => by
      by_cases hil : i < len
      · obtain ⟨cs', hc', ht'⟩ := hi i (by omega)
        rw [cellsRecord] at hc'
        obtain ⟨_, hcl, hat⟩ := World.cells?_some hc'
        obtain ⟨r, v, rfl, ho, hn⟩ := recd_of_trod hcl ht'
        exact ⟨(r, v), fun _ => ⟨fun j hj => by rw [← Go.Deep.add_add]; exact hat j hj, ho, hn⟩⟩
      · exact ⟨(zrh, zrcd), fun h => absurd h hil⟩
    let rs : List (Rh × Rcd) := (List.range len).map fun i => Classical.choose (hex i)
    have hrl : rs.length = len := by simp [rs]
    have hrs : ∀ i, i < len → (∀ j, j < 5 → W.cell? (a.add (i * 5 + j)) = (rcdL ((rs.map Prod.fst).getD i zrh))[j]?) ∧ RhIn W W.heap.size ((rs.map Prod.fst).getD i zrh) ((rs.map Prod.snd).getD i zrcd) ∧ WfR ((rs.map Prod.snd).getD i zrcd) := fun i hil => by
      have hget1 : (rs.map Prod.fst).getD i zrh = (Classical.choose (hex i)).1 := by simp [rs, List.getD, hil]
      have hget2 : (rs.map Prod.snd).getD i zrcd = (Classical.choose (hex i)).2 := by simp [rs, List.getD, hil]
      rw [hget1, hget2]
      exact Classical.choose_spec (hex i) hil
    clear_value rs
    refine ⟨some a, len, mm, rs.map Prod.fst, rs.map Prod.snd, hcs, ⟨by rw [List.length_map, hrl], hl, hm, fun hn => ?_⟩, fun p hp => ?_⟩
    · obtain ⟨b, off, spot⟩ := a
      have h0 := (hrs 0 hn).1 0 (by omega)
      have hspot : spot = none := by simpa [Addr.add] using World.cell?_spot (h0.trans (rfl : (rcdL ((rs.map Prod.fst).getD 0 zrh))[0]? = some (.int .i64 ((rs.map Prod.fst).getD 0 zrh).t)))
      subst hspot
      have hc : ∀ i, i < len → ∀ j, j < 5 → W.cell? ⟨b, off + i * 5 + j, none⟩ = (rcdL ((rs.map Prod.fst).getD i zrh))[j]? := fun i hi j hj => by
        have := (hrs i hi).1 j hj
        rwa [Row.add, ← Nat.add_assoc] at this
      refine ⟨b, off, rfl, ?_, fun i hi => ⟨fun j y hj => ?_, (hrs i hi).2.1⟩⟩
      · exact World.block_lt_of_cell? W ⟨b, off + 0 * 5 + 0, none⟩ ((hc 0 hn 0 (by omega)).trans (rfl : (rcdL ((rs.map Prod.fst).getD 0 zrh))[0]? = some (.int .i64 ((rs.map Prod.fst).getD 0 zrh).t)))
      · have hj5 : j < 5 := by simpa [rcdL] using (List.getElem?_eq_some_iff.1 hj).1
        rw [hc i hi j hj5]
        exact hj
    · obtain ⟨i, hi, rfl⟩ := List.getElem_of_mem hp
      have := (hrs i (by rw [List.length_map, hrl] at hi; exact hi)).2.2
      rw [List.getD, List.getElem?_eq_getElem hi] at this
      exact this
theorem open_records {H : Type} {enc : TypeId × Value → H} {W : World} {b0 : Nat} {v : Value} {d : DataW H} {ps : List MemPlace}
    (hv : Value.okWide Tryz.prog W .any b0 27 v) (h : DataW.Trod enc Tryz.prog W 0 (fun _ => true) true 27 v d ps) : ∃ a n k hs xs, v = .slice a n k ∧ RowRc W W.heap.size a n k hs xs ∧ ∀ p ∈ xs, WfR p := by
  obtain ⟨a0, n0, k0, rfl⟩ := okWide_slice Tryz.underlying27 hv
  obtain ⟨fuel, hf⟩ := h
  obtain ⟨a, n, k, hs, xs, e, hr⟩ := rowRc_of_trod (c := .slice a0 n0 k0) (by simpa [Value.cells] using hf)
  exact ⟨a, n, k, hs, xs, e, hr⟩
end Go.Proofs.YtplnaaokapilpaaGreatDoor.Vm
