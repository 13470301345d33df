/- What layer 12's awake reckons; its contract. -/
import Derived.Test.YtacigmjdppoonaaWalkAny
import Derived.Test.YtacigmjdppoonaaNears
import Derived.Test.YtacigmjdppoonaaPairs12
import Derived.Test.YtacigmjdppoonaaListsNine
import Derived.Deep.CutRange
namespace Go.Proofs.Ytacigmjdppoonaa.Vm
open Go Go.RowKit
set_option maxRecDepth 100000

abbrev mapT : ByteArray := ⟨#[46, 46, 46, 46, 46, 46]⟩
theorem mapT_okay : Okay 3 2 mapT := Okay.of (by decide +kernel)
theorem waysT : WaysOut 3 2 (bytesOf mapT) [0, 4] [1, 4] [2, 0] 0 := by
  refine .inl ⟨rfl, fun i hi => ?_, by decide +kernel, rfl⟩
  match i, hi with
  | 0, _ => decide +kernel
  | 1, _ => decide +kernel
theorem goT1 : GoOut 3 2 (bytesOf mapT) [0, 4] [2, 0] [1, 4] 0 := by
  refine .inl ⟨rfl, fun i hi => ?_, by decide +kernel, rfl⟩
  match i, hi with
  | 0, _ => decide +kernel
  | 1, _ => decide +kernel
theorem goT2 : GoOut 3 2 (bytesOf mapT) [1, 4] [3, 2] [4, 5] 0 := by
  refine .inl ⟨rfl, fun i hi => ?_, by decide +kernel, rfl⟩
  match i, hi with
  | 0, _ => decide +kernel
  | 1, _ => decide +kernel
theorem walkT : WalkOut 3 2 (bytesOf mapT) [0, 4] [[2, 0], [3, 2]] [[0, 4], [1, 4], [4, 5]] 0 := .on goT1 (.on goT2 (.done _))
theorem goT3 : GoOut 3 2 (bytesOf mapT) [0] [1] [] 1 := by
  refine .inr ⟨fun h => ?_, rfl, rfl⟩
  have h0 := h.2 0 (by decide)
  revert h0
  decide +kernel
theorem nearT : nearC 3 6 [0, 1, 5, 4] 4 4 = [(0, 1), (1, 3), (2, 3)] := by decide +kernel

theorem rowZ_at {V : World} {b B : Nat} (zs : List Int) {cs : Array Value} {t : TypeId} (hc : cs = ⟨zs.map (Value.int .i64)⟩) (h : V.heap[b]? = some (.cells cs t (0, 0))) (hb : b < B) (hl : zs.length ≤ 1000) : RowZ .i64 V B (some ⟨b, 0, none⟩) zs.length zs.length zs := by
  subst hc
  refine ⟨rfl, Nat.le_refl _, by unfold maxLen; omega, fun _ => ⟨b, 0, rfl, hb, fun i hi => ?_⟩⟩
  rw [Nat.zero_add]
  exact cell_heap h (by simp [List.getD, hi])

/-- Blocks that are laid one behind the other. -/
def allocs (w : World) : List Obj → World
  | [] => w
  | o :: r => allocs (w.alloc o) r
theorem allocs_size : ∀ (os : List Obj) (w : World), (allocs w os).heap.size = w.heap.size + os.length
  | [], w => rfl
  | o :: r, w => by
    show (allocs (w.alloc o) r).heap.size = _
    rw [allocs_size r]
    simp
    omega
theorem allocs_below : ∀ (os : List Obj) (w : World), Below w.heap.size w (allocs w os)
  | [], w => Below.refl _ _
  | o :: r, w => ((Below.refl _ w).alloc (Nat.le_refl _) o).trans ((allocs_below r (w.alloc o)).mono (by simp))
theorem allocs_at : ∀ (os : List Obj) (w : World) (k : Nat) (o : Obj), os[k]? = some o → (allocs w os).heap[w.heap.size + k]? = some o
  | [], w, k, o, h => by simp at h
  | p :: r, w, 0, o, h => by
    simp at h
    subst h
    show (allocs (w.alloc p) r).heap[w.heap.size + 0]? = _
    rw [(allocs_below r (w.alloc p)).block (w.heap.size + 0) (by simp)]
    exact heap_new w p rfl
  | p :: r, w, k + 1, o, h => by
    have := allocs_at r (w.alloc p) k o (by simpa using h)
    rw [show (w.alloc p).heap.size + k = w.heap.size + (k + 1) by simp; omega] at this
    exact this

set_option maxHeartbeats 4000000 in
theorem awake12_any (w : World) : Calls Try.prog 6 #[] w fun e w' => e = .returned (.bool true) ∧ Below w.heap.size w w' := by
  obtain ⟨w1, hw1⟩ : ∃ w1, w1 = w.alloc (gridO 3 2 mapT) := ⟨_, rfl⟩
  have hb1 : Below w.heap.size w w1 := by rw [hw1]; exact (Below.refl _ _).alloc (Nat.le_refl _) _
  have hz1 : w1.heap.size = w.heap.size + 1 := by rw [hw1]; simp
  have hg1 : GridAt w1 w.heap.size 3 2 mapT := by rw [hw1]; exact gridAt_new w 3 2 mapT
  have HW1 := Lib.hid hw1
  have HB1 := Lib.hid hb1
  have HZ1 := Lib.hid hz1
  have HG1 := Lib.hid hg1
  clear hw1 hb1 hz1 hg1
  go_enter Try.func6, Try.ntmps6
  go_upto_region 2 with fail
  rw [← HW1.out]
  obtain ⟨w2, hw2⟩ : ∃ w2, w2 = (w1.alloc (.cells #[.int .i64 0, .int .i64 4] 3)).alloc (.cells #[.int .i64 1, .int .i64 4] 3) := ⟨_, rfl⟩
  have hs2 : w2 = allocs w1 [.cells #[.int .i64 0, .int .i64 4] 3, .cells #[.int .i64 1, .int .i64 4] 3] := hw2
  have hb2 : Below w1.heap.size w1 w2 := by rw [hs2]; exact allocs_below _ _
  have hz2 : w2.heap.size = w1.heap.size + 2 := by rw [hs2]; exact allocs_size _ _
  have hc1 := mWays_any 3 2 mapT _ _ 2 2 2 2 w2.heap.size [0, 4] [1, 4] w2 mapT_okay (rowZ_at [0, 4] rfl (by rw [hs2]; exact allocs_at _ w1 0 _ rfl) (by omega) (by decide)) (rowZ_at [1, 4] rfl (by rw [hs2]; exact allocs_at _ w1 1 _ rfl) (by omega) (by decide)) (Nat.le_refl _) (by omega)
  have HC1 := Lib.hid hc1
  have HB2 : Hid (Below w1.heap.size w1 w2) := hb2
  have HW2 := Lib.hid hw2
  obtain ⟨g0, g1, g2⟩ := HG1.out
  clear hc1 hb2 hz2 hs2 hw2
  go_wp2_with fail
  rw [← HW2.out]
  refine HC1.out.mono ?_
  rintro e wa ⟨aa, na, ca, la, xa, rfl, hPa, hna, hoa, hba⟩
  obtain ⟨rfl, rfl⟩ := hPa.one waysT
  obtain rfl : na = 2 := hna.symm
  have HRA : Hid (∀ V, Below wa.heap.size wa V → RowZ .i64 V wa.heap.size aa 2 ca [2, 0]) := fun V hV => (hoa.rowAt rfl).below hV
  have HBA : Hid (Below w1.heap.size w1 wa) := HB2.out.trans (hba.mono HB2.out.size)
  clear hPa hoa hba g0 g1 g2 hna
  -- Walk
  obtain ⟨w3, hw3⟩ : ∃ w3, w3 = (((wa.alloc (.cells #[.int .i64 0, .int .i64 4] 3)).alloc (.cells #[.int .i64 2, .int .i64 0] 3)).alloc (.cells #[.int .i64 3, .int .i64 2] 3)).alloc (.cells #[.slice (some ⟨wa.heap.size + 1, 0, none⟩) 2 2, .slice (some ⟨wa.heap.size + 1 + 1, 0, none⟩) 2 2] 27) := ⟨_, rfl⟩
  have hs3 : w3 = allocs wa [.cells #[.int .i64 0, .int .i64 4] 3, .cells #[.int .i64 2, .int .i64 0] 3, .cells #[.int .i64 3, .int .i64 2] 3, .cells #[.slice (some ⟨wa.heap.size + 1, 0, none⟩) 2 2, .slice (some ⟨wa.heap.size + 1 + 1, 0, none⟩) 2 2] 27] := hw3
  have hb3 : Below wa.heap.size wa w3 := by rw [hs3]; exact allocs_below _ _
  have hz3 : w3.heap.size = wa.heap.size + 4 := by rw [hs3]; exact allocs_size _ _
  have hc2 := mWalk_any 3 2 mapT (some ⟨wa.heap.size, 0, none⟩) (some ⟨wa.heap.size + 1 + 1 + 1, 0, none⟩) 2 2 2 2 w3.heap.size [0, 4] [[2, 0], [3, 2]] w3 mapT_okay (rowZ_at [0, 4] rfl (by rw [hs3]; exact allocs_at _ wa 0 _ rfl) (by omega) (by decide))
    (rowL_mk (t := 27) (by rw [hs3]; exact allocs_at _ wa 3 _ rfl) rfl (by omega) (by simp [maxLen]) fun i hi => by
      match i, hi with
      | 0, _ => exact ⟨_, _, _, rfl, rowZ_at [2, 0] rfl (by rw [hs3]; exact allocs_at _ wa 1 _ rfl) (by omega) (by decide)⟩
      | 1, _ => exact ⟨_, _, _, rfl, rowZ_at [3, 2] rfl (by rw [hs3]; exact allocs_at _ wa 2 _ rfl) (by omega) (by decide)⟩) (Nat.le_refl _) (by omega) (by omega)
  have HC2 := Lib.hid hc2
  have HB3 : Hid (Below wa.heap.size wa w3) := hb3
  have HW3 := Lib.hid hw3
  obtain ⟨g0, g1, g2⟩ := HG1.out.below HBA.out (by have := HZ1.out; omega)
  clear hc2 hb3 hz3 hs3 hw3 HC1
  go_wp2_with fail
  rw [← HW3.out]
  refine HC2.out.mono ?_
  rintro e wb ⟨ab, nb, cb, lb, xb, rfl, hPb, hnb, hob, hbb⟩
  obtain ⟨rfl, rfl⟩ := hPb.one walkT
  obtain rfl : nb = 3 := hnb.symm
  have HLB : Hid (∀ V, Below wb.heap.size wb V → RowL V wb.heap.size ab 3 cb [[0, 4], [1, 4], [4, 5]]) := fun V hV => by
    obtain ⟨a', c', e, hr⟩ := hob.rowL
    injection e with e1 e2 e3
    subst e1 e3
    exact hr.below hV
  have HAB : Hid (Below wa.heap.size wa wb) := HB3.out.trans (hbb.mono HB3.out.size)
  have HBB : Hid (Below w1.heap.size w1 wb) := HBA.out.trans (HAB.out.mono HBA.out.size)
  clear hPb hob hbb g0 g1 g2 hnb
  -- Near
  obtain ⟨w4, hw4⟩ : ∃ w4, w4 = wb.alloc (.cells #[.int .i64 0, .int .i64 1, .int .i64 5, .int .i64 4] 3) := ⟨_, rfl⟩
  have hs4 : w4 = allocs wb [.cells #[.int .i64 0, .int .i64 1, .int .i64 5, .int .i64 4] 3] := hw4
  have hb4 : Below wb.heap.size wb w4 := by rw [hs4]; exact allocs_below _ _
  have hz4 : w4.heap.size = wb.heap.size + 1 := by rw [hs4]; exact allocs_size _ _
  have hc3 := mNear_any 3 2 mapT (some ⟨wb.heap.size, 0, none⟩) 4 4 w4.heap.size [0, 1, 5, 4] w4 mapT_okay (rowZ_at [0, 1, 5, 4] rfl (by rw [hs4]; exact allocs_at _ wb 0 _ rfl) (by omega) (by decide)) (Nat.le_refl _) (by omega)
  have HC3 := Lib.hid hc3
  have HB4 : Hid (Below wb.heap.size wb w4) := hb4
  have HW4 := Lib.hid hw4
  obtain ⟨g0, g1, g2⟩ := HG1.out.below HBB.out (by have := HZ1.out; omega)
  clear hc3 hb4 hz4 hs4 hw4 HC2
  go_wp2_with fail
  rw [← HW4.out]
  refine HC3.out.mono ?_
  rintro e wc ⟨ac, nc, cc, rfl, hnc, hoc, hbc⟩
  rw [show nearC 3 mapT.size [0, 1, 5, 4] 4 4 = [(0, 1), (1, 3), (2, 3)] from nearT] at hnc hoc
  obtain rfl : nc = 3 := hnc.symm
  have HPC : Hid (∀ V, Below wc.heap.size wc V → RowP V wc.heap.size ac 3 cc [(0, 1), (1, 3), (2, 3)]) := fun V hV => by
    obtain ⟨a', c', e, hr⟩ := hoc.row
    injection e with e1 e2 e3
    subst e1 e3
    exact hr.below hV
  have HBC0 : Hid (Below wb.heap.size wb wc) := HB4.out.trans (hbc.mono HB4.out.size)
  have HAC : Hid (Below wa.heap.size wa wc) := HAB.out.trans (HBC0.out.mono HAB.out.size)
  have HBC : Hid (Below w1.heap.size w1 wc) := HBB.out.trans (HBC0.out.mono HBB.out.size)
  clear hoc hbc g0 g1 g2 hnc
  -- Go
  obtain ⟨w5, hw5⟩ : ∃ w5, w5 = (wc.alloc (.cells #[.int .i64 0] 3)).alloc (.cells #[.int .i64 1] 3) := ⟨_, rfl⟩
  have hs5 : w5 = allocs wc [.cells #[.int .i64 0] 3, .cells #[.int .i64 1] 3] := hw5
  have hb5 : Below wc.heap.size wc w5 := by rw [hs5]; exact allocs_below _ _
  have hz5 : w5.heap.size = wc.heap.size + 2 := by rw [hs5]; exact allocs_size _ _
  have hc4 := mGo_any 3 2 mapT (some ⟨wc.heap.size, 0, none⟩) (some ⟨wc.heap.size + 1, 0, none⟩) 1 1 1 1 w5.heap.size [0] [1] w5 mapT_okay (rowZ_at [0] rfl (by rw [hs5]; exact allocs_at _ wc 0 _ rfl) (by omega) (by decide)) (rowZ_at [1] rfl (by rw [hs5]; exact allocs_at _ wc 1 _ rfl) (by omega) (by decide)) (Nat.le_refl _) (by omega)
  have HC4 := Lib.hid hc4
  have HB5 : Hid (Below wc.heap.size wc w5) := hb5
  have HW5 := Lib.hid hw5
  obtain ⟨g0, g1, g2⟩ := HG1.out.below HBC.out (by have := HZ1.out; omega)
  clear hc4 hb5 hz5 hs5 hw5 HC3
  go_wp2_with fail
  rw [← HW5.out]
  refine HC4.out.mono ?_
  rintro e wd ⟨ad, nd, cd, ld, xd, rfl, hPd, hnd, hod, hbd⟩
  obtain ⟨rfl, rfl⟩ := hPd.one goT3
  obtain rfl : nd = 0 := hnd.symm
  have HCD : Hid (Below wc.heap.size wc wd) := HB5.out.trans (hbd.mono HB5.out.size)
  have HBD : Hid (Below wb.heap.size wb wd) := HBC0.out.trans (HCD.out.mono HBC0.out.size)
  have HAD : Hid (Below wa.heap.size wa wd) := HAC.out.trans (HCD.out.mono HAC.out.size)
  have H1D : Hid (Below w1.heap.size w1 wd) := HBC.out.trans (HCD.out.mono HBC.out.size)
  clear hPd hod hbd g0 g1 g2 hnd
  -- Ints
  obtain ⟨w6, hw6⟩ : ∃ w6, w6 = wd.alloc (.cells #[.int .i64 2, .int .i64 0] 3) := ⟨_, rfl⟩
  have hs6 : w6 = allocs wd [.cells #[.int .i64 2, .int .i64 0] 3] := hw6
  have hb6 : Below wd.heap.size wd w6 := by rw [hs6]; exact allocs_below _ _
  have hz6 : w6.heap.size = wd.heap.size + 1 := by rw [hs6]; exact allocs_size _ _
  have hc5 := ints_anyZ aa (some ⟨wd.heap.size, 0, none⟩) 2 ca 2 2 w6.heap.size [2, 0] [2, 0] w6 ((HRA.out w6 (HAD.out.trans (hb6.mono HAD.out.size))).mono (by have := HAD.out.size; omega)) (rowZ_at [2, 0] rfl (by rw [hs6]; exact allocs_at _ wd 0 _ rfl) (by omega) (by decide))
  have HC5 := Lib.hid hc5
  have HB6 : Hid (Below wd.heap.size wd w6) := hb6
  have HW6 := Lib.hid hw6
  clear hc5 hb6 hz6 hs6 hw6 HC4
  go_wp2_with fail
  rw [← HW6.out]
  refine HC5.out.mono ?_
  rintro e we ⟨rfl, me, hwe⟩
  have HDE : Hid (Below wd.heap.size wd we) := by unfold Hid; rw [hwe]; exact below_drewN HB6.out me
  clear hwe
  -- Lists
  obtain ⟨w7, hw7⟩ : ∃ w7, w7 = (((we.alloc (.cells #[.int .i64 0, .int .i64 4] 3)).alloc (.cells #[.int .i64 1, .int .i64 4] 3)).alloc (.cells #[.int .i64 4, .int .i64 5] 3)).alloc (.cells #[.slice (some ⟨we.heap.size, 0, none⟩) 2 2, .slice (some ⟨we.heap.size + 1, 0, none⟩) 2 2, .slice (some ⟨we.heap.size + 1 + 1, 0, none⟩) 2 2] 27) := ⟨_, rfl⟩
  have hs7 : w7 = allocs we [.cells #[.int .i64 0, .int .i64 4] 3, .cells #[.int .i64 1, .int .i64 4] 3, .cells #[.int .i64 4, .int .i64 5] 3, .cells #[.slice (some ⟨we.heap.size, 0, none⟩) 2 2, .slice (some ⟨we.heap.size + 1, 0, none⟩) 2 2, .slice (some ⟨we.heap.size + 1 + 1, 0, none⟩) 2 2] 27] := hw7
  have hb7 : Below we.heap.size we w7 := by rw [hs7]; exact allocs_below _ _
  have hz7 : w7.heap.size = we.heap.size + 4 := by rw [hs7]; exact allocs_size _ _
  have hbe : Below wb.heap.size wb w7 := (HBD.out.trans (HDE.out.mono HBD.out.size)).trans (hb7.mono (by have := HBD.out.size; have := HDE.out.size; omega))
  have hc6 := listsSame_any ab (some ⟨we.heap.size + 1 + 1 + 1, 0, none⟩) 3 cb 3 w7.heap.size [[0, 4], [1, 4], [4, 5]] w7 ((HLB.out w7 hbe).mono (by have := hbe.size; omega))
    (rowL_mk (t := 27) (by rw [hs7]; exact allocs_at _ we 3 _ rfl) rfl (by omega) (by simp [maxLen]) fun i hi => by
      match i, hi with
      | 0, _ => exact ⟨_, _, _, rfl, rowZ_at [0, 4] rfl (by rw [hs7]; exact allocs_at _ we 0 _ rfl) (by omega) (by decide)⟩
      | 1, _ => exact ⟨_, _, _, rfl, rowZ_at [1, 4] rfl (by rw [hs7]; exact allocs_at _ we 1 _ rfl) (by omega) (by decide)⟩
      | 2, _ => exact ⟨_, _, _, rfl, rowZ_at [4, 5] rfl (by rw [hs7]; exact allocs_at _ we 2 _ rfl) (by omega) (by decide)⟩) (by omega)
  have HC6 := Lib.hid hc6
  have HB7 : Hid (Below we.heap.size we w7) := hb7
  have HW7 := Lib.hid hw7
  clear hc6 hb7 hz7 hs7 hw7 hbe HC5
  go_wp2_with fail
  rw [← HW7.out]
  refine HC6.out.mono ?_
  rintro e wf ⟨rfl, hbf⟩
  have HDF : Hid (Below wd.heap.size wd wf) := HDE.out.trans ((HB7.out.trans (hbf.mono HB7.out.size)).mono HDE.out.size)
  clear hbf
  -- Pairs
  obtain ⟨w8, hw8⟩ : ∃ w8, w8 = wf.alloc (.cells #[.int .i64 0, .int .i64 1, .int .i64 1, .int .i64 3, .int .i64 2, .int .i64 3] 42) := ⟨_, rfl⟩
  have hb8 : Below wf.heap.size wf w8 := by rw [hw8]; exact (Below.refl _ _).alloc (Nat.le_refl _) _
  have hz8 : w8.heap.size = wf.heap.size + 1 := by rw [hw8]; simp
  have hh8 : w8.heap[wf.heap.size]? = some (.cells #[.int .i64 0, .int .i64 1, .int .i64 1, .int .i64 3, .int .i64 2, .int .i64 3] 42 (0, 0)) := by rw [hw8]; exact heap_new _ _ rfl
  have hbcf : Below wc.heap.size wc w8 := (HCD.out.trans (HDF.out.mono HCD.out.size)).trans (hb8.mono (by have := HCD.out.size; have := HDF.out.size; omega))
  have hr8 : RowP w8 w8.heap.size (some ⟨wf.heap.size, 0, none⟩) 3 3 [(0, 1), (1, 3), (2, 3)] := by
    refine ⟨rfl, Nat.le_refl _, by simp [maxLen], fun _ => ⟨wf.heap.size, 0, rfl, by omega, fun i hi => ?_⟩⟩
    match i, hi with
    | 0, _ => exact ⟨cell_heap hh8 rfl, cell_heap hh8 rfl⟩
    | 1, _ => exact ⟨cell_heap hh8 rfl, cell_heap hh8 rfl⟩
    | 2, _ => exact ⟨cell_heap hh8 rfl, cell_heap hh8 rfl⟩
  have hc7 := pairs12_any ac (some ⟨wf.heap.size, 0, none⟩) 3 cc 3 w8.heap.size [(0, 1), (1, 3), (2, 3)] w8 ((HPC.out w8 hbcf).mono (by have := hbcf.size; omega)) hr8 (by omega) (by intro p hp; simp at hp; rcases hp with rfl | rfl | rfl <;> decide)
  have HC7 := Lib.hid hc7
  have HB8 : Hid (Below wf.heap.size wf w8) := hb8
  have HW8 := Lib.hid hw8
  clear hc7 hb8 hz8 hw8 hh8 hbcf hr8 HC6
  go_wp2_with fail
  rw [← HW8.out]
  refine HC7.out.mono ?_
  rintro e wg ⟨rfl, mg, hwg⟩
  have HBG : Hid (Below w.heap.size w wg) := by
    unfold Hid
    rw [hwg]
    have h1 : Below w.heap.size w wd := HB1.out.trans (H1D.out.mono HB1.out.size)
    have h2 : Below w.heap.size w wf := h1.trans (HDF.out.mono h1.size)
    exact below_drewN (h2.trans (HB8.out.mono h2.size)) mg
  clear hwg
  go_wp2_with fail
  go_ret
  exact ⟨rfl, HBG.out⟩
end Go.Proofs.Ytacigmjdppoonaa.Vm
