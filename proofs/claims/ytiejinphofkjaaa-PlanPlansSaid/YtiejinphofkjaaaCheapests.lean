/- The contract of search.through, over that of search.cheapest one step on. The contract of search.cheapest. -/
import Derived.Test.YtiejinphofkjaaaPlanners
import Derived.Deep.RegionHeld3
namespace Go.Proofs.Ytiejinphofkjaaa.Vm
open Go Go.RowKit Go.Maps
set_option maxRecDepth 100000

theorem frozen_new (w : World) (cs : Array Value) (t : TypeId) {k i : Nat} (hk : k = w.heap.size) : (w.alloc (.cells cs t)).frozen? ⟨k, i, none⟩ = false := by
  subst hk
  have e : (w.alloc (.cells cs t)).heap[w.heap.size]? = some (.cells cs t (0, 0)) := by
    show (w.heap.push _)[w.heap.size]? = _
    rw [Array.getElem?_push, if_pos rfl]
  unfold World.frozen?
  rw [e]
  simp
theorem below_set3 {B b : Nat} {a V : World} (h : Below B a V) (hb : B ≤ b) (v0 v1 v2 : Value) : Below B a (((V.setCell ⟨b, 0, none⟩ v0).setCell ⟨b, 1, none⟩ v1).setCell ⟨b, 2, none⟩ v2) :=
  ((h.setCell (p := ⟨b, 0, none⟩) hb v0).setCell (p := ⟨b, 1, none⟩) hb v1).setCell (p := ⟨b, 2, none⟩) hb v2
theorem cell_set3 {b k o : Nat} {V : World} {v : Value} (h : V.cell? ⟨k, o, none⟩ = some v) (hk : k ≠ b) (v0 v1 v2 : Value) : (((V.setCell ⟨b, 0, none⟩ v0).setCell ⟨b, 1, none⟩ v1).setCell ⟨b, 2, none⟩ v2).cell? ⟨k, o, none⟩ = some v :=
  (World.cell?_of_block ((Below.heap_setCell _ ⟨b, 2, none⟩ _ k hk).trans ((Below.heap_setCell _ ⟨b, 1, none⟩ _ k hk).trans (Below.heap_setCell _ ⟨b, 0, none⟩ _ k hk)))).trans h
theorem alt_set3 {S : Nat → Prop} {A V : World} {b : Nat} (h : Alt S A V) (hb : A.heap.size ≤ b) (v0 v1 v2 : Value) : Alt S A (((V.setCell ⟨b, 0, none⟩ v0).setCell ⟨b, 1, none⟩ v1).setCell ⟨b, 2, none⟩ v2) :=
  h.calls (below_set3 (Below.refl _ V) hb v0 v1 v2)

/-- What is said of search.cheapest, so many steps ahead of the end. -/
def ChSays (W H : Int) (s : ByteArray) (a : Option Addr) (n c cb pb mb fb lb kb m nt : Nat) (far bl : List Int) (oth : List (List Int)) (k : Nat) : Prop :=
  ∀ (p nk B : Nat) (x : Int) (w : World), p + k = 6 → wfI x → SrIn w B W H s cb pb mb lb kb m nt nk far bl oth → nk + cntK k ≤ 100000 →
    Calls Try.prog 38 #[srV W H s a n c cb pb mb fb lb kb, atV p x] w fun e w' => e = .returned (rstV (rstOf (pathS W H (bytesOf s) far bl oth k x))) ∧ SrIn w' B W H s cb pb mb lb kb m nt (nk + cntK k) far bl oth ∧ Alt (fun k => k = kb) w w'

set_option maxHeartbeats 1000000 in
theorem through_any (W H : Int) (s : ByteArray) (a : Option Addr) (n c cb pb mb fb lb kb m nt : Nat) (far bl : List Int) (oth : List (List Int)) (k : Nat) (hfar : ∀ i, far.getD i 0 ≤ 1000000) (hs : s.size ≤ 1000000)
    (hC : ChSays W H s a n c cb pb mb fb lb kb m nt far bl oth k) (p nk B : Nat) (x t : Int) (w : World) (hp : p + k = 5) (hx : wfI x) (ht : 0 ≤ t ∧ t < s.size) (hI : SrIn w B W H s cb pb mb lb kb m nt nk far bl oth) (hnk : nk + cntK k ≤ 100000) :
    Calls Try.prog 50 #[srV W H s a n c cb pb mb fb lb kb, atV p x, .int .i64 t] w fun e w' => e = .returned (rstV (rstOf (thruP W H (bytesOf s) far bl oth k x t))) ∧ SrIn w' B W H s cb pb mb lb kb m nt (nk + cntK k) far bl oth ∧ Alt (fun k => k = kb) w w' := by
  have hwt : wfI t := WalkArith.wf_i64 (by omega)
  obtain ⟨w1, hw1⟩ : ∃ w1, w1 = ((w.alloc (srO W H s a n c cb pb mb fb lb kb)).alloc (atO p x)).alloc (.cells #[.bool false, .int .i64 0, .int .i64 0] 83) := ⟨_, rfl⟩
  have hb1 : Below w.heap.size w w1 := by rw [hw1]; exact (((Below.refl _ _).alloc (Nat.le_refl _) _).alloc (by simp) _).alloc (by simp; omega) _
  have hz1 : w1.heap.size = w.heap.size + 3 := by rw [hw1]; simp
  have hcs : ∀ i v, (#[.int .i64 W, .int .i64 H, .string s, .slice a n c, .map (some cb), .map (some pb), .map (some mb), .map (some fb), .slice (some ⟨lb, 0, none⟩) s.size s.size, .map (some kb)] : Array Value)[i]? = some v → w1.cell? ⟨w.heap.size, i, none⟩ = some v := fun i v hv => by
    rw [hw1]
    exact (Below.cell (((Below.refl (w.heap.size + 1) (w.alloc (srO W H s a n c cb pb mb fb lb kb))).alloc (by simp) _).alloc (by simp) _) (p := ⟨w.heap.size, i, none⟩) (by simp)).trans (cell_new _ _ _ rfl hv)
  have hat : ∀ i v, (#[.int .i64 (p : Int), .int .i64 x] : Array Value)[i]? = some v → w1.cell? ⟨w.heap.size + 1, i, none⟩ = some v := fun i v hv => by
    rw [hw1]
    exact (Below.cell ((Below.refl (w.heap.size + 2) ((w.alloc (srO W H s a n c cb pb mb fb lb kb)).alloc (atO p x))).alloc (by simp) _) (p := ⟨w.heap.size + 1, i, none⟩) (by simp)).trans (cell_new _ _ _ (by simp) hv)
  have hre : ∀ i v, (#[.bool false, .int .i64 0, .int .i64 0] : Array Value)[i]? = some v → w1.cell? ⟨w.heap.size + 2, i, none⟩ = some v := fun i v hv => by
    rw [hw1]; exact cell_new _ _ _ (by simp) hv
  have hfz : ∀ i, w1.frozen? ⟨w.heap.size + 2, i, none⟩ = false := fun i => by
    rw [hw1]; exact frozen_new _ _ _ (by simp)
  have q0 := hcs 0 _ rfl
  have q1 := hcs 1 _ rfl
  have q2 := hcs 2 _ rfl
  have q3 := hcs 3 _ rfl
  have q4 := hcs 4 _ rfl
  have q5 := hcs 5 _ rfl
  have q6 := hcs 6 _ rfl
  have q7 := hcs 7 _ rfl
  have q8 := hcs 8 _ rfl
  have q9 := hcs 9 _ rfl
  have a0 := hat 0 _ rfl
  have a1 := hat 1 _ rfl
  have HW1 := Lib.hid hw1
  have HB1 := Lib.hid hb1
  have hI1 := hI.below (hb1.mono hI.hB)
  have hBs := hI.hB
  have HI1 := Lib.hid hI1
  have HPM := Lib.hid (permits_any W H s a n c cb pb mb fb lb kb m nt p bl oth x t w1 hI1.sh hI1.tr (by omega) hx hwt)
  have HALL : Hid (∀ V, Below w1.heap.size w1 V → ∀ i v, (w1.cell? ⟨w.heap.size, i, none⟩ = some v → V.cell? ⟨w.heap.size, i, none⟩ = some v) ∧ (w1.cell? ⟨w.heap.size + 1, i, none⟩ = some v → V.cell? ⟨w.heap.size + 1, i, none⟩ = some v) ∧ (w1.cell? ⟨w.heap.size + 2, i, none⟩ = some v → V.cell? ⟨w.heap.size + 2, i, none⟩ = some v)) := fun V hV i v =>
    ⟨fun h => (hV.cell (p := ⟨w.heap.size, i, none⟩) (show w.heap.size < w1.heap.size by omega)).trans h, fun h => (hV.cell (p := ⟨w.heap.size + 1, i, none⟩) (show w.heap.size + 1 < w1.heap.size by omega)).trans h, fun h => (hV.cell (p := ⟨w.heap.size + 2, i, none⟩) (show w.heap.size + 2 < w1.heap.size by omega)).trans h⟩
  have HE : Hid (5 - k = p) := by unfold Hid; omega
  rw [hw1] at q0 q1 q2 q3 q4 q5 q6 q7 q8 q9 a0 a1
  by_cases hmay : MayP bl oth p x t
  · rw [decide_eq_true hmay] at HPM
    have HFZ := Lib.hid hfz
    have HRE := Lib.hid hre
    have HCS := Lib.hid hcs
    have HAT := Lib.hid hat
    have HCH := Lib.hid hC
    obtain ⟨P1, hP1⟩ : ∃ P1, P1 = p + 1 := ⟨_, rfl⟩
    have e0 : IntKind.i64.wrap ((p : Int) + 1) = (P1 : Int) := by simp only [IntKind.wrap_i64]; omega
    have HPK : Hid (P1 + k = 6) := by unfold Hid; omega
    have HR : Hid (thruP W H (bytesOf s) far bl oth k x t = (pathS W H (bytesOf s) far bl oth k t).map fun y => (t :: y.1, y.2 + costP far t)) := by unfold Hid thruP; rw [HE.out, if_pos hmay]
    have HCP : Hid (0 ≤ costP far t ∧ costP far t ≤ 1000000) := by
      unfold Hid costP
      have := hfar t.toNat
      split <;> omega
    obtain ⟨R, hR⟩ : ∃ R, pathS W H (bytesOf s) far bl oth k t = R := ⟨_, rfl⟩
    have hRc : ∀ y, R = some y → 0 ≤ y.2 ∧ y.2 ≤ k * 1000000 := fun y hy => pathS_cost hfar (hR.trans hy)
    have HTT := Lib.hid ht
    have HWT := Lib.hid hwt
    rw [hR] at HR
    have hk5 : k ≤ 5 := by omega
    have HRR := Lib.hid hR
    obtain ⟨cc, hcc⟩ : ∃ cc, costP far t = cc := ⟨_, rfl⟩
    have HCC := Lib.hid hcc
    clear hmay hI1 hcs hat hre hb1 hw1 hfz hI hC hR hP1 hcc ht hwt
    go_enter Try.func50, Try.ntmps50
    go_wp2_with fail
    rw [← HW1.out]
    refine HPM.out.mono ?_
    rintro e w2 ⟨rfl, hb2⟩
    have HI2 := Lib.hid (HI1.out.below (hb2.mono HI1.out.hB))
    have HB2 := Lib.hid (HB1.out.trans (hb2.mono HB1.out.size))
    have HK2 := Lib.hid hb2
    have u0 := (HALL.out w2 hb2 0 _).1 (HCS.out 0 _ rfl)
    have u1 := (HALL.out w2 hb2 1 _).1 (HCS.out 1 _ rfl)
    have u2 := (HALL.out w2 hb2 2 _).1 (HCS.out 2 _ rfl)
    have u3 := (HALL.out w2 hb2 3 _).1 (HCS.out 3 _ rfl)
    have u4 := (HALL.out w2 hb2 4 _).1 (HCS.out 4 _ rfl)
    have u5 := (HALL.out w2 hb2 5 _).1 (HCS.out 5 _ rfl)
    have u6 := (HALL.out w2 hb2 6 _).1 (HCS.out 6 _ rfl)
    have u7 := (HALL.out w2 hb2 7 _).1 (HCS.out 7 _ rfl)
    have u8 := (HALL.out w2 hb2 8 _).1 (HCS.out 8 _ rfl)
    have u9 := (HALL.out w2 hb2 9 _).1 (HCS.out 9 _ rfl)
    have b0 := (HALL.out w2 hb2 0 _).2.1 (HAT.out 0 _ rfl)
    have hz2 := hb2.size
    clear hb2 HPM
    go_wp2_with fail
    refine (HCH.out P1 nk B t w2 HPK.out HWT.out HI2.out hnk).mono ?_
    rw [HRR.out]
    rintro e w3 ⟨rfl, hi3, ha3⟩
    have hz3 := ha3.size
    have HI3 := Lib.hid hi3
    have HA3 := Lib.hid ((Alt.ofBelow HB2.out).trans ha3 (fun k hk _ => hk))
    have hkb : kb < B := HI1.out.lt.2.2.2
    have HS3 : Hid (∀ j i v, j < w1.heap.size → w.heap.size ≤ j → w1.cell? ⟨j, i, none⟩ = some v → w3.cell? ⟨j, i, none⟩ = some v) := fun j i v hj hj2 h =>
      (ha3.cell (p := ⟨j, i, none⟩) (show j < w2.heap.size by omega) (by show ¬ j = kb; omega)).trans ((HK2.out.cell (p := ⟨j, i, none⟩) hj).trans h)
    have HF3 : Hid (∀ i, w3.frozen? ⟨w.heap.size + 1 + 1, i, none⟩ = false) := fun i =>
      (ha3.frozen (p := ⟨w.heap.size + 1 + 1, i, none⟩) (show w.heap.size + 1 + 1 < w2.heap.size by omega) (by show ¬ w.heap.size + 1 + 1 = kb; omega)).trans ((HK2.out.frozen (p := ⟨w.heap.size + 1 + 1, i, none⟩) (show w.heap.size + 1 + 1 < w1.heap.size by omega)).trans (HFZ.out i))
    clear ha3 hi3 u0 u1 u2 u3 u4 u5 u6 u7 u8 u9 b0
    cases R with
    | none =>
      have k0 : (w3.alloc (.cells #[.bool false, .int .i64 0, .int .i64 0] 83)).cell? ⟨w.heap.size + 1 + 1, 0, none⟩ = some (.bool false) := by
        rw [((Below.refl w3.heap.size w3).alloc (Nat.le_refl _) _).cell (p := ⟨w.heap.size + 1 + 1, 0, none⟩) (by show w.heap.size + 1 + 1 < w3.heap.size; omega)]; exact HS3.out (w.heap.size + 2) 0 _ (by omega) (by omega) (HRE.out 0 _ rfl)
      have k1 : (w3.alloc (.cells #[.bool false, .int .i64 0, .int .i64 0] 83)).cell? ⟨w.heap.size + 1 + 1, 1, none⟩ = some (.int .i64 0) := by
        rw [((Below.refl w3.heap.size w3).alloc (Nat.le_refl _) _).cell (p := ⟨w.heap.size + 1 + 1, 1, none⟩) (by show w.heap.size + 1 + 1 < w3.heap.size; omega)]; exact HS3.out (w.heap.size + 2) 1 _ (by omega) (by omega) (HRE.out 1 _ rfl)
      have k2 : (w3.alloc (.cells #[.bool false, .int .i64 0, .int .i64 0] 83)).cell? ⟨w.heap.size + 1 + 1, 2, none⟩ = some (.int .i64 0) := by
        rw [((Below.refl w3.heap.size w3).alloc (Nat.le_refl _) _).cell (p := ⟨w.heap.size + 1 + 1, 2, none⟩) (by show w.heap.size + 1 + 1 < w3.heap.size; omega)]; exact HS3.out (w.heap.size + 2) 2 _ (by omega) (by omega) (HRE.out 2 _ rfl)
      have f0 : ∀ i, (w3.alloc (.cells #[.bool false, .int .i64 0, .int .i64 0] 83)).frozen? ⟨w.heap.size + 1 + 1, i, none⟩ = false := fun i => by
        rw [((Below.refl w3.heap.size w3).alloc (Nat.le_refl _) _).frozen (p := ⟨w.heap.size + 1 + 1, i, none⟩) (by show w.heap.size + 1 + 1 < w3.heap.size; omega)]; exact HF3.out i
      simp only [rstOf]
      go_wp2_with fail
      refine bodyPost_ret (v := rstV (false, 0, 0)) (by simp [results, Try.results50, go_sem, k0, k1, k2]) rfl ⟨by rw [HR.out]; rfl, ?_, ?_⟩
      · exact HI3.out.below (below_set3 ((Below.refl B w3).alloc (by omega) _) (b := w.heap.size + 1 + 1) (by omega) (.bool false) (.int .i64 0) (.int .i64 0))
      · exact alt_set3 (HA3.out.alloc _) (by omega) _ _ _
    | some y =>
      obtain ⟨l, n2⟩ := y
      simp only [rstOf]
      obtain ⟨h0, hh0⟩ : ∃ h0, l.headD 0 = h0 := ⟨_, rfl⟩
      rw [hh0]
      clear hh0
      obtain ⟨w4, hw4⟩ : ∃ w4, w4 = w3.alloc (.cells #[.bool true, .int .i64 h0, .int .i64 n2] 83) := ⟨_, rfl⟩
      have hb4 : Below w3.heap.size w3 w4 := by rw [hw4]; exact (Below.refl _ _).alloc (Nat.le_refl _) _
      have hz4 : w4.heap.size = w3.heap.size + 1 := by rw [hw4]; simp
      have hn2 := hRc _ rfl
      simp only [] at hn2
      have hn6 : (k : Int) * 1000000 ≤ 5000000 := by omega
      obtain ⟨y, hy⟩ : ∃ y, y = n2 + cc := ⟨_, rfl⟩
      have ew : IntKind.i64.wrap (cc + n2) = y := by
        have := HCP.out
        rw [HCC.out] at this
        simp only [IntKind.wrap_i64]; omega
      have h4 : ∀ i v, w1.cell? ⟨w.heap.size, i, none⟩ = some v → w4.cell? ⟨w.heap.size, i, none⟩ = some v := fun i v h =>
        (hb4.cell (p := ⟨w.heap.size, i, none⟩) (show w.heap.size < w3.heap.size by omega)).trans (HS3.out w.heap.size i v (by omega) (by omega) h)
      have h4r : ∀ i v, w1.cell? ⟨w.heap.size + 2, i, none⟩ = some v → w4.cell? ⟨w.heap.size + 1 + 1, i, none⟩ = some v := fun i v h =>
        (hb4.cell (p := ⟨w.heap.size + 1 + 1, i, none⟩) (show w.heap.size + 1 + 1 < w3.heap.size by omega)).trans (HS3.out (w.heap.size + 2) i v (by omega) (by omega) h)
      have h4f : ∀ i, w4.frozen? ⟨w.heap.size + 1 + 1, i, none⟩ = false := fun i => (hb4.frozen (p := ⟨w.heap.size + 1 + 1, i, none⟩) (show w.heap.size + 1 + 1 < w3.heap.size by omega)).trans (HF3.out i)
      have c0 : w4.cell? ⟨w3.heap.size, 0, none⟩ = some (.bool true) := by rw [hw4]; exact cell_new _ _ _ rfl rfl
      have c2 : w4.cell? ⟨w3.heap.size, 2, none⟩ = some (.int .i64 n2) := by rw [hw4]; exact cell_new _ _ _ rfl rfl
      have hI4 := HI3.out.below (hb4.mono (by omega))
      have HKS : Hid (∀ V, Below (w.heap.size + 1) w4 V → V.cell? ⟨w3.heap.size, 2, none⟩ = some (.int .i64 n2) → (Below (w.heap.size + 1) w4 V ∧ V.cell? ⟨w.heap.size, 0, none⟩ = some (.int .i64 W) ∧ V.cell? ⟨w.heap.size, 1, none⟩ = some (.int .i64 H) ∧ V.cell? ⟨w.heap.size, 2, none⟩ = some (.string s) ∧ V.cell? ⟨w.heap.size, 3, none⟩ = some (.slice a n c) ∧ V.cell? ⟨w.heap.size, 4, none⟩ = some (.map (some cb)) ∧ V.cell? ⟨w.heap.size, 5, none⟩ = some (.map (some pb)) ∧ V.cell? ⟨w.heap.size, 6, none⟩ = some (.map (some mb)) ∧ V.cell? ⟨w.heap.size, 7, none⟩ = some (.map (some fb)) ∧ V.cell? ⟨w.heap.size, 8, none⟩ = some (.slice (some ⟨lb, 0, none⟩) s.size s.size) ∧ V.cell? ⟨w.heap.size, 9, none⟩ = some (.map (some kb)) ∧ V.cell? ⟨w3.heap.size, 2, none⟩ = some (.int .i64 n2))) := fun V hV hc =>
        ⟨hV, (hV.cell (p := ⟨w.heap.size, 0, none⟩) (show w.heap.size < w.heap.size + 1 by omega)).trans (h4 0 _ (HCS.out 0 _ rfl)), (hV.cell (p := ⟨w.heap.size, 1, none⟩) (show w.heap.size < w.heap.size + 1 by omega)).trans (h4 1 _ (HCS.out 1 _ rfl)), (hV.cell (p := ⟨w.heap.size, 2, none⟩) (show w.heap.size < w.heap.size + 1 by omega)).trans (h4 2 _ (HCS.out 2 _ rfl)), (hV.cell (p := ⟨w.heap.size, 3, none⟩) (show w.heap.size < w.heap.size + 1 by omega)).trans (h4 3 _ (HCS.out 3 _ rfl)), (hV.cell (p := ⟨w.heap.size, 4, none⟩) (show w.heap.size < w.heap.size + 1 by omega)).trans (h4 4 _ (HCS.out 4 _ rfl)), (hV.cell (p := ⟨w.heap.size, 5, none⟩) (show w.heap.size < w.heap.size + 1 by omega)).trans (h4 5 _ (HCS.out 5 _ rfl)), (hV.cell (p := ⟨w.heap.size, 6, none⟩) (show w.heap.size < w.heap.size + 1 by omega)).trans (h4 6 _ (HCS.out 6 _ rfl)), (hV.cell (p := ⟨w.heap.size, 7, none⟩) (show w.heap.size < w.heap.size + 1 by omega)).trans (h4 7 _ (HCS.out 7 _ rfl)), (hV.cell (p := ⟨w.heap.size, 8, none⟩) (show w.heap.size < w.heap.size + 1 by omega)).trans (h4 8 _ (HCS.out 8 _ rfl)), (hV.cell (p := ⟨w.heap.size, 9, none⟩) (show w.heap.size < w.heap.size + 1 by omega)).trans (h4 9 _ (HCS.out 9 _ rfl)), hc⟩
      have HC4 : Hid (∀ V, Kept w4 V → Calls Try.prog 59 #[srV W H s a n c cb pb mb fb lb kb, .int .i64 t] V fun e V' => e = .returned (.int .i64 cc) ∧ Kept w4 V' ∧ Below (w.heap.size + 1) w4 V' ∧ V'.cell? ⟨w3.heap.size, 2, none⟩ = some (.int .i64 n2) ∧
          (V'.cell? ⟨w.heap.size + 1 + 1, 0, none⟩ = some (.bool false) ∧ V'.cell? ⟨w.heap.size + 1 + 1, 1, none⟩ = some (.int .i64 0) ∧ V'.cell? ⟨w.heap.size + 1 + 1, 2, none⟩ = some (.int .i64 0)) ∧
          (V'.frozen? ⟨w.heap.size + 1 + 1, 0, none⟩ = false ∧ V'.frozen? ⟨w.heap.size + 1 + 1, 1, none⟩ = false ∧ V'.frozen? ⟨w.heap.size + 1 + 1, 2, none⟩ = false)) := fun V hV =>
        (cost_any W H s a n c cb pb mb fb lb kb B far t V ((hI4.fr).below (Below.mono hV (by omega))) (by have := Below.size hV; omega) HTT.out).mono fun e V' ⟨he, hb⟩ => by
          have hk : Kept w4 V' := Below.trans hV (hb.mono hV.size)
          have hcc : ∀ b i v, b < w4.heap.size → w4.cell? ⟨b, i, none⟩ = some v → V'.cell? ⟨b, i, none⟩ = some v := fun b i v hb h => (Below.cell hk (p := ⟨b, i, none⟩) hb).trans h
          have hff : ∀ i, V'.frozen? ⟨w.heap.size + 1 + 1, i, none⟩ = false := fun i => (Below.frozen hk (p := ⟨w.heap.size + 1 + 1, i, none⟩) (show w.heap.size + 1 + 1 < w4.heap.size by omega)).trans (h4f i)
          exact ⟨by rw [he, HCC.out], hk, Below.mono hk (by omega), hcc _ 2 _ (by omega) c2, ⟨hcc _ 0 _ (by omega) (h4r 0 _ (HRE.out 0 _ rfl)), hcc _ 1 _ (by omega) (h4r 1 _ (HRE.out 1 _ rfl)), hcc _ 2 _ (by omega) (h4r 2 _ (HRE.out 2 _ rfl))⟩, hff 0, hff 1, hff 2⟩
      have k0 : Kept w4 w4 := Kept.refl _
      have kb0 : Below (w.heap.size + 1) w4 w4 := Below.refl _ _
      have HI4 := Lib.hid hI4
      have HA4 := Lib.hid (HA3.out.calls (hb4.mono (by omega)))
      have HY := Lib.hid hy
      have HZ4 := Lib.hid hz4
      have HW4 := Lib.hid hw4
      rw [hw4] at c0
      clear h4 h4r h4f hI4 hb4 hy hw4 hz4 hn2 hn6
      go_wp2_with fail
      rw [← HW4.out]
      go_region_held3 (fun V => Below (w.heap.size + 1) w4 V ∧ V.cell? ⟨w.heap.size, 0, none⟩ = some (.int .i64 W) ∧ V.cell? ⟨w.heap.size, 1, none⟩ = some (.int .i64 H) ∧ V.cell? ⟨w.heap.size, 2, none⟩ = some (.string s) ∧ V.cell? ⟨w.heap.size, 3, none⟩ = some (.slice a n c) ∧ V.cell? ⟨w.heap.size, 4, none⟩ = some (.map (some cb)) ∧ V.cell? ⟨w.heap.size, 5, none⟩ = some (.map (some pb)) ∧ V.cell? ⟨w.heap.size, 6, none⟩ = some (.map (some mb)) ∧ V.cell? ⟨w.heap.size, 7, none⟩ = some (.map (some fb)) ∧ V.cell? ⟨w.heap.size, 8, none⟩ = some (.slice (some ⟨lb, 0, none⟩) s.size s.size) ∧ V.cell? ⟨w.heap.size, 9, none⟩ = some (.map (some kb)) ∧ V.cell? ⟨w3.heap.size, 2, none⟩ = some (.int .i64 n2))
        (first | exact HKS.out _ (by assumption) (by assumption) | exact HKS.out _ (Below.drew (by assumption)) (by assumption) | exact HKS.out _ (below_set3 (by assumption) (by omega) _ _ _) (cell_set3 (by assumption) (by omega) _ _ _) | exact HKS.out _ (below_set3 (Below.drew (by assumption)) (by omega) _ _ _) (cell_set3 (by assumption) (by omega) _ _ _))
        (first | (go_at_call 59; refine (HC4.out _ (by first | exact k0 | exact Kept.drew k0)).mono ?_; rintro e wa ⟨rfl, ka, kba, c2a, ⟨r0, r1, r2⟩, ⟨f0, f1, f2⟩⟩))
      go_wp2_with fail
      refine bodyPost_ret (v := rstV (true, t, y)) (by simp [results, Try.results50, go_sem, r0, r1, r2]) rfl ⟨by rw [HR.out]; simp only [Option.map_some, rstOf, List.headD_cons]; rw [HY.out, HCC.out], ?_, ?_⟩
      · exact HI4.out.below (below_set3 (Below.mono ka (by have := HZ4.out; omega)) (b := w.heap.size + 1 + 1) (by omega) (.bool true) (.int .i64 t) (.int .i64 y))
      · exact alt_set3 (HA4.out.calls (Below.mono ka (by have := HZ4.out; omega))) (by omega) _ _ _
  · rw [decide_eq_false hmay] at HPM
    have HR : Hid (thruP W H (bytesOf s) far bl oth k x t = none) := by unfold Hid thruP; rw [HE.out, if_neg hmay]
    have HFZ := Lib.hid hfz
    have HRE := Lib.hid hre
    clear hmay hI1 hcs hat hre hb1 hw1 hfz hI
    go_enter Try.func50, Try.ntmps50
    go_wp2_with fail
    rw [← HW1.out]
    refine HPM.out.mono ?_
    rintro e w2 ⟨rfl, hb2⟩
    have r0 := ((HALL.out w2 hb2 0 (.bool false)).2.2 (HRE.out 0 _ rfl))
    have r1 := ((HALL.out w2 hb2 1 (.int .i64 0)).2.2 (HRE.out 1 _ rfl))
    have r2 := ((HALL.out w2 hb2 2 (.int .i64 0)).2.2 (HRE.out 2 _ rfl))
    have f0 := (hb2.frozen (p := ⟨w.heap.size + 2, 0, none⟩) (show w.heap.size + 2 < w1.heap.size by omega)).trans (HFZ.out 0)
    have f1 := (hb2.frozen (p := ⟨w.heap.size + 2, 1, none⟩) (show w.heap.size + 2 < w1.heap.size by omega)).trans (HFZ.out 1)
    have f2 := (hb2.frozen (p := ⟨w.heap.size + 2, 2, none⟩) (show w.heap.size + 2 < w1.heap.size by omega)).trans (HFZ.out 2)
    have HI2 := Lib.hid (HI1.out.below (hb2.mono HI1.out.hB))
    have HB2 := Lib.hid (HB1.out.trans (hb2.mono HB1.out.size))
    clear hb2
    go_wp2_with fail
    refine bodyPost_ret (v := rstV (false, 0, 0)) (by simp [results, Try.results50, go_sem, r0, r1, r2]) rfl ⟨by rw [HR.out]; rfl, ?_, ?_⟩
    · have h := HI2.out.below (below_set3 (Below.refl B w2) (b := w.heap.size + 1 + 1) (by omega) (.bool false) (.int .i64 0) (.int .i64 0))
      exact h.alt (S := fun _ => False) (Alt.refl _ _) (fun k hk => hk.elim) (h.kn.less (by omega))
    · exact .ofBelow (below_set3 HB2.out (by omega) _ _ _)
end Go.Proofs.Ytiejinphofkjaaa.Vm

namespace Go.Proofs.Ytiejinphofkjaaa.Vm
open Go Go.RowKit Go.Maps
set_option maxRecDepth 100000

/-- A block that holds how a path goes on. -/
def RstAt (w : World) (b : Nat) (r : Bool × Int × Int) : Prop := w.heap[b]? = some (.cells #[.bool r.1, .int .i64 r.2.1, .int .i64 r.2.2] 83 (0, 0))
section
variable {w w' : World} {b : Nat} {r : Bool × Int × Int}
theorem RstAt.c0 (h : RstAt w b r) : w.cell? ⟨b, 0, none⟩ = some (.bool r.1) := by unfold RstAt at h; unfold World.cell?; rw [h]; rfl
theorem RstAt.c1 (h : RstAt w b r) : w.cell? ⟨b, 1, none⟩ = some (.int .i64 r.2.1) := by unfold RstAt at h; unfold World.cell?; rw [h]; rfl
theorem RstAt.c2 (h : RstAt w b r) : w.cell? ⟨b, 2, none⟩ = some (.int .i64 r.2.2) := by unfold RstAt at h; unfold World.cell?; rw [h]; rfl
theorem RstAt.fz (h : RstAt w b r) (i : Nat) : w.frozen? ⟨b, i, none⟩ = false := by unfold RstAt at h; unfold World.frozen?; rw [h]; simp
theorem RstAt.keep (h : RstAt w b r) (hk : w'.heap[b]? = w.heap[b]?) : RstAt w' b r := hk.trans h
theorem rstAt_new (w : World) (r : Bool × Int × Int) {b : Nat} (hb : b = w.heap.size) : RstAt (w.alloc (.cells #[.bool r.1, .int .i64 r.2.1, .int .i64 r.2.2] 83)) b r := by
  subst hb
  show (w.heap.push _)[w.heap.size]? = _
  rw [Array.getElem?_push, if_pos rfl]
theorem RstAt.set3 (h : RstAt w b r) (r' : Bool × Int × Int) : RstAt (((w.setCell ⟨b, 0, none⟩ (.bool r'.1)).setCell ⟨b, 1, none⟩ (.int .i64 r'.2.1)).setCell ⟨b, 2, none⟩ (.int .i64 r'.2.2)) b r' := by
  unfold RstAt at h ⊢
  simp only [World.setCell, Array.getElem?_modify, if_true, h, Option.map_some]
  rfl
end

theorem cheapest_zero (W H : Int) (s : ByteArray) (a : Option Addr) (n c cb pb mb fb lb kb m nt : Nat) (far bl : List Int) (oth : List (List Int)) : ChSays W H s a n c cb pb mb fb lb kb m nt far bl oth 0 := by
  intro p nk B x w hp hx hI hnk
  obtain rfl : p = 6 := by omega
  obtain ⟨w1, hw1⟩ : ∃ w1, w1 = ((w.alloc (srO W H s a n c cb pb mb fb lb kb)).alloc (atO 6 x)).alloc (.cells #[.bool false, .int .i64 0, .int .i64 0] 83) := ⟨_, rfl⟩
  have hb1 : Below w.heap.size w w1 := by rw [hw1]; exact (((Below.refl _ _).alloc (Nat.le_refl _) _).alloc (by simp) _).alloc (by simp; omega) _
  have hr := rstAt_new ((w.alloc (srO W H s a n c cb pb mb fb lb kb)).alloc (atO 6 x)) (false, 0, 0) (b := w.heap.size + 1 + 1) (by simp)
  rw [← hw1] at hr
  have a0 : w1.cell? ⟨w.heap.size + 1, 0, none⟩ = some (.int .i64 6) := by
    rw [hw1]
    exact (Below.cell ((Below.refl (w.heap.size + 2) ((w.alloc (srO W H s a n c cb pb mb fb lb kb)).alloc (atO 6 x))).alloc (by simp) _) (p := ⟨w.heap.size + 1, 0, none⟩) (by simp)).trans (cell_new _ _ _ (by simp) rfl)
  have r0 := hr.c0
  have r1 := hr.c1
  have r2 := hr.c2
  have f0 := hr.fz 0
  have f1 := hr.fz 1
  have f2 := hr.fz 2
  have HB1 := Lib.hid hb1
  have HI := Lib.hid hI
  have HW1 := Lib.hid hw1
  rw [hw1] at a0 r0 r1 r2 f0 f1 f2
  simp only [] at r0 r1 r2
  have hBB := hI.hB
  clear hb1 hI hr hw1
  go_enter Try.func38, Try.ntmps38
  go_wp2_with fail
  refine bodyPost_ret (v := rstV (true, 0, 0)) (by simp [results, Try.results38, go_sem, r0, r1, r2]) rfl ⟨rfl, ?_, ?_⟩
  · exact HI.out.below ((((Below.refl B w).alloc hBB _).alloc (by simp; omega) _).alloc (by simp; omega) _)
  · exact .ofBelow ((((Below.refl w.heap.size w).alloc (Nat.le_refl _) _).alloc (by simp) _).alloc (by simp; omega) _)

set_option maxHeartbeats 2000000 in
theorem cheapest_succ (W H : Int) (s : ByteArray) (a : Option Addr) (n c cb pb mb fb lb kb m nt : Nat) (far bl : List Int) (oth : List (List Int)) (hok : Okay W H s) (hfar : ∀ i, far.getD i 0 ≤ 1000000) (k : Nat) (hC : ChSays W H s a n c cb pb mb fb lb kb m nt far bl oth k) :
    ChSays W H s a n c cb pb mb fb lb kb m nt far bl oth (k + 1) := by
  intro p nk B x w hp hx hI hnk
  have hle := hok.le
  have hwp : wfI (p : Int) := WalkArith.wf_i64 (by omega)
  obtain ⟨w1, hw1⟩ : ∃ w1, w1 = ((w.alloc (srO W H s a n c cb pb mb fb lb kb)).alloc (atO p x)).alloc (.cells #[.bool false, .int .i64 0, .int .i64 0] 83) := ⟨_, rfl⟩
  have hb1 : Below w.heap.size w w1 := by rw [hw1]; exact (((Below.refl _ _).alloc (Nat.le_refl _) _).alloc (by simp) _).alloc (by simp; omega) _
  have hz1 : w1.heap.size = w.heap.size + 3 := by rw [hw1]; simp
  have hcs : ∀ i v, (#[.int .i64 W, .int .i64 H, .string s, .slice a n c, .map (some cb), .map (some pb), .map (some mb), .map (some fb), .slice (some ⟨lb, 0, none⟩) s.size s.size, .map (some kb)] : Array Value)[i]? = some v → w1.cell? ⟨w.heap.size, i, none⟩ = some v := fun i v hv => by
    rw [hw1]
    exact (Below.cell (((Below.refl (w.heap.size + 1) (w.alloc (srO W H s a n c cb pb mb fb lb kb))).alloc (by simp) _).alloc (by simp) _) (p := ⟨w.heap.size, i, none⟩) (by simp)).trans (cell_new _ _ _ rfl hv)
  have hat : ∀ i v, (#[.int .i64 (p : Int), .int .i64 x] : Array Value)[i]? = some v → w1.cell? ⟨w.heap.size + 1, i, none⟩ = some v := fun i v hv => by
    rw [hw1]
    exact (Below.cell ((Below.refl (w.heap.size + 2) ((w.alloc (srO W H s a n c cb pb mb fb lb kb)).alloc (atO p x))).alloc (by simp) _) (p := ⟨w.heap.size + 1, i, none⟩) (by simp)).trans (cell_new _ _ _ (by simp) hv)
  have hr2 : RstAt w1 (w.heap.size + 1 + 1) (false, 0, 0) := by rw [hw1]; exact rstAt_new _ (false, 0, 0) (by simp)
  have hI1 := hI.below (hb1.mono hI.hB)
  have hBs := hI.hB
  obtain ⟨f, hK, hAll⟩ := hI1.kn
  have hlook : (Instr.lookup 79 (.map (some kb)) (atV p x) true).run Try.prog w1 = .ok (.tuple #[knownM.at (f ((p : Int), x)), .bool (f ((p : Int), x)).isSome]) w1 := hK.look knownL (a := ((p : Int), x)) ⟨hwp, hx⟩
  have q9 := hcs 9 _ rfl
  have a0 := hat 0 _ rfl
  have a1 := hat 1 _ rfl
  have hp6 : ¬ (p : Int) = 6 := by omega
  have hpe : ((p : Int) == 6) = false := by simpa using hp6
  clear hp6
  have HW1 := Lib.hid hw1
  have HB1 := Lib.hid hb1
  have HI1 := Lib.hid hI1
  have HI0 := Lib.hid hI
  have HR2 := Lib.hid hr2
  have HCS := Lib.hid hcs
  have HAT := Lib.hid hat
  have HPE : Hid (5 - k = p) := by unfold Hid; omega
  cases hf : f ((p : Int), x) with
  | some r =>
    have HR : Hid (r = rstOf (pathS W H (bytesOf s) far bl oth (k + 1) x)) := by
      obtain ⟨k', hk', e1, e2⟩ := hAll p x hwp hx r hf
      obtain rfl : k' = k + 1 := by omega
      exact e2
    rw [hf] at hlook
    obtain ⟨r0, r1, r2⟩ := r
    have hlook : (Instr.lookup 79 (.map (some kb)) (atV p x) true).run Try.prog w1 = .ok (.tuple #[.agg #[.bool r0, .int .i64 r1, .int .i64 r2], .bool true]) w1 := hlook
    have hb2 : Below w1.heap.size w1 (w1.alloc (.cells #[.bool r0, .int .i64 r1, .int .i64 r2] 83)) := (Below.refl _ _).alloc (Nat.le_refl _) _
    have hr2' := hr2.keep (hb2.block _ (show w.heap.size + 1 + 1 < w1.heap.size by omega))
    have u0 := hr2'.c0
    have u1 := hr2'.c1
    have u2 := hr2'.c2
    have v0 := hr2'.fz 0
    have v1 := hr2'.fz 1
    have v2 := hr2'.fz 2
    simp only [] at u0 u1 u2
    have HB2 := Lib.hid (hb1.trans (hb2.mono (by omega)))
    rw [hw1] at hlook q9 a0 a1 u0 u1 u2 v0 v1 v2
    clear hf hAll hK hI1 hb1 hb2 hr2 hr2' hcs hat hw1 hI hC
    go_enter Try.func38, Try.ntmps38
    go_wp2_with fail
    refine bodyPost_ret (v := rstV (r0, r1, r2)) (by simp [results, Try.results38, go_sem, u0, u1, u2]) rfl ⟨by rw [← HR.out], ?_, ?_⟩
    · have h := HI0.out.below (((((Below.refl B w).alloc hBs (srO W H s a n c cb pb mb fb lb kb)).alloc (by simp; omega) (atO p x)).alloc (by simp; omega) (.cells #[.bool r0, .int .i64 r1, .int .i64 r2] 83)).alloc (by simp; omega) (.cells #[.bool r0, .int .i64 r1, .int .i64 r2] 83))
      exact h.alt (S := fun _ => False) (Alt.refl _ _) (fun k hk => hk.elim) (h.kn.less (by omega))
    · exact .ofBelow (((((Below.refl w.heap.size w).alloc (Nat.le_refl _) _).alloc (by simp) _).alloc (by simp; omega) _).alloc (by simp; omega) _)
  | none =>
    rw [hf] at hlook
    have hlook : (Instr.lookup 79 (.map (some kb)) (atV p x) true).run Try.prog w1 = .ok (.tuple #[.agg #[.bool false, .int .i64 0, .int .i64 0], .bool false]) w1 := hlook
    obtain ⟨w2, hw2⟩ : ∃ w2, w2 = (w1.alloc (.cells #[.bool false, .int .i64 0, .int .i64 0] 83)).alloc (.cells #[.bool false, .int .i64 0, .int .i64 0] 83) := ⟨_, rfl⟩
    have hb2 : Below w1.heap.size w1 w2 := by rw [hw2]; exact ((Below.refl _ _).alloc (Nat.le_refl _) _).alloc (by simp) _
    have hz2 : w2.heap.size = w.heap.size + 5 := by rw [hw2]; simp [hz1]
    have hr4 : RstAt w2 (w.heap.size + 4) (false, 0, 0) := by rw [hw2]; exact rstAt_new _ (false, 0, 0) (by simp [hz1])
    have g0 := (hb2.cell (p := ⟨w.heap.size, 0, none⟩) (show w.heap.size < w1.heap.size by omega)).trans (hcs 0 _ rfl)
    have g1 := (hb2.cell (p := ⟨w.heap.size, 1, none⟩) (show w.heap.size < w1.heap.size by omega)).trans (hcs 1 _ rfl)
    have g2 := (hb2.cell (p := ⟨w.heap.size, 2, none⟩) (show w.heap.size < w1.heap.size by omega)).trans (hcs 2 _ rfl)
    have g3 := (hb2.cell (p := ⟨w.heap.size + 1, 1, none⟩) (show w.heap.size + 1 < w1.heap.size by omega)).trans a1
    have HWY := Lib.hid (ways_any W H x s w2 hok)
    have HTH := Lib.hid fun (q : Nat) (t : Int) V hq ht hI => through_any W H s a n c cb pb mb fb lb kb m nt far bl oth k hfar (by omega) hC p q B x t V hq hx ht hI
    have HGO := Lib.hid fun (y : Int) V => goes_any W H x y s V hok
    have HK1 := Lib.hid hz1
    have HK2 := Lib.hid hz2
    have HB2 := Lib.hid hb2
    have HR4 := Lib.hid hr4
    have HX := Lib.hid hx
    have HWP := Lib.hid hwp
    have HW2 : Hid (w2 = ((((w.alloc (srO W H s a n c cb pb mb fb lb kb)).alloc (atO p x)).alloc (.cells #[.bool false, .int .i64 0, .int .i64 0] 83)).alloc (.cells #[.bool false, .int .i64 0, .int .i64 0] 83)).alloc (.cells #[.bool false, .int .i64 0, .int .i64 0] 83)) := by unfold Hid; rw [hw2, hw1]
    rw [hw1] at hlook q9 a0 a1
    rw [HW2.out] at g0 g1 g2 g3
    clear hf hAll hK hI1 hb1 hb2 hr2 hr4 hcs hat hw1 hw2 hI hC hx hwp
    go_enter Try.func38, Try.ntmps38
    go_wp2_with fail
    rw [← HW2.out]
    refine HWY.out.mono ?_
    rintro e w3 ⟨v, rfl, hown, hb3⟩
    obtain ⟨va, vc, rfl, hvc, hvm, hvcell⟩ := hown.cells (n := (waysS W H (bytesOf s) x).length) rfl
    have hb3B := hb3.mono (show B ≤ w2.heap.size by omega)
    have hz3 := hb3.size
    have hI3 := (HI1.out.below (HB2.out.mono (by omega))).below hb3B
    have hr3 := HR4.out.keep (hb3.block (w.heap.size + 4) (by omega))
    have hkbB : kb < B := HI1.out.lt.2.2.2
    have hA3 : Alt (fun k => k = kb) w w3 := .ofBelow ((HB1.out.trans (HB2.out.mono (by omega))).trans (hb3.mono (by omega)))
    have HA3 := Lib.hid hA3
    have HI3 := Lib.hid hI3
    have HR3 := Lib.hid hr3
    have HQ : Hid (∀ V, Alt (fun b => b = kb ∨ b = w.heap.size + 4) w3 V → ∀ i v, (#[.int .i64 W, .int .i64 H, .string s, .slice a n c, .map (some cb), .map (some pb), .map (some mb), .map (some fb), .slice (some ⟨lb, 0, none⟩) s.size s.size, .map (some kb)] : Array Value)[i]? = some v → V.cell? ⟨w.heap.size, i, none⟩ = some v) := fun V hV i v hv =>
      (hV.cell (p := ⟨w.heap.size, i, none⟩) (show w.heap.size < w3.heap.size by omega) (by show ¬ (w.heap.size = kb ∨ w.heap.size = w.heap.size + 4); omega)).trans ((hb3.cell (p := ⟨w.heap.size, i, none⟩) (show w.heap.size < w2.heap.size by omega)).trans ((HB2.out.cell (p := ⟨w.heap.size, i, none⟩) (show w.heap.size < w1.heap.size by omega)).trans (HCS.out i v hv)))
    have HP : Hid (∀ V, Alt (fun b => b = kb ∨ b = w.heap.size + 4) w3 V → ∀ i v, (#[.int .i64 (p : Int), .int .i64 x] : Array Value)[i]? = some v → V.cell? ⟨w.heap.size + 1, i, none⟩ = some v) := fun V hV i v hv =>
      (hV.cell (p := ⟨w.heap.size + 1, i, none⟩) (show w.heap.size + 1 < w3.heap.size by omega) (by show ¬ (w.heap.size + 1 = kb ∨ w.heap.size + 1 = w.heap.size + 4); omega)).trans ((hb3.cell (p := ⟨w.heap.size + 1, i, none⟩) (show w.heap.size + 1 < w2.heap.size by omega)).trans ((HB2.out.cell (p := ⟨w.heap.size + 1, i, none⟩) (show w.heap.size + 1 < w1.heap.size by omega)).trans (HAT.out i v hv)))
    have HRS : Hid (∀ V, Alt (fun b => b = kb ∨ b = w.heap.size + 4) w3 V → RstAt V (w.heap.size + 1 + 1) (false, 0, 0)) := fun V hV =>
      ((HR2.out.keep (HB2.out.block _ (by omega))).keep (hb3.block _ (by omega))).keep (hV.block _ (by omega) (by show ¬ (w.heap.size + 1 + 1 = kb ∨ w.heap.size + 1 + 1 = w.heap.size + 4); omega))
    have HV : Hid (∀ V, Alt (fun b => b = kb ∨ b = w.heap.size + 4) w3 V → ∀ i, i < (waysS W H (bytesOf s) x).length → ∃ g, va = some ⟨g, 0, none⟩ ∧ V.cell? ⟨g, i, none⟩ = some (.int .i64 (((waysS W H (bytesOf s) x).getD i 0 : Nat) : Int))) := fun V hV i hi => by
      obtain ⟨g, e, hg1, hg2, hg3⟩ := hvcell (by omega)
      exact ⟨g, e, (hV.cell (p := ⟨g, i, none⟩) hg2 (by show ¬ (g = kb ∨ g = w.heap.size + 4); omega)).trans (hg3 i hi)⟩
    have HPW := Lib.hid (pathS_ways W H (bytesOf s) far bl oth k x)
    have HWA := Lib.hid fun i (hi : i < (waysS W H (bytesOf s) x).length) => waysS_at hi
    have hn5 := waysS_len W H (bytesOf s) x
    obtain ⟨ws, hws⟩ : ∃ ws, waysS W H (bytesOf s) x = ws := ⟨_, rfl⟩
    rw [hws] at HV HPW HWA hn5
    rw [hws] at hvc
    simp only [hws]
    obtain ⟨N, hN⟩ : ∃ N, N = ws.length := ⟨_, rfl⟩
    rw [← hN] at HV HWA hn5 hvc ⊢
    have HN := Lib.hid hN
    obtain ⟨C, hC⟩ : ∃ C, C = cntK k := ⟨_, rfl⟩
    have hc1 : cntK (k + 1) = 5 * C + 1 := by rw [cntK, hC]
    have HCK := Lib.hid hC
    have HC1 := Lib.hid hc1
    have hb5 : nk + 5 * C + 1 ≤ 100000 := by omega
    have hCC : ∀ i, i ≤ 5 → i * C ≤ 5 * C := fun i hi => Nat.mul_le_mul_right C hi
    have HCC := Lib.hid hCC
    rw [← hC] at HTH
    unfold maxLen at hvm
    clear hown hb3 hb3B hI3 hr3 hA3 hvcell hws hN hC hc1 hCC
    go_wp2_with fail
    go_loopw [33] (fun v wr => ∃ i : Nat, i ≤ N ∧ v = .int .i64 i ∧ Hid (SrIn wr B W H s cb pb mb lb kb m nt (nk + i * C) far bl oth) ∧ Hid (RstAt wr (w.heap.size + 4) (rstOf (bestL (candP W H (bytesOf s) far bl oth k x) (ws.take i)))) ∧ Hid (Alt (fun b => b = kb ∨ b = w.heap.size + 4) w3 wr)) (fun v _ => N - (intOf v).toNat)
    case atStart => exact ⟨0, Nat.zero_le _, rfl, by rw [Nat.zero_mul]; exact HI3.out, HR3.out, Alt.refl _ _⟩
    case round =>
      obtain ⟨i, hi, rfl, HI, HR, HA⟩ := hrel
      have hAr := HA.out
      have hsr := hAr.size
      by_cases hlt : i < N
      · obtain ⟨g, rfl, hvi⟩ := HV.out wr hAr i hlt
        have hgoes := HWA.out i hlt
        have HBT := Lib.hid (bestL_take (f := candP W H (bytesOf s) far bl oth k x) (l := ws) (i := i) (by rw [← HN.out]; exact hlt))
        generalize ws.getD i 0 = y at hvi hgoes HBT
        have q0 := HQ.out wr hAr 0 _ rfl
        have q1 := HQ.out wr hAr 1 _ rfl
        have q2 := HQ.out wr hAr 2 _ rfl
        have p1 := HP.out wr hAr 1 _ rfl
        have HTC := Lib.hid (candP_thru (far := far) (bl := bl) (oth := oth) (k := k) hgoes)
        obtain ⟨⟨t, ok⟩, hto⟩ : ∃ D, goesS W H (bytesOf s) x (y : Nat) = D := ⟨_, rfl⟩
        rw [hto] at hgoes HTC
        simp only [] at hgoes HTC
        subst hgoes
        have ht := goesS_nat hto
        have HGG := Lib.hid (HGO.out (y : Nat))
        have HTO := Lib.hid hto
        clear hto
        go_wp2_with fail
        refine (HGG.out _).mono ?_
        rw [HTO.out]
        rintro e wg ⟨rfl, hbg⟩
        have hAg := hAr.calls (hbg.mono hsr)
        have hIg := HI.out.below (hbg.mono HI.out.hB)
        have hRg := HR.out.keep (hbg.block (w.heap.size + 4) (by omega))
        have hsg := hbg.size
        have s0 := HQ.out wg hAg 0 _ rfl
        have s1 := HQ.out wg hAg 1 _ rfl
        have s2 := HQ.out wg hAg 2 _ rfl
        have s3 := HQ.out wg hAg 3 _ rfl
        have s4 := HQ.out wg hAg 4 _ rfl
        have s5 := HQ.out wg hAg 5 _ rfl
        have s6 := HQ.out wg hAg 6 _ rfl
        have s7 := HQ.out wg hAg 7 _ rfl
        have s8 := HQ.out wg hAg 8 _ rfl
        have s9 := HQ.out wg hAg 9 _ rfl
        have o0 := HP.out wg hAg 0 _ rfl
        have o1 := HP.out wg hAg 1 _ rfl
        have HTT := Lib.hid (HTH.out (nk + i * C) t wg (by have := HPE.out; omega) ⟨ht.1, by have := ht.2; rw [bytesOf_len] at this; exact this⟩ hIg (by have := HCC.out (i + 1) (by omega); rw [Nat.add_mul] at this; omega))
        have HAg := Lib.hid hAg
        have HRg := Lib.hid hRg
        clear hbg hIg hRg hAg hAr hvi ht q0 q1 q2 p1
        go_wp2_with fail
        refine HTT.out.mono ?_
        rw [← HTC.out]
        rintro e wt ⟨rfl, hIt, hAt⟩
        have hRt := HRg.out.keep (hAt.block (w.heap.size + 4) (by omega) (by show ¬ w.heap.size + 4 = kb; omega))
        have hA2 := HAg.out.trans hAt (fun j hj _ => .inl hj)
        have hst := hAt.size
        obtain ⟨cr, hcr⟩ : ∃ cr, rstOf (candP W H (bytesOf s) far bl oth k x y) = cr := ⟨_, rfl⟩
        obtain ⟨br, hbr⟩ : ∃ br, rstOf (bestL (candP W H (bytesOf s) far bl oth k x) (ws.take i)) = br := ⟨_, rfl⟩
        have hbet : rstOf (bestL (candP W H (bytesOf s) far bl oth k x) (ws.take (i + 1))) = betterR br cr := by rw [HBT.out, rstOf_better, hbr, hcr]
        rw [hbr] at hRt
        rw [hcr]
        obtain ⟨c0, c1, c2⟩ := cr
        obtain ⟨b0, b1, b2⟩ := br
        simp only []
        obtain ⟨w5, hw5⟩ : ∃ w5, w5 = wt.alloc (.cells #[.bool c0, .int .i64 c1, .int .i64 c2] 83) := ⟨_, rfl⟩
        have hb5 : Below wt.heap.size wt w5 := by rw [hw5]; exact (Below.refl _ _).alloc (Nat.le_refl _) _
        have hc5 : RstAt w5 wt.heap.size (c0, c1, c2) := by rw [hw5]; exact rstAt_new _ (c0, c1, c2) rfl
        have hr5 := hRt.keep (hb5.block (w.heap.size + 4) (by omega))
        have hI5 := hIt.below (hb5.mono hIt.hB)
        have hA5 := hA2.calls (hb5.mono (by omega))
        have hs5 := hb5.size
        have HI5 : Hid (SrIn w5 B W H s cb pb mb lb kb m nt (nk + (i + 1) * C) far bl oth) := by
          unfold Hid
          rw [Nat.add_mul, Nat.one_mul, ← Nat.add_assoc]
          exact hI5
        have HA5 := Lib.hid hA5
        have HR5 := Lib.hid hr5
        have d0 := hc5.c0
        have d1 := hc5.c1
        have d2 := hc5.c2
        have e0 := hr5.c0
        have e1 := hr5.c1
        have e2 := hr5.c2
        have f0 := hr5.fz 0
        have f1 := hr5.fz 1
        have f2 := hr5.fz 2
        simp only [] at d0 d1 d2 e0 e1 e2
        have HBE := Lib.hid hbet
        have HW5 := Lib.hid hw5
        have hS4 : wt.heap.size ≠ w.heap.size + 4 := by omega
        rw [hw5] at d0 d1 d2 e0 e1 e2 f0 f1 f2
        clear hw5 hb5 hc5 hr5 hI5 hA5 hbet hIt hAt hA2 hRt hcr hbr s0 s1 s2 s3 s4 s5 s6 s7 s8 s9 o0 o1
        have HSET : Hid (rstOf (bestL (candP W H (bytesOf s) far bl oth k x) (ws.take (i + 1))) = (c0, c1, c2) → ∀ V, V = (((w5.setCell ⟨w.heap.size + 4, 0, none⟩ (.bool c0)).setCell ⟨w.heap.size + 4, 1, none⟩ (.int .i64 c1)).setCell ⟨w.heap.size + 4, 2, none⟩ (.int .i64 c2)) → SrIn V B W H s cb pb mb lb kb m nt (nk + (i + 1) * C) far bl oth ∧ RstAt V (w.heap.size + 4) (rstOf (bestL (candP W H (bytesOf s) far bl oth k x) (ws.take (i + 1)))) ∧ Alt (fun b => b = kb ∨ b = w.heap.size + 4) w3 V) := fun he V hV => by
          subst hV
          rw [he]
          refine ⟨HI5.out.below (below_set3 (Below.refl B w5) (by omega) _ _ _), HR5.out.set3 (c0, c1, c2), ?_⟩
          have h3 : Alt (fun b => b = w.heap.size + 4) w5 (((w5.setCell ⟨w.heap.size + 4, 0, none⟩ (.bool c0)).setCell ⟨w.heap.size + 4, 1, none⟩ (.int .i64 c1)).setCell ⟨w.heap.size + 4, 2, none⟩ (.int .i64 c2)) :=
            ⟨rfl, rfl, rfl, by simp [World.setCell], fun j hj hn => (Below.heap_setCell _ ⟨w.heap.size + 4, 2, none⟩ _ j hn).trans ((Below.heap_setCell _ ⟨w.heap.size + 4, 1, none⟩ _ j hn).trans (Below.heap_setCell _ ⟨w.heap.size + 4, 0, none⟩ _ j hn))⟩
          exact HA5.out.trans h3 (fun j hj _ => .inr hj)
        cases c0 with
        | false =>
          have HE : Hid (rstOf (bestL (candP W H (bytesOf s) far bl oth k x) (ws.take (i + 1))) = (b0, b1, b2)) := by unfold Hid; rw [HBE.out]; simp [betterR]
          go_wp2_with fail
          rw [← HW5.out]
          go_roundw
          case rel => exact ⟨i + 1, by omega, by go_num, HI5.out, by rw [HE.out]; exact HR5.out, HA5.out⟩
          case measure => simp [intOf]; omega
        | true =>
          cases b0 with
          | false =>
            have HE : Hid (rstOf (bestL (candP W H (bytesOf s) far bl oth k x) (ws.take (i + 1))) = (true, c1, c2)) := by unfold Hid; rw [HBE.out]; simp [betterR]
            go_wp2_with fail
            rw [← HW5.out]
            obtain ⟨x1, x2, x3⟩ := HSET.out HE.out _ rfl
            go_roundw
            case rel => exact ⟨i + 1, by omega, by go_num, x1, x2, x3⟩
            case measure => simp [intOf]; omega
          | true =>
            by_cases hcb : c2 < b2
            · have HE : Hid (rstOf (bestL (candP W H (bytesOf s) far bl oth k x) (ws.take (i + 1))) = (true, c1, c2)) := by unfold Hid; rw [HBE.out]; simp [betterR, hcb]
              have hdc : decide (c2 < b2) = true := decide_eq_true hcb
              go_wp2_with fail
              rw [← HW5.out]
              obtain ⟨x1, x2, x3⟩ := HSET.out HE.out _ rfl
              go_roundw
              case rel => exact ⟨i + 1, by omega, by go_num, x1, x2, x3⟩
              case measure => simp [intOf]; omega
            · have HE : Hid (rstOf (bestL (candP W H (bytesOf s) far bl oth k x) (ws.take (i + 1))) = (true, b1, b2)) := by unfold Hid; rw [HBE.out]; simp [betterR, hcb]
              have hdc : decide (c2 < b2) = false := decide_eq_false hcb
              go_wp2_with fail
              rw [← HW5.out]
              go_roundw
              case rel => exact ⟨i + 1, by omega, by go_num, HI5.out, by rw [HE.out]; exact HR5.out, HA5.out⟩
              case measure => simp [intOf]; omega
      · obtain rfl : i = N := by omega
        have HE : Hid (rstOf (bestL (candP W H (bytesOf s) far bl oth k x) (ws.take i)) = rstOf (pathS W H (bytesOf s) far bl oth (k + 1) x)) := by unfold Hid; rw [HPW.out, List.take_of_length_le (by rw [← HN.out]; exact Nat.le_refl _)]
        have hR := HR.out
        rw [HE.out] at hR
        obtain ⟨⟨b0, b1, b2⟩, hbr⟩ : ∃ br, rstOf (pathS W H (bytesOf s) far bl oth (k + 1) x) = br := ⟨_, rfl⟩
        rw [hbr] at hR
        have q9 := HQ.out wr hAr 9 _ rfl
        have p0 := HP.out wr hAr 0 _ rfl
        have p1 := HP.out wr hAr 1 _ rfl
        have hbound := HCC.out i (by omega)
        obtain ⟨f, hK, hAll⟩ := HI.out.kn
        obtain ⟨w6, hrun, hK6, hg6, hz6⟩ := hK.put knownL (a := ((p : Int), x)) (b := (b0, b1, b2)) (by omega) ⟨HWP.out, HX.out⟩ trivial
        have hrun : (Instr.mapUpdate 79 (.map (some kb)) (atV p x) (.agg #[.bool b0, .int .i64 b1, .int .i64 b2])).run Try.prog wr = .ok () w6 := hrun
        have hA6 : Alt (fun j => j = kb) wr w6 := (Alt.refl _ wr).grown hg6 (fun _ => rfl)
        have hKN : KnIn w6 kb (nk + cntK (k + 1)) W H (bytesOf s) far bl oth := by
          refine KnIn.less ⟨_, hK6, fun p' x' hp' hx' r hr => ?_⟩ (by rw [HC1.out]; omega)
          by_cases e : (p', x') = ((p : Int), x)
          · rw [if_pos e] at hr
            injection hr with hr
            injection e with e1 e2
            subst hr e1 e2
            exact ⟨k + 1, by omega, by omega, hbr.symm⟩
          · rw [if_neg e] at hr
            exact hAll p' x' hp' hx' r hr
        have HI6 := Lib.hid (HI.out.alt hA6 (fun j hj => .inl hj) hKN)
        have hr6 := hR.keep (hA6.block (w.heap.size + 4) (by omega) (by show ¬ w.heap.size + 4 = kb; omega))
        have hs6 := (HRS.out wr hAr).keep (hA6.block (w.heap.size + 1 + 1) (by omega) (by show ¬ w.heap.size + 1 + 1 = kb; omega))
        have HA6 := Lib.hid (hAr.trans hA6 (fun j hj _ => .inl hj))
        have c0 := hR.c0
        have c1 := hR.c1
        have c2 := hR.c2
        have d0 := hr6.c0
        have d1 := hr6.c1
        have d2 := hr6.c2
        have e0 := hs6.c0
        have e1 := hs6.c1
        have e2 := hs6.c2
        have f0 := hs6.fz 0
        have f1 := hs6.fz 1
        have f2 := hs6.fz 2
        simp only [] at c0 c1 c2 d0 d1 d2 e0 e1 e2
        have HBR := Lib.hid hbr
        clear hR hbr hK hAll hK6 hg6 hA6 hKN hr6 hs6 hAr
        go_wp2_with fail
        refine bodyPost_ret (v := rstV (b0, b1, b2)) (by simp [results, Try.results38, go_sem, e0, e1, e2]) rfl ⟨by rw [HBR.out], ?_, ?_⟩
        · exact HI6.out.below (below_set3 (Below.refl B w6) (by omega) _ _ _)
        · exact alt_set3 (HA3.out.trans HA6.out (fun j hj hlt => by rcases hj with e | e; exact e; omega)) (by omega) _ _ _
end Go.Proofs.Ytiejinphofkjaaa.Vm
