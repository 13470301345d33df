/- The walk of the law PlanPlans. -/
import Derived.Test.YtiejinphofkjaaaRefPlans
import Derived.Test.YtiejinphofkjaaaAwakeNine
import Derived.Test.YtiejinphofkjaaaListsNine
import Derived.Test.YtiejinphofkjaaaRefStRights
import Derived.Test.YtiejinphofkjaaaRights
import Derived.Deep.RegionHeld3
namespace Go.Proofs.Ytiejinphofkjaaa.Vm
open Go Go.RowKit
set_option maxRecDepth 100000

set_option maxHeartbeats 4000000 in
theorem planPlans_walk (W H : Int) (g : ByteArray) (h : Sh) (s : St) (w : World) (hW : wfI W) (hH : wfI H) (hg : g.size ≤ maxLen) (hi : StIn w w.heap.size h s) :
    Calls Try.prog 4 #[gridV W H g, shV h] w fun e w' => e = .returned (.bool true) ∧ Below w.heap.size w w' := by
  obtain ⟨w2, hw2, hB2, hz2, hg2, hs2⟩ := gs_head w W H g h
  have HAW := Lib.hid (awake9_any w2)
  have HW2 := Lib.hid hw2
  have HG2 := Lib.hid hg2
  have HS2 := Lib.hid hs2
  have HB2 := Lib.hid hB2
  have HI := Lib.hid hi
  have HG := Lib.hid hg
  have HRI := Lib.hid fun V => rright_any W H g V hg
  have hl1 := hi.rs.len
  have hl2 := hi.ts.len
  have hl3 := Nat.le_trans hi.bl.2.1 hi.bl.2.2.1
  unfold maxLen at hl1 hl2 hl3 hg
  have HRS := Lib.hid fun V (hV : Below w.heap.size w V) => rstRight_any W H g h s w.heap.size V HG.out (hi.below hV) hV.size
  have HPP := Lib.hid fun (hok : Okay W H g) (hrp : RightP (floorS (bytesOf g)) s) (hn1 : h.n1 ≤ 6) (hn3 : h.n3 ≤ 20) V (hV : Below w.heap.size w V) => planPlans_any W H g h s w.heap.size V hok (hi.below hV) hV.size hrp (by omega)
  have HRP := Lib.hid fun (hok : Okay W H g) (hrp : RightP (floorS (bytesOf g)) s) (hn1 : h.n1 ≤ 6) (hn3 : h.n3 ≤ 20) V (hV : Below w.heap.size w V) => rplans_any W H g h s w.heap.size V hok (hi.below hV) hV.size hrp (by omega) (by omega)
  obtain ⟨t, a1, n1, c1, a2, n2, c2, a3, n3, c3⟩ := h
  simp only [] at hl1 hl2 hl3 HRS HPP HRP
  clear hw2 hg2 hs2 hB2 hi hW hH
  go_enter Try.func4, Try.ntmps4
  go_wp2_with fail
  rw [← HW2.out]
  refine HAW.out.mono ?_
  rintro e w3 ⟨rfl, hb3⟩
  have HB3 := Lib.hid (HB2.out.trans (hb3.mono HB2.out.size))
  have HG3 := Lib.hid (HG2.out.below hb3 (by omega))
  have HS3 := Lib.hid (HS2.out.below hb3 (by omega))
  have hz3 : w.heap.size + 2 ≤ w3.heap.size := by have := hb3.size; omega
  clear hb3
  obtain ⟨g0, g1, g2⟩ := id HG3.out
  obtain ⟨s0, s1, s2, s3⟩ := id HS3.out
  simp only [] at s0 s1 s2 s3
  by_cases h60 : 60 < g.size
  · have e1 : decide ((g.size : Int) > 60) = true := by rw [decide_eq_true_eq]; omega
    go_wp2_with fail
    go_ret
    exact ⟨rfl, HB3.out⟩
  have e1 : decide ((g.size : Int) > 60) = false := by rw [decide_eq_false_iff_not]; omega
  by_cases h6 : 6 < n1
  · have e2 : decide ((n1 : Int) > 6) = true := by rw [decide_eq_true_eq]; omega
    go_wp2_with fail
    go_ret
    exact ⟨rfl, HB3.out⟩
  have e2 : decide ((n1 : Int) > 6) = false := by rw [decide_eq_false_iff_not]; omega
  by_cases h20 : 20 < n2
  · have e3 : decide ((n2 : Int) > 20) = true := by rw [decide_eq_true_eq]; omega
    go_wp2_with fail
    go_ret
    exact ⟨rfl, HB3.out⟩
  have e3 : decide ((n2 : Int) > 20) = false := by rw [decide_eq_false_iff_not]; omega
  by_cases h30 : 20 < n3
  · have e4 : decide ((n3 : Int) > 20) = true := by rw [decide_eq_true_eq]; omega
    go_wp2_with fail
    go_ret
    exact ⟨rfl, HB3.out⟩
  have e4 : decide ((n3 : Int) > 20) = false := by rw [decide_eq_false_iff_not]; omega
  have HR3 := Lib.hid (HRI.out w3)
  obtain ⟨r, hr⟩ : ∃ r, rightS W H (bytesOf g) = r := ⟨_, rfl⟩
  rw [hr] at HR3
  have HR := Lib.hid hr
  clear hr HRI
  cases r with
  | false =>
    go_wp2_with fail
    refine HR3.out.mono ?_
    rintro e w4 ⟨rfl, hb4⟩
    have HB4 := Lib.hid (HB3.out.trans (hb4.mono HB3.out.size))
    clear hb4
    go_wp2_with fail
    go_ret
    exact ⟨rfl, HB4.out⟩
  | true =>
    have HOK := Lib.hid (Okay.of HR.out)
    go_wp2_with fail
    refine HR3.out.mono ?_
    rintro e w4 ⟨rfl, hb4⟩
    have HB4 := Lib.hid (HB3.out.trans (hb4.mono HB3.out.size))
    have HG4 := Lib.hid (HG3.out.below hb4 (by omega))
    have HS4 := Lib.hid (HS3.out.below hb4 (by omega))
    have hz4 : w.heap.size + 2 ≤ w4.heap.size := by have := hb4.size; omega
    clear hb4 g0 g1 g2 s0 s1 s2 s3
    obtain ⟨g0, g1, g2⟩ := id HG4.out
    obtain ⟨s0, s1, s2, s3⟩ := id HS4.out
    simp only [] at s0 s1 s2 s3
    have HR4 := Lib.hid (HRS.out w4 HB4.out)
    have HRI : Hid (rightB (floorS (bytesOf g)) s = true ↔ RightP (floorS (bytesOf g)) s) := yes_iff
    generalize rightB (floorS (bytesOf g)) s = rb at HR4 HRI
    cases rb with
    | false =>
      go_wp2_with fail
      refine HR4.out.mono ?_
      rintro e w5 ⟨rfl, hb5⟩
      have HB5 := Lib.hid (HB4.out.trans (hb5.mono HB4.out.size))
      clear hb5
      go_wp2_with fail
      go_ret
      exact ⟨rfl, HB5.out⟩
    | true =>
      have HRT := Lib.hid (HRI.out.1 rfl)
      go_wp2_with fail
      refine HR4.out.mono ?_
      rintro e w5 ⟨rfl, hb5⟩
      have HB5 := Lib.hid (HB4.out.trans (hb5.mono HB4.out.size))
      have hg5 := HG4.out.below hb5 (by omega)
      have hs5 := HS4.out.below hb5 (by omega)
      have hz5 : w.heap.size + 2 ≤ w5.heap.size := by have := hb5.size; omega
      obtain ⟨x0, x1, x2⟩ := hg5
      obtain ⟨y0, y1, y2, y3⟩ := hs5
      simp only [] at y0 y1 y2 y3
      obtain ⟨ps, hps⟩ : ∃ ps, plansG W H (bytesOf g) s n1 = ps := ⟨_, rfl⟩
      have HPA : Hid (∀ V, Kept w5 V → Calls Try.prog 15 #[gridV W H g, shV ⟨t, a1, n1, c1, a2, n2, c2, a3, n3, c3⟩] V (fun e V' => ∃ a c, e = .returned (.slice a n1 c) ∧ RowL V' V'.heap.size a n1 c ps ∧ Kept w5 V')) := fun V hV =>
        (HPP.out HOK.out HRT.out (by omega) (by omega) V (HB5.out.trans (Below.mono hV HB5.out.size))).mono fun e V' ⟨a, c, q1, q2, q3⟩ => ⟨a, c, q1, by rw [← hps]; exact q2, Below.trans hV (q3.mono (Below.size hV))⟩
      have HPB : Hid (∀ A V, Kept A V → Kept w5 V → Calls Try.prog 16 #[gridV W H g, shV ⟨t, a1, n1, c1, a2, n2, c2, a3, n3, c3⟩] V (fun e V' => ∃ a c, e = .returned (.slice a n1 c) ∧ RowL V' V'.heap.size a n1 c ps ∧ Kept A V' ∧ Kept w5 V')) := fun A V hA hV =>
        (HRP.out HOK.out HRT.out (by omega) (by omega) V (HB5.out.trans (Below.mono hV HB5.out.size))).mono fun e V' ⟨a, c, q1, q2, q3⟩ => ⟨a, c, q1, by rw [← hps]; exact q2, Below.trans hA (q3.mono (Below.size hA)), Below.trans hV (q3.mono (Below.size hV))⟩
      have HKS : Hid (∀ V, Kept w5 V → Kept w5 V ∧ V.cell? ⟨w.heap.size, 0, none⟩ = some (.int .i64 W) ∧ V.cell? ⟨w.heap.size, 1, none⟩ = some (.int .i64 H) ∧ V.cell? ⟨w.heap.size, 2, none⟩ = some (.string g) ∧ V.cell? ⟨w.heap.size + 1, 0, none⟩ = some (.int .i64 t) ∧ V.cell? ⟨w.heap.size + 1, 1, none⟩ = some (.slice a1 n1 c1) ∧ V.cell? ⟨w.heap.size + 1, 2, none⟩ = some (.slice a2 n2 c2) ∧ V.cell? ⟨w.heap.size + 1, 3, none⟩ = some (.slice a3 n3 c3)) := fun V hV =>
        ⟨hV, (Below.cell hV (p := ⟨w.heap.size, 0, none⟩) (show w.heap.size < w5.heap.size by omega)).trans x0, (Below.cell hV (p := ⟨w.heap.size, 1, none⟩) (show w.heap.size < w5.heap.size by omega)).trans x1, (Below.cell hV (p := ⟨w.heap.size, 2, none⟩) (show w.heap.size < w5.heap.size by omega)).trans x2, (Below.cell hV (p := ⟨w.heap.size + 1, 0, none⟩) (show w.heap.size + 1 < w5.heap.size by omega)).trans y0, (Below.cell hV (p := ⟨w.heap.size + 1, 1, none⟩) (show w.heap.size + 1 < w5.heap.size by omega)).trans y1, (Below.cell hV (p := ⟨w.heap.size + 1, 2, none⟩) (show w.heap.size + 1 < w5.heap.size by omega)).trans y2, (Below.cell hV (p := ⟨w.heap.size + 1, 3, none⟩) (show w.heap.size + 1 < w5.heap.size by omega)).trans y3⟩
      have k5 : Kept w5 w5 := Kept.refl _
      have hn1 : n1 ≤ 6 := by omega
      clear hb5 g0 g1 g2 s0 s1 s2 s3 x0 x1 x2 y0 y1 y2 y3 hps HRS HPP HRP HR4 HR3
      go_wp2_with fail
      go_region_held3 (fun V => Kept w5 V ∧ V.cell? ⟨w.heap.size, 0, none⟩ = some (.int .i64 W) ∧ V.cell? ⟨w.heap.size, 1, none⟩ = some (.int .i64 H) ∧ V.cell? ⟨w.heap.size, 2, none⟩ = some (.string g) ∧ V.cell? ⟨w.heap.size + 1, 0, none⟩ = some (.int .i64 t) ∧ V.cell? ⟨w.heap.size + 1, 1, none⟩ = some (.slice a1 n1 c1) ∧ V.cell? ⟨w.heap.size + 1, 2, none⟩ = some (.slice a2 n2 c2) ∧ V.cell? ⟨w.heap.size + 1, 3, none⟩ = some (.slice a3 n3 c3))
        (first | exact HKS.out _ (by assumption) | exact HKS.out _ (Kept.drew (by assumption)))
        (first
          | (go_at_call 15; refine (HPA.out _ (by first | exact k5 | exact Kept.drew k5)).mono ?_; rintro e w6 ⟨a6, c6, rfl, hr6, k6⟩)
          | (go_at_call 16; refine (HPB.out w6 _ (by first | exact Kept.refl _ | exact Kept.drew (Kept.refl _)) (by first | exact k6 | exact Kept.drew k6)).mono ?_; rintro e w7 ⟨a7, c7, rfl, hr7, m7, k7⟩; have hr67 := (hr6.below (show Below w6.heap.size w6 w7 from m7)).mono (Below.size m7))
          | (go_at_call 14; refine (listsSame_any a6 a7 n1 c6 c7 w7.heap.size ps _ (by first | exact hr67 | exact hr67.below (Below.drew (Below.refl _ _))) (by first | exact hr7 | exact hr7.below (Below.drew (Below.refl _ _))) (by omega)).mono ?_; rintro e w8 ⟨rfl, hb8⟩; have k8 : Kept w5 w8 := by first | exact Below.trans k7 (Below.mono hb8 (Below.size k7)) | exact Below.trans (Kept.drew k7) (Below.mono hb8 (Below.size (Kept.drew k7)))))
      have HB8 := Lib.hid (HB5.out.trans (Below.mono k8 HB5.out.size))
      clear hr6 hr7 k6 k7 k8
      go_wp2_with fail
      go_ret
      exact ⟨rfl, HB8.out⟩
end Go.Proofs.Ytiejinphofkjaaa.Vm
