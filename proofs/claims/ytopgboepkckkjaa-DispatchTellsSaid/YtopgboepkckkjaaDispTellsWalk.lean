/- The walk of the law DispatchTells, over what is said of awake, Dispatch and Best (premises). tuggerlaw10.DispatchTells, with the contracts of awake, Dispatch and Best. -/
import Derived.Test.YtopgboepkckkjaaLightTen
import Derived.Test.YtopgboepkckkjaaRefDisps
import Derived.Test.YtopgboepkckkjaaStSames
import Derived.Test.YtopgboepkckkjaaAwakeTen
import Derived.Deep.QuietTactic
import Derived.BigQuiet
namespace Go.Proofs.Ytopgboepkckkjaa.Vm
open Go Go.RowKit
set_option maxRecDepth 100000

set_option maxHeartbeats 2000000 in
theorem dispatchTells_says (HA : ∀ w : World, Calls Try.prog 6 #[] w fun e w' => e = .returned (.bool true) ∧ Below w.heap.size w w') (HD : SaysDisp 8) (HBS : SaysBest 11)
    (W H : Int) (g : ByteArray) (h : Sh) (s : St) (x : Int) (w : World) (hg : g.size ≤ maxLen) (hi : StIn w w.heap.size h s) :
    Calls Try.prog 3 #[gridV W H g, shV h, .int .i64 x] w fun e w' => e = .returned (.bool true) ∧ Below w.heap.size w w' := by
  obtain ⟨w2, hw2, hB2, hz2, hg2, hs2⟩ := gs_head w W H g h
  have HAW := Lib.hid (HA w2)
  have HW2 := Lib.hid hw2
  have HG2 := Lib.hid hg2
  have HS2 := Lib.hid hs2
  have HB2 := Lib.hid hB2
  have HLI := Lib.hid fun V (hV : Below w.heap.size w V) => light10_any W H g h s w.heap.size V hg (hi.below hV) hV.size
  have HNB := Lib.hid hi.bl.1
  have HDC := Lib.hid fun (hok : Okay W H g) (hrp : RightP (floorS (bytesOf g)) s) (hn3 : h.n3 ≤ 100000) V (hV : Below w.heap.size w V) => HD W H g h s w.heap.size V hok (hi.below hV) hV.size hrp hn3
  have HDR := Lib.hid fun (hok : Okay W H g) (hrp : RightP (floorS (bytesOf g)) s) (hn3 : h.n3 ≤ 100000) V (hV : Below w.heap.size w V) => rdisp_any W H g h s w.heap.size V hok (hi.below hV) hV.size hrp hn3
  have HB1 := Lib.hid fun (hok : Okay W H g) (hrp : RightP (floorS (bytesOf g)) s) (hn3 : h.n3 ≤ 1000000) V (hV : Below w.heap.size w V) => HBS W H g h s x w.heap.size V hok (hi.below hV) hV.size hrp hn3
  have HB2R := Lib.hid fun (hok : Okay W H g) (hrp : RightP (floorS (bytesOf g)) s) (hn3 : h.n3 ≤ 1000000) V (hV : Below w.heap.size w V) => rbest_any W H g h s x w.heap.size V hok (hi.below hV) hV.size hrp hn3
  have HIN := Lib.hid fun (hl : light10 W H g h s = true) => light10_in hl
  generalize light10 W H g h s = L at HLI HIN
  obtain ⟨t, a1, n1, c1, a2, n2, c2, a3, n3, c3⟩ := h
  simp only [] at HLI HDC HIN HNB HDR HB1 HB2R
  clear hw2 hg2 hs2 hB2 hi hg
  go_enter Try.func3, Try.ntmps3
  go_wp2_with fail
  rw [← HW2.out]
  refine HAW.out.mono ?_
  rintro e w3 ⟨rfl, hb3⟩
  have HB3 := Lib.hid (HB2.out.trans (hb3.mono HB2.out.size))
  have HG3 := Lib.hid (HG2.out.below hb3 (by omega))
  have HS3 := Lib.hid (HS2.out.below hb3 (by omega))
  have hz3 : w.heap.size + 2 ≤ w3.heap.size := by have := hb3.size; omega
  clear hb3 hz2
  obtain ⟨g0, g1, g2⟩ := id HG3.out
  obtain ⟨s0, s1, s2, s3⟩ := id HS3.out
  simp only [] at s0 s1 s2 s3
  go_wp2_with fail
  refine (HLI.out w3 HB3.out).mono ?_
  rintro e w4 ⟨rfl, hb4⟩
  have HB4 := Lib.hid (HB3.out.trans (hb4.mono HB3.out.size))
  have HG4 := Lib.hid (HG3.out.below hb4 (by omega))
  have HS4 := Lib.hid (HS3.out.below hb4 (by omega))
  have hz4 : w.heap.size + 2 ≤ w4.heap.size := by have := hb4.size; omega
  clear hb4 g0 g1 g2 s0 s1 s2 s3
  cases L with
  | false =>
    go_wp2_with fail
    go_ret
    exact ⟨rfl, HB4.out⟩
  | true =>
    obtain ⟨⟨_, _, _, hk3⟩, hrp, hrs⟩ := HIN.out rfl
    have HOK := Lib.hid (Okay.of hrs)
    have HCR := Lib.hid fun V hV => HDR.out HOK.out hrp (by omega) V hV
    have HQ1 := Lib.hid fun V hV => HB1.out HOK.out hrp (by omega) V hV
    have HQ2 := Lib.hid fun V hV => HB2R.out HOK.out hrp (by omega) V hV
    generalize bestG W H (bytesOf g) s x = bx at HQ1 HQ2
    have HCA := Lib.hid (HDC.out HOK.out hrp (by omega) w4 HB4.out)
    generalize dispG W H (bytesOf g) s = D at HCR HCA
    obtain ⟨st, ps⟩ := D
    simp only [] at HCR HCA
    obtain ⟨g0, g1, g2⟩ := id HG4.out
    obtain ⟨s0, s1, s2, s3⟩ := id HS4.out
    simp only [] at s0 s1 s2 s3
    clear hrp hrs HDR HB1 HB2R HDC HLI HIN
    go_wp2_with fail
    refine HCA.out.mono ?_
    rintro e w5 ⟨h', ap, np, cp, rfl, hst5, hrow5, hb5⟩
    obtain ⟨w6, hw6⟩ : ∃ w6, w6 = w5.alloc (shO h') := ⟨_, rfl⟩
    have hb56 : Below w5.heap.size w5 w6 := by rw [hw6]; exact (Below.refl _ _).alloc (Nat.le_refl _) _
    have hz56 : w6.heap.size = w5.heap.size + 1 := by rw [hw6]; simp
    have HX6 : Hid (StAt w6 w5.heap.size h') := by unfold Hid; rw [hw6]; exact stAt_new w5 h'
    have hz5 : w.heap.size + 2 ≤ w5.heap.size := by have := hb5.size; omega
    have HB6 := Lib.hid ((HB4.out.trans (hb5.mono HB4.out.size)).trans (hb56.mono (by omega)))
    have HG6 := Lib.hid ((HG4.out.below hb5 (by omega)).below hb56 (by omega))
    have HS6 := Lib.hid ((HS4.out.below hb5 (by omega)).below hb56 (by omega))
    have HST6 := Lib.hid (hst5.below hb56)
    have HR6 := Lib.hid (hrow5.below hb56)
    have HCR6 := Lib.hid (HCR.out w6 HB6.out)
    have HW6 := Lib.hid hw6
    obtain ⟨t', a1', n1', c1', a2', n2', c2', a3', n3', c3'⟩ := h'
    clear hst5 hrow5 hb5 hb56 hw6 g0 g1 g2 s0 s1 s2 s3 HCA HCR
    obtain ⟨g0, g1, g2⟩ := id HG6.out
    obtain ⟨s0, s1, s2, s3⟩ := id HS6.out
    simp only [] at s0 s1 s2 s3
    rw [HW6.out] at g0 g1 g2 s0 s1 s2 s3
    go_wp2_with fail
    rw [← HW6.out]
    refine HCR6.out.mono ?_
    rintro e w7 ⟨h'', aq, nq', cq, rfl, hst7, hrow7, hb7⟩
    obtain ⟨w8, hw8⟩ : ∃ w8, w8 = w7.alloc (shO h'') := ⟨_, rfl⟩
    have hb78 : Below w7.heap.size w7 w8 := by rw [hw8]; exact (Below.refl _ _).alloc (Nat.le_refl _) _
    have hz78 : w8.heap.size = w7.heap.size + 1 := by rw [hw8]; simp
    have hx8 : StAt w8 w7.heap.size h'' := by rw [hw8]; exact stAt_new w7 h''
    have hz7 := hb7.size
    have hb68 : Below w6.heap.size w6 w8 := hb7.trans (hb78.mono hz7)
    have HB8 := Lib.hid (HB6.out.trans (hb68.mono HB6.out.size))
    have HG8 := Lib.hid (HG6.out.below hb68 (by omega))
    have HS8 := Lib.hid (HS6.out.below hb68 (by omega))
    have HR8 := Lib.hid (HR6.out.below (hb68.mono (by omega)))
    have HRR8 := Lib.hid (hrow7.below hb78)
    have hx68 := HX6.out.below hb68 (by omega)
    have HSM := Lib.hid (rstSame_any ⟨t', a1', n1', c1', a2', n2', c2', a3', n3', c3'⟩ h'' st st w8.heap.size w8 (((HST6.out.below (hb68.mono (by omega))).mono (by omega))) ((hst7.below hb78).mono (by omega)) (Nat.le_refl _))
    rw [sameSt_all rfl rfl rfl rfl] at HSM
    have HW8 := Lib.hid hw8
    obtain ⟨t'', a1'', n1'', c1'', a2'', n2'', c2'', a3'', n3'', c3''⟩ := h''
    obtain ⟨x0, x1, x2, x3⟩ := hx68
    obtain ⟨y0, y1, y2, y3⟩ := hx8
    simp only [] at x0 x1 x2 x3 y0 y1 y2 y3
    rw [HW8.out] at x0 x1 x2 x3 y0 y1 y2 y3
    clear hst7 hrow7 hb7 hb78 hb68 hw8 g0 g1 g2 s0 s1 s2 s3 HCR6
    go_wp2_with fail
    rw [← HW8.out]
    refine HSM.out.mono ?_
    rintro e w9 ⟨rfl, hb9⟩
    have hz9 := hb9.size
    have HB9 := Lib.hid (HB8.out.trans (hb9.mono HB8.out.size))
    have hg9 := HG8.out.below hb9 (by omega)
    have hs9 := HS8.out.below hb9 (by omega)
    obtain ⟨z0, z1, z2⟩ := hg9
    obtain ⟨v0, v1, v2, v3⟩ := hs9
    simp only [] at v0 v1 v2 v3
    have hr9 := HR8.out.below (hb9.mono (by omega))
    have hrr9 := HRR8.out.below (hb9.mono (by omega))
    obtain rfl : np = nq' := hr9.1.symm.trans hrr9.1
    have hnp := hr9.2.1
    have hnq := hrr9.2.1
    have hmp := hr9.2.2.1
    have hmq := hrr9.2.2.1
    unfold maxLen at hmp hmq
    have HKS : Hid (∀ V, Kept w9 V → Kept w9 V ∧ V.cell? ⟨w.heap.size, 0, none⟩ = some (.int .i64 W) ∧ V.cell? ⟨w.heap.size, 1, none⟩ = some (.int .i64 H) ∧ V.cell? ⟨w.heap.size, 2, none⟩ = some (.string g) ∧ V.cell? ⟨w.heap.size + 1, 0, none⟩ = some (.int .i64 t) ∧ V.cell? ⟨w.heap.size + 1, 1, none⟩ = some (.slice a1 n1 c1) ∧ V.cell? ⟨w.heap.size + 1, 2, none⟩ = some (.slice a2 n2 c2) ∧ V.cell? ⟨w.heap.size + 1, 3, none⟩ = some (.slice a3 n3 c3)) := fun V hV =>
      ⟨hV, (Below.cell hV (p := ⟨w.heap.size, 0, none⟩) (show w.heap.size < w9.heap.size by omega)).trans z0, (Below.cell hV (p := ⟨w.heap.size, 1, none⟩) (show w.heap.size < w9.heap.size by omega)).trans z1, (Below.cell hV (p := ⟨w.heap.size, 2, none⟩) (show w.heap.size < w9.heap.size by omega)).trans z2, (Below.cell hV (p := ⟨w.heap.size + 1, 0, none⟩) (show w.heap.size + 1 < w9.heap.size by omega)).trans v0, (Below.cell hV (p := ⟨w.heap.size + 1, 1, none⟩) (show w.heap.size + 1 < w9.heap.size by omega)).trans v1, (Below.cell hV (p := ⟨w.heap.size + 1, 2, none⟩) (show w.heap.size + 1 < w9.heap.size by omega)).trans v2, (Below.cell hV (p := ⟨w.heap.size + 1, 3, none⟩) (show w.heap.size + 1 < w9.heap.size by omega)).trans v3⟩
    have HP1 : Hid (∀ V, Kept w9 V → Calls Try.prog 11 #[gridV W H g, shV ⟨t, a1, n1, c1, a2, n2, c2, a3, n3, c3⟩, .int .i64 x] V fun e V' => e = .returned (.int .i64 bx) ∧ Kept w9 V') := fun V hV =>
      (HQ1.out V (HB9.out.trans (Below.mono hV HB9.out.size))).mono fun e V' ⟨he, hb⟩ => ⟨he, Below.trans hV (hb.mono (Below.size hV))⟩
    have HP2 : Hid (∀ V, Kept w9 V → Calls Try.prog 12 #[gridV W H g, shV ⟨t, a1, n1, c1, a2, n2, c2, a3, n3, c3⟩, .int .i64 x] V fun e V' => e = .returned (.int .i64 bx) ∧ Kept w9 V') := fun V hV =>
      (HQ2.out V (HB9.out.trans (Below.mono hV HB9.out.size))).mono fun e V' ⟨he, hb⟩ => ⟨he, Below.trans hV (hb.mono (Below.size hV))⟩
    have HC1 : Hid (∀ V, Kept w9 V → RowP V w9.heap.size ap np cp ps) := fun V hV => (hr9.mono (by omega)).below hV
    have HC2 : Hid (∀ V, Kept w9 V → RowP V w9.heap.size aq np cq ps) := fun V hV => (hrr9.mono (by omega)).below hV
    have e0 : ((np : Int) != (np : Int)) = false := by simp
    have e1 : (bx != bx) = false := by simp
    have k9 : Kept w9 w9 := Kept.refl _
    clear hb9 z0 z1 z2 v0 v1 v2 v3 x0 x1 x2 x3 y0 y1 y2 y3 hr9 hrr9 HSM HQ1 HQ2
    go_wp2_with fail
    go_region_held3 (fun V => Kept w9 V ∧ V.cell? ⟨w.heap.size, 0, none⟩ = some (.int .i64 W) ∧ V.cell? ⟨w.heap.size, 1, none⟩ = some (.int .i64 H) ∧ V.cell? ⟨w.heap.size, 2, none⟩ = some (.string g) ∧ V.cell? ⟨w.heap.size + 1, 0, none⟩ = some (.int .i64 t) ∧ V.cell? ⟨w.heap.size + 1, 1, none⟩ = some (.slice a1 n1 c1) ∧ V.cell? ⟨w.heap.size + 1, 2, none⟩ = some (.slice a2 n2 c2) ∧ V.cell? ⟨w.heap.size + 1, 3, none⟩ = some (.slice a3 n3 c3))
      (first | exact HKS.out _ (by assumption) | exact HKS.out _ (Kept.drew (by assumption)))
      (first
        | (go_at_call 11; refine (HP1.out _ (by first | exact k9 | exact Kept.drew k9)).mono ?_; rintro e wa ⟨rfl, ka⟩)
        | (go_at_call 12; refine (HP2.out _ (by first | exact ka | exact Kept.drew ka)).mono ?_; rintro e wb ⟨rfl, kb⟩))
    have HKB := Lib.hid kb
    clear ka kb k9
    go_wp2_with fail
    go_loopw [14] (fun v wr => ∃ k : Nat, k ≤ np ∧ v = .int .i64 k ∧ Hid (Kept w9 wr)) (fun v _ => np - (intOf v).toNat)
    case atStart => exact ⟨0, Nat.zero_le _, rfl, HKB.out⟩
    case round =>
      obtain ⟨k, hk, rfl, HK⟩ := hrel
      by_cases hlt : k < np
      · obtain ⟨b1, o1, rfl, hq1, hc1⟩ := (HC1.out wr HK.out).cells (by omega)
        obtain ⟨b2, o2, rfl, hq2, hc2⟩ := (HC2.out wr HK.out).cells (by omega)
        obtain ⟨f1, f2⟩ := hc1 k hlt
        obtain ⟨f3, f4⟩ := hc2 k hlt
        have hkn : (k : Int) < (np : Int) := by omega
        generalize (((ps.getD k (0, 0)).1 : Nat) : Int) = p1 at f1 f3
        generalize (((ps.getD k (0, 0)).2 : Nat) : Int) = p2 at f2 f4
        have e2 : (p1 != p1) = false := by simp
        have e3 : (p2 != p2) = false := by simp
        clear hc1 hc2
        go_wp2_with fail
        go_quiet (fail)
        have HKQ : Hid (Kept w9 (wr.drewN nq)) := below_drewN HK.out nq
        go_wp2_with fail
        go_roundw
        case rel => exact ⟨k + 1, by omega, by go_num, HKQ⟩
        case measure => simp [intOf]; omega
      · obtain rfl : k = np := by omega
        have HBE := Lib.hid (HB9.out.trans (Below.mono HK.out HB9.out.size))
        go_wp2_with fail
        go_ret
        exact ⟨rfl, HBE.out⟩
end Go.Proofs.Ytopgboepkckkjaa.Vm

namespace Go.Proofs.Ytopgboepkckkjaa.Vm
open Go Go.RowKit
theorem dispatchTells_say (W H : Int) (g : ByteArray) (h : Sh) (s : St) (x : Int) (w : World) (_ : (Lit.int .i64 W).wf = true) (_ : (Lit.int .i64 H).wf = true) (hg : g.size ≤ maxLen) (hi : StIn w w.heap.size h s) (_ : (Lit.int .i64 x).wf = true) :
    Calls Try.prog 3 #[gridV W H g, shV h, .int .i64 x] w fun e w' => e = .returned (.bool true) ∧ Below w.heap.size w w' :=
  dispatchTells_says awake10_any pdisp_any pbest_any W H g h s x w hg hi
end Go.Proofs.Ytopgboepkckkjaa.Vm
