/- The walk of the law PlanPaths. -/
import Derived.Test.YtiejinphofkjaaaOpenLists9
import Derived.Deep.RegionHeld3
namespace Go.Proofs.Ytiejinphofkjaaa.Vm
open Go Go.RowKit Go.Maps
set_option maxRecDepth 100000

set_option maxHeartbeats 2000000 in
theorem planPaths_walk (W H : Int) (s : ByteArray) (fr to : Int) (a : Option Addr) (n c : Nat) (ls : List (List Int)) (w : World) (hW : wfI W) (hH : wfI H) (hs : s.size ≤ maxLen) (hfr : wfI fr) (hto : wfI to) (hl : RowL w w.heap.size a n c ls ∧ ∀ q ∈ ls, WfZ q) :
    Calls Try.prog 3 #[gridV W H s, .agg #[.int .i64 fr, .int .i64 to], .slice a n c] w fun e w' => e = .returned (.bool true) ∧ Below w.heap.size w w' := by
  obtain ⟨w1, hw1, hb1, hz1, hg1, ha0, ha1⟩ := args9_head w W H s fr to
  have HAW := Lib.hid (awake9_any w1)
  have HB1 := Lib.hid hb1
  have HZ1 := Lib.hid hz1
  have HG1 := Lib.hid hg1
  have HA1 := Lib.hid (And.intro ha0 ha1)
  have HW1 := Lib.hid hw1
  have HL := Lib.hid hl.1
  have HLW := Lib.hid hl.2
  have HS := Lib.hid hs
  have HFR := Lib.hid hfr
  have HTO := Lib.hid hto
  clear hb1 hz1 hg1 ha0 ha1 hw1 hl hs hfr hto hW hH
  go_enter Try.func3, Try.ntmps3
  go_wp2_with fail
  rw [← HW1.out]
  refine HAW.out.mono ?_
  rintro e w2 ⟨rfl, hb2⟩
  have hz1 := HZ1.out
  obtain ⟨g0, g1, g2⟩ := HG1.out.below hb2 (by omega)
  have hbw2 := HB1.out.trans (hb2.mono HB1.out.size)
  have HLI := Lib.hid (light9_any W H s a n c w.heap.size ls w2 (HL.out.below hbw2) hbw2.size HS.out)
  have HB2 := Lib.hid hb2
  have HBW2 := Lib.hid hbw2
  clear hz1 hb2 hbw2
  go_wp2_with fail
  refine HLI.out.mono ?_
  rintro e w3 ⟨b, rfl, hlb, hb3⟩
  have hz1 := HZ1.out
  have hz3 := hb3.size
  have hz2 := HB2.out.size
  have HBW3 := Lib.hid (HBW2.out.trans (hb3.mono HBW2.out.size))
  have hb13 := HB2.out.trans (hb3.mono hz2)
  have HB13 := Lib.hid hb13
  obtain ⟨k0, k1, k2⟩ := HG1.out.below hb13 (by omega)
  have HLB := Lib.hid hlb
  clear hz1 hz3 hz2 hb3 hb13 hlb
  cases b with
  | false =>
    go_wp2_with fail
    go_ret
    exact ⟨rfl, HBW3.out⟩
  | true =>
    obtain ⟨hs60, hn8, hq12⟩ := HLB.out rfl
    have HQ := Lib.hid hq12
    by_cases hn0 : n = 0
    · subst hn0
      clear hq12 HLB
      go_wp2_with fail
      go_ret
      exact ⟨rfl, HBW3.out⟩
    · have hne : ((n : Int) == 0) = false := by simpa using hn0
      have HRI := Lib.hid (rright_any W H s w3 HS.out)
      obtain ⟨r, hr⟩ : ∃ r, rightS W H (bytesOf s) = r := ⟨_, rfl⟩
      rw [hr] at HRI
      have HR := Lib.hid hr
      have hn0' : 0 < n := by omega
      clear hr hn0 hq12 HLB
      cases r with
      | false =>
        go_wp2_with fail
        refine HRI.out.mono ?_
        rintro e w4 ⟨rfl, hb4⟩
        have HB4 := Lib.hid (HBW3.out.trans (hb4.mono HBW3.out.size))
        clear hb4
        go_wp2_with fail
        go_ret
        exact ⟨rfl, HB4.out⟩
      | true =>
        go_wp2_with fail
        refine HRI.out.mono ?_
        rintro e w4 ⟨rfl, hb4⟩
        have hok := Okay.of HR.out
        have hz1 := HZ1.out
        have hz13 := HB13.out.size
        have hb14 := HB13.out.trans (hb4.mono hz13)
        obtain ⟨j0, j1, j2⟩ := HG1.out.below hb14 (by omega)
        have ja0 := (hb14.cell (p := ⟨w.heap.size + 1, 0, none⟩) (show w.heap.size + 1 < w1.heap.size by omega)).trans HA1.out.1
        have ja1 := (hb14.cell (p := ⟨w.heap.size + 1, 1, none⟩) (show w.heap.size + 1 < w1.heap.size by omega)).trans HA1.out.2
        have hbw4 := HBW3.out.trans (hb4.mono HBW3.out.size)
        have hl4 := HL.out.below hbw4
        obtain ⟨b, off, rfl, hblt, hcs⟩ := hl4.cells hn0'
        obtain ⟨a0, n0, c0, hc0, hr0⟩ := hcs 0 hn0'
        rw [Nat.add_zero] at hc0
        have hnc := hl4.2.1
        have hcm := hl4.2.2.1
        unfold maxLen at hcm
        have hl0 : w.heap.size < w4.heap.size := by have := hb14.size; omega
        have hl1 : w.heap.size + 1 < w4.heap.size := by have := hb14.size; omega
        have HB14 := Lib.hid hb14
        have HBW4 := Lib.hid hbw4
        have HL4 := Lib.hid hl4
        clear hz1 hz13 hb4 hb14 hbw4 hl4 hcs k0 k1 k2 g0 g1 g2
        have i0 : (0 : Int) < (n : Int) := by omega
        have i1 : (1 : Int) ≤ (n : Int) := by omega
        have i2 : 1 ≤ n := by omega
        have i3 : 1 ≤ c := by omega
        by_cases hc1 : c = 1
        · subst hc1
          obtain rfl : n = 1 := by omega
          have HLD : Hid (∀ V, Below w.heap.size w V → RowL V w.heap.size (some ⟨b, off, none⟩) 0 0 (ls.drop 1)) := fun V hV => by
            have hd : ls.drop 1 = [] := List.drop_of_length_le (by have := HL.out.1; omega)
            rw [hd]
            exact rowL_empty _ _ _ (by simp [maxLen])
          have hq0 := HQ.out (ls.getD 0 []) (getD_memL (by have := HL.out.1; omega))
          have hn00 : (ls.getD 0 []).length = n0 := hr0.1
          have hwq := HLW.out (ls.getD 0 []) (getD_memL (by have := HL.out.1; omega))
          have hqd : ∀ q ∈ ls.drop 1, q.length ≤ 1000 := fun q hq => by have := HQ.out q (List.mem_of_mem_drop hq); omega
          have hwd : ∀ q ∈ ls.drop 1, WfZ q := fun q hq => HLW.out q (List.mem_of_mem_drop hq)
          have HR0 : Hid (∀ V, Below w4.heap.size w4 V → RowZ .i64 V w.heap.size a0 n0 c0 (ls.getD 0 [])) := fun V hV => hr0.below (hV.mono HBW4.out.size)
          have HPA : Hid (∀ V, Kept w4 V → Calls Try.prog 10 #[gridV W H s, .int .i64 fr, .int .i64 to, .slice a0 n0 c0, .slice (some ⟨b, off, none⟩) 0 0] V (PathPost w4 (pathG W H (bytesOf s) (ls.getD 0 []) (ls.drop 1) fr to))) := fun V hV => path_kept planPath_any hV hok (HR0.out V hV) (HLD.out V (HBW4.out.trans (Below.mono hV HBW4.out.size))) (Nat.le_trans HBW4.out.size (Below.size hV)) (by omega) (by omega) hqd hwq hwd HFR.out HTO.out
          have HPB : Hid (∀ A V, Kept A V → Kept w4 V → Calls Try.prog 11 #[gridV W H s, .int .i64 fr, .int .i64 to, .slice a0 n0 c0, .slice (some ⟨b, off, none⟩) 0 0] V (PathPost A (pathG W H (bytesOf s) (ls.getD 0 []) (ls.drop 1) fr to))) := fun A V hA hV => path_kept rpath_any hA hok (HR0.out V hV) (HLD.out V (HBW4.out.trans (Below.mono hV HBW4.out.size))) (Nat.le_trans HBW4.out.size (Below.size hV)) (by omega) (by omega) hqd hwq hwd HFR.out HTO.out
          have HKS : Hid (∀ V, Kept w4 V → Kept w4 V ∧ V.cell? ⟨w.heap.size, 0, none⟩ = some (.int .i64 W) ∧ V.cell? ⟨w.heap.size, 1, none⟩ = some (.int .i64 H) ∧ V.cell? ⟨w.heap.size, 2, none⟩ = some (.string s) ∧ V.cell? ⟨w.heap.size + 1, 0, none⟩ = some (.int .i64 fr) ∧ V.cell? ⟨w.heap.size + 1, 1, none⟩ = some (.int .i64 to) ∧ V.cell? ⟨b, off, none⟩ = some (.slice a0 n0 c0)) := fun V hV =>
            ⟨hV, (Below.cell hV (p := ⟨w.heap.size, 0, none⟩) hl0).trans j0, (Below.cell hV (p := ⟨w.heap.size, 1, none⟩) hl0).trans j1, (Below.cell hV (p := ⟨w.heap.size, 2, none⟩) hl0).trans j2, (Below.cell hV (p := ⟨w.heap.size + 1, 0, none⟩) hl1).trans ja0, (Below.cell hV (p := ⟨w.heap.size + 1, 1, none⟩) hl1).trans ja1, (Below.cell hV (p := ⟨b, off, none⟩) (show b < w4.heap.size by omega)).trans hc0⟩
          have k0 : Kept w4 w4 := Kept.refl _
          clear hq0 hn00 hwq hqd hwd hr0 hok j0 j1 j2 ja0 ja1 hc0
          go_wp2_with fail
          go_region_held3 (fun V => Kept w4 V ∧ V.cell? ⟨w.heap.size, 0, none⟩ = some (.int .i64 W) ∧ V.cell? ⟨w.heap.size, 1, none⟩ = some (.int .i64 H) ∧ V.cell? ⟨w.heap.size, 2, none⟩ = some (.string s) ∧ V.cell? ⟨w.heap.size + 1, 0, none⟩ = some (.int .i64 fr) ∧ V.cell? ⟨w.heap.size + 1, 1, none⟩ = some (.int .i64 to) ∧ V.cell? ⟨b, off, none⟩ = some (.slice a0 n0 c0))
            (first | exact HKS.out _ (by assumption) | exact HKS.out _ (Kept.drew (by assumption)))
            (first | (go_at_call 10; refine (HPA.out _ (by first | exact k0 | exact Kept.drew k0)).mono ?_; rintro e w5 ⟨a5, n5, c5, l5, b5, rfl, ho5, hr5, k5⟩))
          have HO5 := Lib.hid ho5
          have HR5 := Lib.hid hr5
          have HB45 := Lib.hid (show Below w4.heap.size w4 w5 from k5)
          have hks5 := HKS.out w5 k5
          have HKS5 : Hid (∀ V, Kept w5 V → Kept w5 V ∧ V.cell? ⟨w.heap.size, 0, none⟩ = some (.int .i64 W) ∧ V.cell? ⟨w.heap.size, 1, none⟩ = some (.int .i64 H) ∧ V.cell? ⟨w.heap.size, 2, none⟩ = some (.string s) ∧ V.cell? ⟨w.heap.size + 1, 0, none⟩ = some (.int .i64 fr) ∧ V.cell? ⟨w.heap.size + 1, 1, none⟩ = some (.int .i64 to) ∧ V.cell? ⟨b, off, none⟩ = some (.slice a0 n0 c0)) := fun V hV => by
            obtain ⟨_, q0, q1, q2, q3, q4, q5⟩ := hks5
            have h45 : w4.heap.size ≤ w5.heap.size := Below.size k5
            exact ⟨hV, (Below.cell hV (p := ⟨w.heap.size, 0, none⟩) (show w.heap.size < w5.heap.size by omega)).trans q0, (Below.cell hV (p := ⟨w.heap.size, 1, none⟩) (show w.heap.size < w5.heap.size by omega)).trans q1, (Below.cell hV (p := ⟨w.heap.size, 2, none⟩) (show w.heap.size < w5.heap.size by omega)).trans q2, (Below.cell hV (p := ⟨w.heap.size + 1, 0, none⟩) (show w.heap.size + 1 < w5.heap.size by omega)).trans q3, (Below.cell hV (p := ⟨w.heap.size + 1, 1, none⟩) (show w.heap.size + 1 < w5.heap.size by omega)).trans q4, (Below.cell hV (p := ⟨b, off, none⟩) (show b < w5.heap.size by omega)).trans q5⟩
          have m0 : Kept w5 w5 := Kept.refl _
          clear ho5 hr5 k5 hks5 k0 HKS
          go_wp2_with fail
          go_region_held3 (fun V => Kept w5 V ∧ V.cell? ⟨w.heap.size, 0, none⟩ = some (.int .i64 W) ∧ V.cell? ⟨w.heap.size, 1, none⟩ = some (.int .i64 H) ∧ V.cell? ⟨w.heap.size, 2, none⟩ = some (.string s) ∧ V.cell? ⟨w.heap.size + 1, 0, none⟩ = some (.int .i64 fr) ∧ V.cell? ⟨w.heap.size + 1, 1, none⟩ = some (.int .i64 to) ∧ V.cell? ⟨b, off, none⟩ = some (.slice a0 n0 c0))
            (first | exact HKS5.out _ (by assumption) | exact HKS5.out _ (Kept.drew (by assumption)))
            (first | (go_at_call 11; refine (HPB.out w5 _ (by first | exact m0 | exact Kept.drew m0) (HB45.out.trans (by first | exact Below.mono m0 HB45.out.size | exact Below.mono (Kept.drew m0) HB45.out.size))).mono ?_; rintro e w6 ⟨a6, n6, c6, l6, b6, rfl, ho6, hr6, hb6⟩))
          obtain ⟨rfl, rfl⟩ := HO5.out.one ho6
          have hb56 : Below w5.heap.size w5 w6 := hb6
          have HIN := Lib.hid (ints_anyZ a5 a6 n5 c5 n6 c6 w6.heap.size l5 l5 w6 ((HR5.out.below hb56).mono hb56.size) hr6)
          have HB6 := Lib.hid ((HBW4.out.trans (HB45.out.mono HBW4.out.size)).trans (hb56.mono (Nat.le_trans HBW4.out.size HB45.out.size)))
          have ed : decide (l5 = l5) = true := decide_eq_true rfl
          clear ho6 hr6 hb6 hb56 m0
          go_wp2_with fail
          refine HIN.out.mono ?_
          rintro e w7 ⟨rfl, md, rfl⟩
          have HB7 : Hid (Below w.heap.size w (w6.drewN md)) := below_drewN HB6.out md
          cases b5 <;>
          · go_wp2_with fail
            go_ret
            exact ⟨rfl, HB7.out⟩
        · have hc2 : 1 < c := by omega
          have HLD : Hid (∀ V, Below w.heap.size w V → RowL V w.heap.size (some ⟨b, off + 1, none⟩) (n - 1) (c - 1) (ls.drop 1)) := fun V hV => by
            obtain ⟨a', e, h⟩ := (HL.out.below hV).drop (k := 1) (by omega) (by omega)
            rw [e b off rfl] at h
            exact h
          have hq0 := HQ.out (ls.getD 0 []) (getD_memL (by have := HL.out.1; omega))
          have hn00 : (ls.getD 0 []).length = n0 := hr0.1
          have hwq := HLW.out (ls.getD 0 []) (getD_memL (by have := HL.out.1; omega))
          have hqd : ∀ q ∈ ls.drop 1, q.length ≤ 1000 := fun q hq => by have := HQ.out q (List.mem_of_mem_drop hq); omega
          have hwd : ∀ q ∈ ls.drop 1, WfZ q := fun q hq => HLW.out q (List.mem_of_mem_drop hq)
          have HR0 : Hid (∀ V, Below w4.heap.size w4 V → RowZ .i64 V w.heap.size a0 n0 c0 (ls.getD 0 [])) := fun V hV => hr0.below (hV.mono HBW4.out.size)
          have HPA : Hid (∀ V, Kept w4 V → Calls Try.prog 10 #[gridV W H s, .int .i64 fr, .int .i64 to, .slice a0 n0 c0, .slice (some ⟨b, off + 1, none⟩) (n - 1) (c - 1)] V (PathPost w4 (pathG W H (bytesOf s) (ls.getD 0 []) (ls.drop 1) fr to))) := fun V hV => path_kept planPath_any hV hok (HR0.out V hV) (HLD.out V (HBW4.out.trans (Below.mono hV HBW4.out.size))) (Nat.le_trans HBW4.out.size (Below.size hV)) (by omega) (by omega) hqd hwq hwd HFR.out HTO.out
          have HPB : Hid (∀ A V, Kept A V → Kept w4 V → Calls Try.prog 11 #[gridV W H s, .int .i64 fr, .int .i64 to, .slice a0 n0 c0, .slice (some ⟨b, off + 1, none⟩) (n - 1) (c - 1)] V (PathPost A (pathG W H (bytesOf s) (ls.getD 0 []) (ls.drop 1) fr to))) := fun A V hA hV => path_kept rpath_any hA hok (HR0.out V hV) (HLD.out V (HBW4.out.trans (Below.mono hV HBW4.out.size))) (Nat.le_trans HBW4.out.size (Below.size hV)) (by omega) (by omega) hqd hwq hwd HFR.out HTO.out
          have HKS : Hid (∀ V, Kept w4 V → Kept w4 V ∧ V.cell? ⟨w.heap.size, 0, none⟩ = some (.int .i64 W) ∧ V.cell? ⟨w.heap.size, 1, none⟩ = some (.int .i64 H) ∧ V.cell? ⟨w.heap.size, 2, none⟩ = some (.string s) ∧ V.cell? ⟨w.heap.size + 1, 0, none⟩ = some (.int .i64 fr) ∧ V.cell? ⟨w.heap.size + 1, 1, none⟩ = some (.int .i64 to) ∧ V.cell? ⟨b, off, none⟩ = some (.slice a0 n0 c0)) := fun V hV =>
            ⟨hV, (Below.cell hV (p := ⟨w.heap.size, 0, none⟩) hl0).trans j0, (Below.cell hV (p := ⟨w.heap.size, 1, none⟩) hl0).trans j1, (Below.cell hV (p := ⟨w.heap.size, 2, none⟩) hl0).trans j2, (Below.cell hV (p := ⟨w.heap.size + 1, 0, none⟩) hl1).trans ja0, (Below.cell hV (p := ⟨w.heap.size + 1, 1, none⟩) hl1).trans ja1, (Below.cell hV (p := ⟨b, off, none⟩) (show b < w4.heap.size by omega)).trans hc0⟩
          have k0 : Kept w4 w4 := Kept.refl _
          clear hq0 hn00 hwq hqd hwd hr0 hok j0 j1 j2 ja0 ja1 hc0
          go_wp2_with fail
          go_region_held3 (fun V => Kept w4 V ∧ V.cell? ⟨w.heap.size, 0, none⟩ = some (.int .i64 W) ∧ V.cell? ⟨w.heap.size, 1, none⟩ = some (.int .i64 H) ∧ V.cell? ⟨w.heap.size, 2, none⟩ = some (.string s) ∧ V.cell? ⟨w.heap.size + 1, 0, none⟩ = some (.int .i64 fr) ∧ V.cell? ⟨w.heap.size + 1, 1, none⟩ = some (.int .i64 to) ∧ V.cell? ⟨b, off, none⟩ = some (.slice a0 n0 c0))
            (first | exact HKS.out _ (by assumption) | exact HKS.out _ (Kept.drew (by assumption)))
            (first | (go_at_call 10; refine (HPA.out _ (by first | exact k0 | exact Kept.drew k0)).mono ?_; rintro e w5 ⟨a5, n5, c5, l5, b5, rfl, ho5, hr5, k5⟩))
          have HO5 := Lib.hid ho5
          have HR5 := Lib.hid hr5
          have HB45 := Lib.hid (show Below w4.heap.size w4 w5 from k5)
          have hks5 := HKS.out w5 k5
          have HKS5 : Hid (∀ V, Kept w5 V → Kept w5 V ∧ V.cell? ⟨w.heap.size, 0, none⟩ = some (.int .i64 W) ∧ V.cell? ⟨w.heap.size, 1, none⟩ = some (.int .i64 H) ∧ V.cell? ⟨w.heap.size, 2, none⟩ = some (.string s) ∧ V.cell? ⟨w.heap.size + 1, 0, none⟩ = some (.int .i64 fr) ∧ V.cell? ⟨w.heap.size + 1, 1, none⟩ = some (.int .i64 to) ∧ V.cell? ⟨b, off, none⟩ = some (.slice a0 n0 c0)) := fun V hV => by
            obtain ⟨_, q0, q1, q2, q3, q4, q5⟩ := hks5
            have h45 : w4.heap.size ≤ w5.heap.size := Below.size k5
            exact ⟨hV, (Below.cell hV (p := ⟨w.heap.size, 0, none⟩) (show w.heap.size < w5.heap.size by omega)).trans q0, (Below.cell hV (p := ⟨w.heap.size, 1, none⟩) (show w.heap.size < w5.heap.size by omega)).trans q1, (Below.cell hV (p := ⟨w.heap.size, 2, none⟩) (show w.heap.size < w5.heap.size by omega)).trans q2, (Below.cell hV (p := ⟨w.heap.size + 1, 0, none⟩) (show w.heap.size + 1 < w5.heap.size by omega)).trans q3, (Below.cell hV (p := ⟨w.heap.size + 1, 1, none⟩) (show w.heap.size + 1 < w5.heap.size by omega)).trans q4, (Below.cell hV (p := ⟨b, off, none⟩) (show b < w5.heap.size by omega)).trans q5⟩
          have m0 : Kept w5 w5 := Kept.refl _
          clear ho5 hr5 k5 hks5 k0 HKS
          go_wp2_with fail
          go_region_held3 (fun V => Kept w5 V ∧ V.cell? ⟨w.heap.size, 0, none⟩ = some (.int .i64 W) ∧ V.cell? ⟨w.heap.size, 1, none⟩ = some (.int .i64 H) ∧ V.cell? ⟨w.heap.size, 2, none⟩ = some (.string s) ∧ V.cell? ⟨w.heap.size + 1, 0, none⟩ = some (.int .i64 fr) ∧ V.cell? ⟨w.heap.size + 1, 1, none⟩ = some (.int .i64 to) ∧ V.cell? ⟨b, off, none⟩ = some (.slice a0 n0 c0))
            (first | exact HKS5.out _ (by assumption) | exact HKS5.out _ (Kept.drew (by assumption)))
            (first | (go_at_call 11; refine (HPB.out w5 _ (by first | exact m0 | exact Kept.drew m0) (HB45.out.trans (by first | exact Below.mono m0 HB45.out.size | exact Below.mono (Kept.drew m0) HB45.out.size))).mono ?_; rintro e w6 ⟨a6, n6, c6, l6, b6, rfl, ho6, hr6, hb6⟩))
          obtain ⟨rfl, rfl⟩ := HO5.out.one ho6
          have hb56 : Below w5.heap.size w5 w6 := hb6
          have HIN := Lib.hid (ints_anyZ a5 a6 n5 c5 n6 c6 w6.heap.size l5 l5 w6 ((HR5.out.below hb56).mono hb56.size) hr6)
          have HB6 := Lib.hid ((HBW4.out.trans (HB45.out.mono HBW4.out.size)).trans (hb56.mono (Nat.le_trans HBW4.out.size HB45.out.size)))
          have ed : decide (l5 = l5) = true := decide_eq_true rfl
          clear ho6 hr6 hb6 hb56 m0
          go_wp2_with fail
          refine HIN.out.mono ?_
          rintro e w7 ⟨rfl, md, rfl⟩
          have HB7 : Hid (Below w.heap.size w (w6.drewN md)) := below_drewN HB6.out md
          cases b5 <;>
          · go_wp2_with fail
            go_ret
            exact ⟨rfl, HB7.out⟩
end Go.Proofs.Ytiejinphofkjaaa.Vm
