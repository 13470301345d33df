/- The walk of the law DispatchLeft, over what is said of awake, Dispatch and Best (premises). tuggerlaw10.DispatchLeft, with the contracts of awake, Dispatch and Best. -/
import Derived.Test.YtopgboepkckkjaaLightTen
import Derived.Test.YtopgboepkckkjaaRefDisps
import Derived.Test.YtopgboepkckkjaaAwakeTen
namespace Go.Proofs.Ytopgboepkckkjaa.Vm
open Go Go.RowKit
set_option maxRecDepth 100000

set_option maxHeartbeats 2000000 in
theorem dispatchLeft_says (HA : ∀ w : World, Calls Try.prog 6 #[] w fun e w' => e = .returned (.bool true) ∧ Below w.heap.size w w') (HD : SaysDisp 8) (HBS : SaysBest 11)
    (W H : Int) (g : ByteArray) (h : Sh) (s : St) (w : World) (hg : g.size ≤ maxLen) (hi : StIn w w.heap.size h s) :
    Calls Try.prog 5 #[gridV W H g, shV h] w fun e w' => e = .returned (.bool true) ∧ Below w.heap.size w w' := by
  obtain ⟨w2, hw2, hB2, hz2, hg2, hs2⟩ := gs_head w W H g h
  have HAW := Lib.hid (HA w2)
  have HW2 := Lib.hid hw2
  have HG2 := Lib.hid hg2
  have HS2 := Lib.hid hs2
  have HB2 := Lib.hid hB2
  have HLI := Lib.hid fun V (hV : Below w.heap.size w V) => light10_any W H g h s w.heap.size V hg (hi.below hV) hV.size
  have HNB := Lib.hid hi.bl.1
  have HDC := Lib.hid fun (hok : Okay W H g) (hrp : RightP (floorS (bytesOf g)) s) (hn3 : h.n3 ≤ 100000) V (hV : Below w.heap.size w V) => HD W H g h s w.heap.size V hok (hi.below hV) hV.size hrp hn3
  have HIN := Lib.hid fun (hl : light10 W H g h s = true) => light10_in hl
  generalize light10 W H g h s = L at HLI HIN
  obtain ⟨t, a1, n1, c1, a2, n2, c2, a3, n3, c3⟩ := h
  simp only [] at HLI HDC HIN HNB
  clear hw2 hg2 hs2 hB2 hi hg
  go_enter Try.func5, Try.ntmps5
  go_wp2_with fail
  rw [← HW2.out]
  refine HAW.out.mono ?_
  rintro e w3 ⟨rfl, hb3⟩
  have HB3 := Lib.hid (HB2.out.trans (hb3.mono HB2.out.size))
  have HG3 := Lib.hid (HG2.out.below hb3 (by omega))
  have HS3 := Lib.hid (HS2.out.below hb3 (by omega))
  have hz3 : w.heap.size + 2 ≤ w3.heap.size := by have := hb3.size; omega
  clear hb3 hz2
  obtain ⟨g0, g1, g2⟩ := id HG3.out
  obtain ⟨s0, s1, s2, s3⟩ := id HS3.out
  simp only [] at s0 s1 s2 s3
  go_wp2_with fail
  refine (HLI.out w3 HB3.out).mono ?_
  rintro e w4 ⟨rfl, hb4⟩
  have HB4 := Lib.hid (HB3.out.trans (hb4.mono HB3.out.size))
  have HG4 := Lib.hid (HG3.out.below hb4 (by omega))
  have HS4 := Lib.hid (HS3.out.below hb4 (by omega))
  have hz4 : w.heap.size + 2 ≤ w4.heap.size := by have := hb4.size; omega
  clear hb4 g0 g1 g2 s0 s1 s2 s3
  cases L with
  | false =>
    go_wp2_with fail
    go_ret
    exact ⟨rfl, HB4.out⟩
  | true =>
    obtain ⟨⟨_, _, _, hk3⟩, hrp, hrs⟩ := HIN.out rfl
    have HOK := Lib.hid (Okay.of hrs)
    have HDI := Lib.hid (dispG_is (W := W) (H := H) (l := bytesOf g) hrp)
    have HCA := Lib.hid (HDC.out HOK.out hrp (by omega) w4 HB4.out)
    generalize dispG W H (bytesOf g) s = D at HDI HCA
    obtain ⟨st, ps⟩ := D
    simp only [] at HDI HCA
    obtain ⟨g0, g1, g2⟩ := id HG4.out
    obtain ⟨s0, s1, s2, s3⟩ := id HS4.out
    simp only [] at s0 s1 s2 s3
    clear hrp hrs
    go_wp2_with fail
    refine HCA.out.mono ?_
    rintro e w5 ⟨h', ap, np, cp, rfl, hst5, hrow5, hb5⟩
    obtain ⟨w6, hw6⟩ : ∃ w6, w6 = w5.alloc (shO h') := ⟨_, rfl⟩
    have hb56 : Below w5.heap.size w5 w6 := by rw [hw6]; exact (Below.refl _ _).alloc (Nat.le_refl _) _
    have hz56 : w6.heap.size = w5.heap.size + 1 := by rw [hw6]; simp
    have hx6 : StAt w6 w5.heap.size h' := by rw [hw6]; exact stAt_new w5 h'
    have HB45 := Lib.hid hb5
    have HB6 := Lib.hid ((HB4.out.trans (hb5.mono HB4.out.size)).trans (hb56.mono (Nat.le_trans HB4.out.size hb5.size)))
    have HG6 := Lib.hid ((HG4.out.below hb5 (by omega)).below hb56 (by have := hb5.size; omega))
    have HST6 := Lib.hid (hst5.below hb56)
    have HX6 := Lib.hid hx6
    have HW6 := Lib.hid hw6
    have hlr : st.rs.length = h'.n1 := hst5.rs.1
    have hlt : st.ts.length = h'.n2 := hst5.ts.1
    have hm1 := hst5.rs.2.1
    have hm2 := hst5.ts.2.1
    have hq1 := hst5.rs.2.2.1
    have hq2 := hst5.ts.2.2.1
    have HLN := Lib.hid (And.intro hlr hlt)
    have HN3 : Hid (h'.n3 ≤ 1000000) := by
      have h1 := hst5.bl.1
      unfold Hid
      rw [← h1, HDI.out.bl, HNB.out]
      omega
    unfold maxLen at hq1 hq2
    have hz5 : w.heap.size + 2 ≤ w5.heap.size := by have := hb5.size; omega
    obtain ⟨t', a1', n1', c1', a2', n2', c2', a3', n3', c3'⟩ := h'
    simp only [] at hm1 hm2 hq1 hq2 HLN HN3
    clear hst5 hrow5 hb5 hb56 hx6 hw6 hlr hlt g0 g1 g2 s0 s1 s2 s3
    go_wp2_with fail
    rw [← HW6.out]
    go_loopw [9] (fun v wr => ∃ k : Nat, k ≤ n2' ∧ v = .int .i64 k ∧ Hid (Kept w6 wr)) (fun v _ => n2' - (intOf v).toNat)
    case atStart => exact ⟨0, Nat.zero_le _, rfl, Kept.refl _⟩
    case round =>
      obtain ⟨k, hk, rfl, HK⟩ := hrel
      have hks := Below.size HK.out
      obtain ⟨g0, g1, g2⟩ := HG6.out.below HK.out (by omega)
      obtain ⟨x0, x1, x2, x3⟩ := HX6.out.below HK.out (by omega)
      simp only [] at x0 x1 x2 x3
      have HSR := Lib.hid (HST6.out.below (Below.mono HK.out (by omega)))
      by_cases hlt : k < n2'
      · have hkn : (k : Int) < (n2' : Int) := by omega
        obtain ⟨b2, off2, rfl, hb2, hcs⟩ := HSR.out.ts.cells (by show 0 < n2'; omega)
        have hd := (hcs k hlt).2.2.2.1
        have HBE := Lib.hid (HBS W H g ⟨t', a1', n1', c1', some ⟨b2, off2, none⟩, n2', c2', a3', n3', c3'⟩ st (k : Int) w5.heap.size wr HOK.out HSR.out (by omega) HDI.out.right HN3.out)
        rw [HDI.out.best] at HBE
        generalize (st.ts.getD k zr).d = d at hd
        have HCN := Lib.hid (hcs k hlt)
        clear hcs
        by_cases h1 : d = 1
        · subst h1
          go_wp2_with fail
          refine HBE.out.mono ?_
          rintro e wa ⟨rfl, hba⟩
          have HKA := Lib.hid (Below.trans HK.out (hba.mono hks))
          have hda := (hba.cell (p := ⟨b2, off2 + k * 5 + 3, none⟩) (show b2 < wr.heap.size by omega)).trans hd
          obtain ⟨z0, z1, z2, z3⟩ := HX6.out.below HKA.out (by omega)
          simp only [] at z0 z1 z2 z3
          clear hba
          go_wp2_with fail
          go_roundw
          case rel => exact ⟨k + 1, by omega, by go_num, HKA.out⟩
          case measure => simp [intOf]; omega
        · have e1 : (d == 1) = false := by simpa using h1
          have e2 : (d != 1) = true := by simpa using h1
          go_wp2_with fail
          refine HBE.out.mono ?_
          rintro e wa ⟨rfl, hba⟩
          have HKA := Lib.hid (Below.trans HK.out (hba.mono hks))
          clear hba
          go_wp2_with fail
          go_roundw
          case rel => exact ⟨k + 1, by omega, by go_num, HKA.out⟩
          case measure => simp [intOf]; omega
      · obtain rfl : k = n2' := by omega
        go_wp2_with fail
        go_loopw [10] (fun v wr => ∃ j : Nat, j ≤ n1' ∧ v = .int .i64 j ∧ Hid (Kept w6 wr)) (fun v _ => n1' - (intOf v).toNat)
        case atStart => exact ⟨0, Nat.zero_le _, rfl, HK⟩
        case round =>
          clear HK hks g0 g1 g2 x0 x1 x2 x3 HSR
          obtain ⟨j, hj, rfl, HK⟩ := hrel
          have hks := Below.size HK.out
          obtain ⟨x0, x1, x2, x3⟩ := HX6.out.below HK.out (by omega)
          simp only [] at x0 x1 x2 x3
          have HSR := Lib.hid (HST6.out.below (Below.mono HK.out (by omega)))
          by_cases hlt2 : j < n1'
          · have hjn : (j : Int) < (n1' : Int) := by omega
            obtain ⟨b1, off1, rfl, hb1, hcs⟩ := HSR.out.rs.cells (by show 0 < n1'; omega)
            have f1 := (hcs j hlt2).2.1
            have f3 := (hcs j hlt2).2.2.2.1
            have hlow := HDI.out.low j (by have := HDI.out.rl; have := HLN.out.1; omega)
            generalize (st.rs.getD j zr).b = rb at f1 hlow
            generalize (st.rs.getD j zr).d = rd at f3 hlow
            clear hcs
            by_cases h1 : rb = 0
            · have e1 : (rb == 0) = true := by simpa using h1
              have e2 : decide (rd < 100) = false := by rw [decide_eq_false_iff_not]; have := hlow h1; omega
              clear hlow
              go_wp2_with fail
              go_roundw
              case rel => exact ⟨j + 1, by omega, by go_num, HK.out⟩
              case measure => simp [intOf]; omega
            · have e1 : (rb == 0) = false := by simpa using h1
              clear hlow
              go_wp2_with fail
              go_roundw
              case rel => exact ⟨j + 1, by omega, by go_num, HK.out⟩
              case measure => simp [intOf]; omega
          · obtain rfl : j = n1' := by omega
            have HBE := Lib.hid (HB6.out.trans (Below.mono HK.out HB6.out.size))
            go_wp2_with fail
            go_ret
            exact ⟨rfl, HBE.out⟩
end Go.Proofs.Ytopgboepkckkjaa.Vm

namespace Go.Proofs.Ytopgboepkckkjaa.Vm
open Go Go.RowKit
theorem dispatchLeft_say (W H : Int) (g : ByteArray) (h : Sh) (s : St) (w : World) (_ : (Lit.int .i64 W).wf = true) (_ : (Lit.int .i64 H).wf = true) (hg : g.size ≤ maxLen) (hi : StIn w w.heap.size h s) :
    Calls Try.prog 5 #[gridV W H g, shV h] w fun e w' => e = .returned (.bool true) ∧ Below w.heap.size w w' :=
  dispatchLeft_says awake10_any pdisp_any pbest_any W H g h s w hg hi
end Go.Proofs.Ytopgboepkckkjaa.Vm
