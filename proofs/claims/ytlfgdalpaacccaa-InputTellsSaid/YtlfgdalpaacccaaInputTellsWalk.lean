/- tuggerlaw06.InputTells returns true for every input. The head is InputKeepsWalk's. -/
import Derived.Test.YtlfgdalpaacccaaRefAlls
import Derived.Test.YtlfgdalpaacccaaInAlls
import Derived.Test.YtlfgdalpaacccaaLightSix
import Derived.Test.YtlfgdalpaacccaaStSames
import Derived.Test.YtlfgdalpaacccaaOpens
import Derived.Test.YtlfgdalpaacccaaAwakeSix
import Derived.Deep.CutRange
import Derived.Deep.DeepCutAuto
import Derived.Deep.RegionHeld3
import Derived.BigRegion
import Derived.BigQuiet
namespace Go.Proofs.Ytlfgdalpaacccaa.Vm
open Go Go.RowKit

theorem CopyIn.fine {w : World} {B : Nat} {h h' : Sh} {s s' : St} (c : CopyIn w B h' s') : Fine w h s B h' s' := .inr ⟨c.tick, .inl c.rs, .inl c.ts, .inl c.bl, c.n1, c.n2, c.n3⟩

set_option maxRecDepth 100000 in
set_option maxHeartbeats 4000000 in
theorem inputTells_walk (W H : Int) (g : ByteArray) (h : Sh) (s : St) (a : Option Addr) (n c : Nat) (l : List Inp) (w : World) (hg : g.size ≤ maxLen) (hi : IsSt w h s) (hl : RowI w w.heap.size a n c l) :
    Calls Try.prog 3 #[gridV W H g, shV h, .slice a n c] w fun e w' => e = .returned (.bool true) ∧ Below w.heap.size w w' := by
  obtain ⟨w2, hw2, hB2, hz2, hg2, hs2⟩ := gs_head w W H g h
  have hf2 : ∀ i, w2.frozen? ⟨w.heap.size + 1, i, none⟩ = false := fun i => by rw [hw2]; simp
  have HW2 := Lib.hid hw2
  have HI := Lib.hid hi.stIn
  have HLI := Lib.hid fun (V : World) (hV : Below w.heap.size w V) => light6_any W H g h s _ V hg (hi.stIn.below hV) hV.size
  have HLN := Lib.hid fun (hl : light6 W H g h s = true) => light6_in hl
  have HG := Lib.hid hg
  have HG2 := Lib.hid hg2
  have HS2 := Lib.hid hs2
  have HB2 := Lib.hid hB2
  have HF2 := Lib.hid hf2
  have HL := Lib.hid hl
  have HLL := Lib.hid hl.1
  have hnm := hl.2.1
  have hnm2 := hl.2.2.1
  unfold maxLen at hnm2
  obtain ⟨fl, hfl⟩ : ∃ fl, floorS (bytesOf g) = fl := ⟨_, rfl⟩
  have HFL := Lib.hid hfl
  generalize hL : light6 W H g h s = L at HLI HLN
  clear hL hw2 hi hg hg2 hs2 hB2 hf2 hfl hl
  have HWH : Hid (∃ h', h' = h) := ⟨h, rfl⟩
  obtain ⟨t, a1, n1, c1, a2, n2, c2, a3, n3, c3⟩ := h
  simp only [] at HLI HLN
  go_enter Try.func3, Try.ntmps3
  go_wp2_with fail
  rw [← HW2.out]
  refine (awake6_any w2).mono ?_
  rintro e w3 ⟨rfl, hb3⟩
  have HB3 := Lib.hid (HB2.out.trans (hb3.mono HB2.out.size))
  have HG3 := Lib.hid (HG2.out.below hb3 (by omega))
  have HS3 := Lib.hid (HS2.out.below hb3 (by omega))
  have HF3 : Hid (∀ i, w3.frozen? ⟨w.heap.size + 1, i, none⟩ = false) := fun i => (hb3.frozen (p := ⟨w.heap.size + 1, i, none⟩) (show w.heap.size + 1 < w2.heap.size by omega)).trans (HF2.out i)
  have hz3 : w.heap.size + 2 ≤ w3.heap.size := by have := hb3.size; omega
  clear hb3
  obtain ⟨g0, g1, g2⟩ := id HG3.out
  obtain ⟨s0, s1, s2, s3⟩ := id HS3.out
  simp only [] at s0 s1 s2 s3
  go_wp2_with fail
  refine (HLI.out _ HB3.out).mono ?_
  rintro e w4 ⟨rfl, hb4⟩
  have HB4 := Lib.hid (HB3.out.trans (hb4.mono HB3.out.size))
  have HG4 := Lib.hid (HG3.out.below hb4 (by omega))
  have HS4 := Lib.hid (HS3.out.below hb4 (by omega))
  have HF4 : Hid (∀ i, w4.frozen? ⟨w.heap.size + 1, i, none⟩ = false) := fun i => (hb4.frozen (p := ⟨w.heap.size + 1, i, none⟩) (show w.heap.size + 1 < w3.heap.size by omega)).trans (HF3.out i)
  have hz4 : w.heap.size + 2 ≤ w4.heap.size := by have := hb4.size; omega
  clear hb4 g0 g1 g2 s0 s1 s2 s3 HLI HG2 HS2 HG3 HS3 HF2 HF3
  cases L
  · go_wp2_with fail
    go_ret
    exact ⟨rfl, HB4.out⟩
  by_cases hn30 : 30 < n
  · have e1 : (30 : Int) < (n : Int) := by omega
    go_wp2_with fail
    go_ret
    exact ⟨rfl, HB4.out⟩
  have e1 : ¬ (30 : Int) < (n : Int) := by omega
  obtain ⟨⟨_, hl1, hl2, hl3⟩, hr⟩ := HLN.out (by trivial)
  have hbl : s.bl.length ≤ 80000 := by
    have h2 := HI.out.bl.1
    simp only [] at h2
    omega
  have HBL : Hid (s.bl.length ≤ 90000) := by unfold Hid; omega
  have HRT := Lib.hid hr
  have HAL := Lib.hid (bigAll_any W H g ⟨t, a1, n1, c1, a2, n2, c2, a3, n3, c3⟩ s a n c l w.heap.size w4 HG.out (HI.out.below HB4.out) (HL.out.below HB4.out) HB4.out.size hr (by omega) (by omega))
  have HRL := Lib.hid fun (V : World) (hV : Below w.heap.size w V) => rall_any W H g ⟨t, a1, n1, c1, a2, n2, c2, a3, n3, c3⟩ s a n c l V HG.out ((HI.out.below hV).mono hV.size) ((HL.out.below hV).mono hV.size) hr hbl (by omega)
  rw [HFL.out] at HAL HRL
  generalize allS fl s l = SA at HAL HRL
  generalize codesS fl s l = CA at HAL HRL
  clear hr hl1 hl2 hl3 HWH HLN hbl
  obtain ⟨g0, g1, g2⟩ := id HG4.out
  obtain ⟨s0, s1, s2, s3⟩ := id HS4.out
  simp only [] at s0 s1 s2 s3
  go_wp2_with fail
  refine HAL.out.mono ?_
  rintro e w5 ⟨h1, cb, rfl, hc5, hrow5, hb5⟩
  have hba : Below w5.heap.size w5 (w5.alloc (shO h1)) := (Below.refl _ _).alloc (Nat.le_refl _) _
  obtain ⟨w6, hw6⟩ : ∃ w6, w6 = w5.alloc (shO h1) := ⟨_, rfl⟩
  have hsa : StAt w6 w5.heap.size h1 := by rw [hw6]; exact stAt_new w5 h1
  have hz6 : w6.heap.size = w5.heap.size + 1 := by rw [hw6]; simp
  rw [← hw6] at hba
  have HW6 := Lib.hid hw6
  have HB6 := Lib.hid (HB4.out.trans ((hb5.trans (hba.mono hb5.size)).mono HB4.out.size))
  have hb46 := hb5.trans (hba.mono hb5.size)
  have HG5 := Lib.hid (HG4.out.below hb5 (by omega))
  have HS5 := Lib.hid (HS4.out.below hb5 (by omega))
  have HG6 := Lib.hid (HG4.out.below hb46 (by omega))
  have HS6 := Lib.hid (HS4.out.below hb46 (by omega))
  have HF6 : Hid (∀ i, w6.frozen? ⟨w.heap.size + 1, i, none⟩ = false) := fun i => (hb46.frozen (p := ⟨w.heap.size + 1, i, none⟩) (show w.heap.size + 1 < w4.heap.size by omega)).trans (HF4.out i)
  have HA6 := Lib.hid hsa
  have HC6 := Lib.hid ((hc5.stIn.below hba).mono hba.size)
  have HE6 := Lib.hid ((hrow5.below hba).mono hba.size)
  have hz46 : w4.heap.size < w6.heap.size := by have := hb5.size; omega
  have HZ6 := Lib.hid hz6
  clear hba hw6 hsa hz6 hc5 hrow5 hb5 hb46 HAL g0 g1 g2 s0 s1 s2 s3
  obtain ⟨g0, g1, g2⟩ := id HG5.out
  obtain ⟨s0, s1, s2, s3⟩ := id HS5.out
  simp only [] at s0 s1 s2 s3
  have hlt6 : w.heap.size < w5.heap.size := by have := HZ6.out; omega
  have hlt61 : w.heap.size + 1 < w5.heap.size := by have := HZ6.out; omega
  obtain ⟨t', v1, q1, f1, v2, q2, f2, v3, q3, f3⟩ := h1
  go_wp2_with fail
  rw [← HW6.out]
  refine (HRL.out _ HB6.out).mono ?_
  rintro e w7 ⟨h2, a', c', rfl, hc7, hrow7, hb7⟩
  have hba : Below w7.heap.size w7 (w7.alloc (shO h2)) := (Below.refl _ _).alloc (Nat.le_refl _) _
  obtain ⟨w8, hw8⟩ : ∃ w8, w8 = w7.alloc (shO h2) := ⟨_, rfl⟩
  have hsb : StAt w8 w7.heap.size h2 := by rw [hw8]; exact stAt_new w7 h2
  have hz8 : w8.heap.size = w7.heap.size + 1 := by rw [hw8]; simp
  rw [← hw8] at hba
  have hb68 := hb7.trans (hba.mono hb7.size)
  have HW8 := Lib.hid hw8
  have HB8 := Lib.hid (HB6.out.trans (hb68.mono HB6.out.size))
  have hz67 := hb7.size
  have h56 := HZ6.out
  have HG8 := Lib.hid (HG6.out.below hb68 (by omega))
  have HS8 := Lib.hid (HS6.out.below hb68 (by omega))
  have HF8 : Hid (∀ i, w8.frozen? ⟨w.heap.size + 1, i, none⟩ = false) := fun i => (hb68.frozen (p := ⟨w.heap.size + 1, i, none⟩) (show w.heap.size + 1 < w6.heap.size by omega)).trans (HF6.out i)
  have HA7 := Lib.hid (HA6.out.below hb7 (by omega))
  have HA8 := Lib.hid (HA6.out.below hb68 (by omega))
  have HBX := Lib.hid hsb
  have HE8 := Lib.hid ((HE6.out.below hb68).mono hb68.size)
  have HR8 := Lib.hid ((hrow7.below hba).mono hba.size)
  have HSM := Lib.hid (rstSame_any ⟨t', v1, q1, f1, v2, q2, f2, v3, q3, f3⟩ h2 SA SA w8.heap.size w8 ((HC6.out.below hb68).mono hb68.size) ((hc7.below hba).mono hba.size) (Nat.le_refl _))
  rw [sameSt_all (s := SA) (t := SA) rfl rfl rfl rfl] at HSM
  have hlt7 : w5.heap.size < w7.heap.size := by omega
  have hlt8 : w.heap.size + 1 < w8.heap.size := by omega
  clear g0 g1 g2 s0 s1 s2 s3 hba hw8 hsb hz8 hb68 hc7 hrow7 hb7 HRL h56
  obtain ⟨x0, x1, x2, x3⟩ := id HA7.out
  obtain ⟨r', b1, m1, d1, b2, m2, d2, b3, m3, d3⟩ := h2
  simp only [] at x0 x1 x2 x3
  go_wp2_with fail
  rw [← HW8.out]
  refine HSM.out.mono ?_
  rintro e w9 ⟨rfl, hb9⟩
  have HCO := Lib.hid (rcodes_same _ _ _ _ _ _ _ _ CA w9 ((HE8.out.below hb9).mono hb9.size) ((HR8.out.below hb9).mono hb9.size) (Nat.le_refl _) (Nat.le_refl _))
  have HB9 := Lib.hid (HB8.out.trans (hb9.mono HB8.out.size))
  have HG9 := Lib.hid (HG8.out.below hb9 (by omega))
  have HS9 := Lib.hid (HS8.out.below hb9 (by omega))
  have hz89 := hb9.size
  clear x0 x1 x2 x3 hb9
  go_wp2_with fail
  refine HCO.out.mono ?_
  rintro e w10 ⟨rfl, hb10⟩
  have HB10 := Lib.hid (HB9.out.trans (hb10.mono HB9.out.size))
  by_cases hn0 : n = 0
  · subst hn0
    go_wp2_with fail
    go_ret
    exact ⟨rfl, HB10.out⟩
  have e0 : ((n : Int) == 0) = false := by simp; omega
  obtain ⟨bi, off, rfl, hbi, hcs⟩ := HL.out.2.2.2 (by omega)
  obtain ⟨p1, p2, p3, p4⟩ := hcs 0 (by omega)
  simp only [Nat.zero_mul, Nat.add_zero] at p1 p2 p3 p4
  have i1 := (HB10.out.cell (p := ⟨bi, off, none⟩) hbi).trans p1
  have i2 := (HB10.out.cell (p := ⟨bi, off + 1, none⟩) hbi).trans p2
  have i3 := (HB10.out.cell (p := ⟨bi, off + 2, none⟩) hbi).trans p3
  have i4 := (HB10.out.cell (p := ⟨bi, off + 3, none⟩) hbi).trans p4
  obtain ⟨x, hx⟩ : ∃ x, l.getD 0 zx = x := ⟨_, rfl⟩
  rw [hx] at i1 i2 i3 i4 p1 p2 p3 p4
  have hz10 := hb10.size
  have HG10 := Lib.hid (HG9.out.below hb10 (by omega))
  have HS10 := Lib.hid (HS9.out.below hb10 (by omega))
  obtain ⟨g0, g1, g2⟩ := id HG10.out
  obtain ⟨s0, s1, s2, s3⟩ := id HS10.out
  have HLE11 : Hid (Lies0 w10 w.heap.size w10.heap.size ⟨t, a1, n1, c1, a2, n2, c2, a3, n3, c3⟩ s) := .inl (HI.out.below HB10.out)
  have HAP11 : Hid (∀ V, Below w10.heap.size w10 V → Calls Try.prog 12 #[gridV W H g, shV ⟨t, a1, n1, c1, a2, n2, c2, a3, n3, c3⟩, inpV x] V fun e w' => ∃ h'', e = .returned (.tuple #[shV h'', .int .i64 (codeS fl s x)]) ∧ Fine w' ⟨t, a1, n1, c1, a2, n2, c2, a3, n3, c3⟩ s V.heap.size h'' (applyS fl s x) ∧ Below V.heap.size V w' ∧ Kept w10 w') := fun V hV => by
    have := bigApply_any W H g ⟨t, a1, n1, c1, a2, n2, c2, a3, n3, c3⟩ s x w.heap.size V HG.out (HI.out.below (HB10.out.trans (hV.mono HB10.out.size))) (HB10.out.trans (hV.mono HB10.out.size)).size HRT.out HBL.out
    rw [HFL.out] at this
    exact this.mono fun e w' ⟨h'', he, hc, hb⟩ => ⟨h'', he, hc.fine, hb, Below.trans hV (hb.mono hV.size)⟩
  have HAR : Hid (∀ V, Below w.heap.size w V → Calls Try.prog 13 #[gridV W H g, shV ⟨t, a1, n1, c1, a2, n2, c2, a3, n3, c3⟩, inpV x] V fun e w' => ∃ h'', e = .returned (.tuple #[shV h'', .int .i64 (codeS fl s x)]) ∧ Fine w' ⟨t, a1, n1, c1, a2, n2, c2, a3, n3, c3⟩ s V.heap.size h'' (applyS fl s x) ∧ Below V.heap.size V w') := fun V hV => by
    have := rapply_any W H g ⟨t, a1, n1, c1, a2, n2, c2, a3, n3, c3⟩ s x V HG.out ((HI.out.below hV).mono hV.size) HRT.out HBL.out
    rw [HFL.out] at this
    exact this
  generalize codeS fl s x = code at HAP11 HAR
  generalize applyS fl s x = sn at HAP11 HAR
  obtain ⟨xk, xa, xb, xc⟩ := x
  simp only [] at i1 i2 i3 i4 s0 s1 s2 s3 p1 p2 p3 p4
  have HIN := Lib.hid (And.intro p1 (And.intro p2 (And.intro p3 p4)))
  have hw10 : w.heap.size < w10.heap.size := by omega
  have hw101 : w.heap.size + 1 < w10.heap.size := by omega
  have hbiw : bi < w10.heap.size := by omega
  have hn1n : 0 < n := by omega
  have hn1' : (0 : Int) < (n : Int) := by omega
  have ecc : ((code : Int) == code) = true := by simp
  clear hcs hx p1 p2 p3 p4 hb10
  have k11 : Kept w10 w10 := Kept.refl _
  have HKS : Hid (∀ V, Kept w10 V → Kept w10 V ∧ V.cell? ⟨w.heap.size, 0, none⟩ = some (.int .i64 W) ∧ V.cell? ⟨w.heap.size, 1, none⟩ = some (.int .i64 H) ∧ V.cell? ⟨w.heap.size, 2, none⟩ = some (.string g) ∧ V.cell? ⟨w.heap.size + 1, 0, none⟩ = some (.int .i64 t) ∧ V.cell? ⟨w.heap.size + 1, 1, none⟩ = some (.slice a1 n1 c1) ∧ V.cell? ⟨w.heap.size + 1, 2, none⟩ = some (.slice a2 n2 c2) ∧ V.cell? ⟨w.heap.size + 1, 3, none⟩ = some (.slice a3 n3 c3) ∧ V.cell? ⟨bi, off, none⟩ = some (.int .i64 xk) ∧ V.cell? ⟨bi, off + 1, none⟩ = some (.int .i64 xa) ∧ V.cell? ⟨bi, off + 2, none⟩ = some (.int .i64 xb) ∧ V.cell? ⟨bi, off + 3, none⟩ = some (.int .i64 xc)) := fun V hV => ⟨hV, (Below.cell hV (p := ⟨w.heap.size, 0, none⟩) hw10).trans g0, (Below.cell hV (p := ⟨w.heap.size, 1, none⟩) hw10).trans g1, (Below.cell hV (p := ⟨w.heap.size, 2, none⟩) hw10).trans g2, (Below.cell hV (p := ⟨w.heap.size + 1, 0, none⟩) hw101).trans s0, (Below.cell hV (p := ⟨w.heap.size + 1, 1, none⟩) hw101).trans s1, (Below.cell hV (p := ⟨w.heap.size + 1, 2, none⟩) hw101).trans s2, (Below.cell hV (p := ⟨w.heap.size + 1, 3, none⟩) hw101).trans s3, (Below.cell hV (p := ⟨bi, off, none⟩) hbiw).trans i1, (Below.cell hV (p := ⟨bi, off + 1, none⟩) hbiw).trans i2, (Below.cell hV (p := ⟨bi, off + 2, none⟩) hbiw).trans i3, (Below.cell hV (p := ⟨bi, off + 3, none⟩) hbiw).trans i4⟩
  have HZ0 : Hid (StAt ((w10.alloc (.cells #[.int .i64 0, .slice none 0 0, .slice none 0 0, .slice none 0 0] 28)).drew) w10.heap.size ⟨0, none, 0, 0, none, 0, 0, none, 0, 0⟩) := stAt_new w10 ⟨0, none, 0, 0, none, 0, 0, none, 0, 0⟩
  have HZF : Hid (∀ i, ((w10.alloc (.cells #[.int .i64 0, .slice none 0 0, .slice none 0 0, .slice none 0 0] 28)).drew).frozen? ⟨w10.heap.size, i, none⟩ = false) := fun i => by simp
  go_upto_region 11 with fail
  go_cut [15, 16] from 20 (fun vt ve V => ∃ (bt : Nat) (h1 : Sh), vt = .pointer (some ⟨bt, 0, none⟩) ∧ ve = .int .i64 code ∧ Hid (StAt V bt h1) ∧ Hid (Lies0 V w.heap.size w10.heap.size h1 sn) ∧ Hid (Below w10.heap.size w10 V) ∧ w10.heap.size ≤ bt ∧ bt < V.heap.size)
  case first =>
    go_region_held3 (fun V => Kept w10 V ∧ V.cell? ⟨w.heap.size, 0, none⟩ = some (.int .i64 W) ∧ V.cell? ⟨w.heap.size, 1, none⟩ = some (.int .i64 H) ∧ V.cell? ⟨w.heap.size, 2, none⟩ = some (.string g) ∧ V.cell? ⟨w.heap.size + 1, 0, none⟩ = some (.int .i64 t) ∧ V.cell? ⟨w.heap.size + 1, 1, none⟩ = some (.slice a1 n1 c1) ∧ V.cell? ⟨w.heap.size + 1, 2, none⟩ = some (.slice a2 n2 c2) ∧ V.cell? ⟨w.heap.size + 1, 3, none⟩ = some (.slice a3 n3 c3) ∧ V.cell? ⟨bi, off, none⟩ = some (.int .i64 xk) ∧ V.cell? ⟨bi, off + 1, none⟩ = some (.int .i64 xa) ∧ V.cell? ⟨bi, off + 2, none⟩ = some (.int .i64 xb) ∧ V.cell? ⟨bi, off + 3, none⟩ = some (.int .i64 xc))
      (first | exact HKS.out _ (by assumption) | exact HKS.out _ (Kept.drew (by assumption)) | exact HKS.out _ (kept_alloc6 (by assumption) _) | exact HKS.out _ (Kept.drew (kept_alloc6 (by assumption) _)) | exact HKS.out _ (below_set4 (by assumption) (Nat.le_refl _) _ _ _ _) | exact HKS.out _ (Kept.drew (below_set4 (by assumption) (Nat.le_refl _) _ _ _ _)))
      (first
        | (go_at_call 12; refine (HAP11.out _ ?_).mono ?_; (first | exact k11 | exact Kept.drew k11 | exact kept_alloc6 k11 _ | exact Kept.drew (kept_alloc6 k11 _)); rintro e w13 ⟨h1, rfl, hc13, hb13, kd⟩; obtain ⟨t', v1, q1, f1, v2, q2, f2, v3, q3, f3⟩ := h1
           try (obtain ⟨z0, z1, z2, z3⟩ := HZ0.out.below hb13 (by simp))
           try (have y0 := (hb13.frozen (p := ⟨w10.heap.size, 0, none⟩) (by simp)).trans (HZF.out 0))
           try (have y1 := (hb13.frozen (p := ⟨w10.heap.size, 1, none⟩) (by simp)).trans (HZF.out 1))
           try (have y2 := (hb13.frozen (p := ⟨w10.heap.size, 2, none⟩) (by simp)).trans (HZF.out 2))
           try (have y3 := (hb13.frozen (p := ⟨w10.heap.size, 3, none⟩) (by simp)).trans (HZF.out 3))))
    all_goals go_wp2_with fail
    all_goals go_meet
    all_goals (first
      | exact ⟨w13.heap.size, ⟨t', v1, q1, f1, v2, q2, f2, v3, q3, f3⟩, rfl, rfl, stAt_new w13 ⟨t', v1, q1, f1, v2, q2, f2, v3, q3, f3⟩, lies_alloc hc13 HLE11.out (by omega) (by first | exact Nat.le_refl _ | simp) kd _, kept_alloc6 kd _, Below.size kd, by simp⟩
      | exact ⟨w10.heap.size, ⟨t', v1, q1, f1, v2, q2, f2, v3, q3, f3⟩, rfl, rfl, stAt_set4 z0 z1 z2 z3 ⟨t', v1, q1, f1, v2, q2, f2, v3, q3, f3⟩, lies_set4 hc13 HLE11.out (by omega) (by simp) kd (by simp) (Nat.le_refl _) _ _ _ _, below_set4 kd (Nat.le_refl _) _ _ _ _, Nat.le_refl _, by have := Below.size kd; simp [World.setCell]; (have := hb13.size; simp at this; omega)⟩)
  case rest =>
  obtain ⟨bt, h1, rfl, rfl, HT, HC, HBV, hbt, hbtl⟩ := hcut
  have hzv := HBV.out.size
  have HBC := Lib.hid (HB10.out.trans (HBV.out.mono HB10.out.size))
  have HGC := Lib.hid (HG10.out.below HBV.out (by omega))
  have HSC := Lib.hid (HS10.out.below HBV.out (by omega))
  clear g0 g1 g2 s0 s1 s2 s3 i1 i2 i3 i4 HAP11 HLE11 HKS HZ0 HZF k11
  obtain ⟨g0, g1, g2⟩ := id HGC.out
  obtain ⟨s0, s1, s2, s3⟩ := id HSC.out
  simp only [] at s0 s1 s2 s3
  obtain ⟨p1, p2, p3, p4⟩ := HIN.out
  have i1 := (HBC.out.cell (p := ⟨bi, off, none⟩) hbi).trans p1
  have i2 := (HBC.out.cell (p := ⟨bi, off + 1, none⟩) hbi).trans p2
  have i3 := (HBC.out.cell (p := ⟨bi, off + 2, none⟩) hbi).trans p3
  have i4 := (HBC.out.cell (p := ⟨bi, off + 3, none⟩) hbi).trans p4
  have HLE12 : Hid (Lies0 wc w.heap.size wc.heap.size ⟨t, a1, n1, c1, a2, n2, c2, a3, n3, c3⟩ s) := .inl (HI.out.below HBC.out)
  have HAP12 : Hid (∀ V, Below wc.heap.size wc V → Calls Try.prog 13 #[gridV W H g, shV ⟨t, a1, n1, c1, a2, n2, c2, a3, n3, c3⟩, inpV ⟨xk, xa, xb, xc⟩] V fun e w' => ∃ h'', e = .returned (.tuple #[shV h'', .int .i64 code]) ∧ Fine w' ⟨t, a1, n1, c1, a2, n2, c2, a3, n3, c3⟩ s V.heap.size h'' sn ∧ Below V.heap.size V w' ∧ Kept wc w') := fun V hV =>
    (HAR.out V (HBC.out.trans (hV.mono HBC.out.size))).mono fun e w' ⟨h'', he, hc, hb⟩ => ⟨h'', he, hc, hb, Below.trans hV (hb.mono hV.size)⟩
  have hwc : w.heap.size < wc.heap.size := by omega
  have hwc1 : w.heap.size + 1 < wc.heap.size := by omega
  have hbiw : bi < wc.heap.size := by omega
  obtain ⟨u', y1, r1, j1, y2, r2, j2, y3, r3, j3⟩ := h1
  clear p1 p2 p3 p4
  have k12 : Kept wc wc := Kept.refl _
  have HKS : Hid (∀ V, Kept wc V → Kept wc V ∧ V.cell? ⟨w.heap.size, 0, none⟩ = some (.int .i64 W) ∧ V.cell? ⟨w.heap.size, 1, none⟩ = some (.int .i64 H) ∧ V.cell? ⟨w.heap.size, 2, none⟩ = some (.string g) ∧ V.cell? ⟨w.heap.size + 1, 0, none⟩ = some (.int .i64 t) ∧ V.cell? ⟨w.heap.size + 1, 1, none⟩ = some (.slice a1 n1 c1) ∧ V.cell? ⟨w.heap.size + 1, 2, none⟩ = some (.slice a2 n2 c2) ∧ V.cell? ⟨w.heap.size + 1, 3, none⟩ = some (.slice a3 n3 c3) ∧ V.cell? ⟨bi, off, none⟩ = some (.int .i64 xk) ∧ V.cell? ⟨bi, off + 1, none⟩ = some (.int .i64 xa) ∧ V.cell? ⟨bi, off + 2, none⟩ = some (.int .i64 xb) ∧ V.cell? ⟨bi, off + 3, none⟩ = some (.int .i64 xc)) := fun V hV => ⟨hV, (Below.cell hV (p := ⟨w.heap.size, 0, none⟩) hwc).trans g0, (Below.cell hV (p := ⟨w.heap.size, 1, none⟩) hwc).trans g1, (Below.cell hV (p := ⟨w.heap.size, 2, none⟩) hwc).trans g2, (Below.cell hV (p := ⟨w.heap.size + 1, 0, none⟩) hwc1).trans s0, (Below.cell hV (p := ⟨w.heap.size + 1, 1, none⟩) hwc1).trans s1, (Below.cell hV (p := ⟨w.heap.size + 1, 2, none⟩) hwc1).trans s2, (Below.cell hV (p := ⟨w.heap.size + 1, 3, none⟩) hwc1).trans s3, (Below.cell hV (p := ⟨bi, off, none⟩) hbiw).trans i1, (Below.cell hV (p := ⟨bi, off + 1, none⟩) hbiw).trans i2, (Below.cell hV (p := ⟨bi, off + 2, none⟩) hbiw).trans i3, (Below.cell hV (p := ⟨bi, off + 3, none⟩) hbiw).trans i4⟩
  have HZ0 : Hid (StAt ((wc.alloc (.cells #[.int .i64 0, .slice none 0 0, .slice none 0 0, .slice none 0 0] 28)).drew) wc.heap.size ⟨0, none, 0, 0, none, 0, 0, none, 0, 0⟩) := stAt_new wc ⟨0, none, 0, 0, none, 0, 0, none, 0, 0⟩
  have HZF : Hid (∀ i, ((wc.alloc (.cells #[.int .i64 0, .slice none 0 0, .slice none 0 0, .slice none 0 0] 28)).drew).frozen? ⟨wc.heap.size, i, none⟩ = false) := fun i => by simp
  go_upto_region 12 with fail
  go_cut [17, 18] from 20 (fun vt ve V => ∃ (bt : Nat) (h1 : Sh), vt = .pointer (some ⟨bt, 0, none⟩) ∧ ve = .int .i64 code ∧ Hid (StAt V bt h1) ∧ Hid (Lies0 V w.heap.size wc.heap.size h1 sn) ∧ Hid (Below wc.heap.size wc V) ∧ wc.heap.size ≤ bt ∧ bt < V.heap.size)
  case first =>
    go_region_held3 (fun V => Kept wc V ∧ V.cell? ⟨w.heap.size, 0, none⟩ = some (.int .i64 W) ∧ V.cell? ⟨w.heap.size, 1, none⟩ = some (.int .i64 H) ∧ V.cell? ⟨w.heap.size, 2, none⟩ = some (.string g) ∧ V.cell? ⟨w.heap.size + 1, 0, none⟩ = some (.int .i64 t) ∧ V.cell? ⟨w.heap.size + 1, 1, none⟩ = some (.slice a1 n1 c1) ∧ V.cell? ⟨w.heap.size + 1, 2, none⟩ = some (.slice a2 n2 c2) ∧ V.cell? ⟨w.heap.size + 1, 3, none⟩ = some (.slice a3 n3 c3) ∧ V.cell? ⟨bi, off, none⟩ = some (.int .i64 xk) ∧ V.cell? ⟨bi, off + 1, none⟩ = some (.int .i64 xa) ∧ V.cell? ⟨bi, off + 2, none⟩ = some (.int .i64 xb) ∧ V.cell? ⟨bi, off + 3, none⟩ = some (.int .i64 xc))
      (first | exact HKS.out _ (by assumption) | exact HKS.out _ (Kept.drew (by assumption)) | exact HKS.out _ (kept_alloc6 (by assumption) _) | exact HKS.out _ (Kept.drew (kept_alloc6 (by assumption) _)) | exact HKS.out _ (below_set4 (by assumption) (Nat.le_refl _) _ _ _ _) | exact HKS.out _ (Kept.drew (below_set4 (by assumption) (Nat.le_refl _) _ _ _ _)))
      (first
        | (go_at_call 13; refine (HAP12.out _ ?_).mono ?_; (first | exact k12 | exact Kept.drew k12 | exact kept_alloc6 k12 _ | exact Kept.drew (kept_alloc6 k12 _)); rintro e w13 ⟨h1, rfl, hc13, hb13, kd⟩; obtain ⟨t', v1, q1, f1, v2, q2, f2, v3, q3, f3⟩ := h1
           try (obtain ⟨z0, z1, z2, z3⟩ := HZ0.out.below hb13 (by simp))
           try (have y0 := (hb13.frozen (p := ⟨wc.heap.size, 0, none⟩) (by simp)).trans (HZF.out 0))
           try (have y1 := (hb13.frozen (p := ⟨wc.heap.size, 1, none⟩) (by simp)).trans (HZF.out 1))
           try (have y2 := (hb13.frozen (p := ⟨wc.heap.size, 2, none⟩) (by simp)).trans (HZF.out 2))
           try (have y3 := (hb13.frozen (p := ⟨wc.heap.size, 3, none⟩) (by simp)).trans (HZF.out 3))))
    all_goals go_wp2_with fail
    all_goals go_meet
    all_goals (first
      | exact ⟨w13.heap.size, ⟨t', v1, q1, f1, v2, q2, f2, v3, q3, f3⟩, rfl, rfl, stAt_new w13 ⟨t', v1, q1, f1, v2, q2, f2, v3, q3, f3⟩, lies_alloc hc13 HLE12.out (by omega) (by first | exact Nat.le_refl _ | simp) kd _, kept_alloc6 kd _, Below.size kd, by simp⟩
      | exact ⟨wc.heap.size, ⟨t', v1, q1, f1, v2, q2, f2, v3, q3, f3⟩, rfl, rfl, stAt_set4 z0 z1 z2 z3 ⟨t', v1, q1, f1, v2, q2, f2, v3, q3, f3⟩, lies_set4 hc13 HLE12.out (by omega) (by simp) kd (by simp) (Nat.le_refl _) _ _ _ _, below_set4 kd (Nat.le_refl _) _ _ _ _, Nat.le_refl _, by have := Below.size kd; simp [World.setCell]; (have := hb13.size; simp at this; omega)⟩)
  case rest =>
  obtain ⟨bt2, h2, rfl, rfl, HT2, HC2, HBV2, hbt2, hbtl2⟩ := hcut
  have hzv2 := HBV2.out.size
  have HBD := Lib.hid (HBC.out.trans (HBV2.out.mono HBC.out.size))
  have HS2 := Lib.hid (rstSame_any ⟨u', y1, r1, j1, y2, r2, j2, y3, r3, j3⟩ h2 sn sn wc.heap.size wc ((HC.out.calls (by omega) HBV2.out).stIn (by omega)) (HC2.out.stIn (by omega)) (Nat.le_refl _))
  rw [sameSt_all (s := sn) (t := sn) rfl rfl rfl rfl] at HS2
  have HTD := Lib.hid (HT.out.below HBV2.out hbtl)
  clear g0 g1 g2 s0 s1 s2 s3 i1 i2 i3 i4 HAP12 HLE12 HKS HZ0 HZF k12
  obtain ⟨s0, s1, s2, s3⟩ := id HTD.out
  obtain ⟨m1, l1, o1, b1, m2, l2, o2, b2, m3, l3⟩ := h2
  obtain ⟨x0, x1, x2, x3⟩ := id HT2.out
  simp only [] at s0 s1 s2 s3 x0 x1 x2 x3
  go_wp2_with fail
  refine HS2.out.mono ?_
  rintro e w14 ⟨rfl, hb14⟩
  have HBE := Lib.hid (HBD.out.trans (hb14.mono HBD.out.size))
  go_wp2_with fail
  go_ret
  exact ⟨rfl, HBE.out⟩
theorem inputTells_say (W H : Int) (g : ByteArray) (h : Sh) (s : St) (a : Option Addr) (n c : Nat) (l : List Inp) (w : World) (_ : (Lit.int .i64 W).wf = true) (_ : (Lit.int .i64 H).wf = true) (hg : g.size ≤ maxLen) (hi : IsSt w h s) (hl : RowI w w.heap.size a n c l) :
    Calls Try.prog 3 #[gridV W H g, shV h, .slice a n c] w fun e w' => e = .returned (.bool true) ∧ Below w.heap.size w w' :=
  inputTells_walk W H g h s a n c l w hg hi hl
end Go.Proofs.Ytlfgdalpaacccaa.Vm
