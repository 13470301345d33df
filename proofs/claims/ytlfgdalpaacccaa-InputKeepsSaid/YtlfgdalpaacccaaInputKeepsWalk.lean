/- tuggerlaw06.InputKeeps returns true for every input. -/
import Derived.Test.YtlfgdalpaacccaaKeepMath
import Derived.Test.YtlfgdalpaacccaaInAlls
import Derived.Test.YtlfgdalpaacccaaLightSix
import Derived.Test.YtlfgdalpaacccaaStSames
import Derived.Test.YtlfgdalpaacccaaOpens
import Derived.Test.YtlfgdalpaacccaaAwakeSix
import Derived.Deep.CutRange
import Derived.Deep.LoopGhost
import Derived.Deep.RegionHeld3
import Derived.BigRegion
import Derived.BigQuiet
namespace Go.Proofs.Ytlfgdalpaacccaa.Vm
open Go Go.RowKit

/-- A state's slices lie below block q, or in memory of the call's own above it. -/
def Lies (V : World) (q : Nat) (h : Sh) (s : St) : Prop := StIn V q h s ∨ CopyIn V (q + 1) h s
theorem Lies.stIn {V : World} {q : Nat} {h : Sh} {s : St} (hl : Lies V q h s) (hq : q ≤ V.heap.size) : StIn V V.heap.size h s := hl.elim (fun h => h.mono hq) (fun h => h.stIn)
theorem CopyIn.calls {w w' : World} {B : Nat} {h : Sh} {s : St} (c : CopyIn w B h s) (hb : Below w.heap.size w w') : CopyIn w' B h s :=
  ⟨c.tick, c.rs.calls hb, c.ts.calls hb, own_upto c.bl hb (fun k hk => (World.ownsRow.lt c.bl k hk).2), c.n1, c.n2, c.n3⟩
theorem CopyIn.mono {w : World} {B B' : Nat} {h : Sh} {s : St} (c : CopyIn w B h s) (hB : B' ≤ B) : CopyIn w B' h s :=
  ⟨c.tick, c.rs.mono hB, c.ts.mono hB, OwnZ.mono c.bl hB, c.n1, c.n2, c.n3⟩
theorem copy_set4 {w : World} {B b : Nat} {h : Sh} {s : St} (c : CopyIn w B h s) (hb : b < B) (v0 v1 v2 v3 : Value) : CopyIn ((((w.setCell ⟨b, 0, none⟩ v0).setCell ⟨b, 1, none⟩ v1).setCell ⟨b, 2, none⟩ v2).setCell ⟨b, 3, none⟩ v3) B h s :=
  ⟨c.tick, own_set4 c.rs hb v0 v1 v2 v3, own_set4 c.ts hb v0 v1 v2 v3, own_set4 c.bl hb v0 v1 v2 v3, c.n1, c.n2, c.n3⟩
theorem stIn_set4 {w : World} {B b : Nat} {h : Sh} {s : St} (c : StIn w B h s) (hb : B ≤ b) (v0 v1 v2 v3 : Value) : StIn ((((w.setCell ⟨b, 0, none⟩ v0).setCell ⟨b, 1, none⟩ v1).setCell ⟨b, 2, none⟩ v2).setCell ⟨b, 3, none⟩ v3) B h s :=
  c.below (below_set4 (Below.refl _ _) hb v0 v1 v2 v3)
theorem kept_alloc {a w : World} (h : Kept a w) (o : Obj) : Kept a (w.alloc o) := Below.alloc h h.size o
theorem Lies.calls {V V' : World} {q : Nat} {h : Sh} {s : St} (hl : Lies V q h s) (hq : q ≤ V.heap.size) (hb : Below V.heap.size V V') : Lies V' q h s :=
  hl.elim (fun h => .inl (h.below (hb.mono hq))) (fun h => .inr (h.calls hb))

set_option maxRecDepth 100000 in
set_option maxHeartbeats 4000000 in
theorem inputKeeps_walk (W H : Int) (g : ByteArray) (h : Sh) (s : St) (a : Option Addr) (n c : Nat) (l : List Inp) (w : World) (hg : g.size ≤ maxLen) (hi : IsSt w h s) (hl : RowI w w.heap.size a n c l) :
    Calls Try.prog 4 #[gridV W H g, shV h, .slice a n c] w fun e w' => e = .returned (.bool true) ∧ Below w.heap.size w w' := by
  obtain ⟨w2, hw2, hB2, hz2, hg2, hs2⟩ := gs_head w W H g h
  have hf2 : ∀ i, w2.frozen? ⟨w.heap.size + 1, i, none⟩ = false := fun i => by rw [hw2]; simp
  have HW2 := Lib.hid hw2
  have HI := Lib.hid hi.stIn
  have HLI := Lib.hid fun (V : World) (hV : Below w.heap.size w V) => light6_any W H g h s _ V hg (hi.stIn.below hV) hV.size
  have HLN := Lib.hid fun (hl : light6 W H g h s = true) => light6_in hl
  have HG := Lib.hid hg
  have HG2 := Lib.hid hg2
  have HS2 := Lib.hid hs2
  have HB2 := Lib.hid hB2
  have HF2 := Lib.hid hf2
  have HL := Lib.hid hl
  have HLL := Lib.hid hl.1
  have hnm := hl.2.1
  have hnm2 := hl.2.2.1
  unfold maxLen at hnm2
  obtain ⟨fl, hfl⟩ : ∃ fl, floorS (bytesOf g) = fl := ⟨_, rfl⟩
  have HFL := Lib.hid hfl
  generalize hL : light6 W H g h s = L at HLI HLN
  clear hL hw2 hi hg hg2 hs2 hB2 hf2 hfl hl
  have HWH : Hid (∃ h', h' = h) := ⟨h, rfl⟩
  obtain ⟨t, a1, n1, c1, a2, n2, c2, a3, n3, c3⟩ := h
  simp only [] at HLI HLN
  go_enter Try.func4, Try.ntmps4
  go_wp2_with fail
  rw [← HW2.out]
  refine (awake6_any w2).mono ?_
  rintro e w3 ⟨rfl, hb3⟩
  have HB3 := Lib.hid (HB2.out.trans (hb3.mono HB2.out.size))
  have HG3 := Lib.hid (HG2.out.below hb3 (by omega))
  have HS3 := Lib.hid (HS2.out.below hb3 (by omega))
  have HF3 : Hid (∀ i, w3.frozen? ⟨w.heap.size + 1, i, none⟩ = false) := fun i => (hb3.frozen (p := ⟨w.heap.size + 1, i, none⟩) (show w.heap.size + 1 < w2.heap.size by omega)).trans (HF2.out i)
  have hz3 : w.heap.size + 2 ≤ w3.heap.size := by have := hb3.size; omega
  clear hb3
  obtain ⟨g0, g1, g2⟩ := id HG3.out
  obtain ⟨s0, s1, s2, s3⟩ := id HS3.out
  simp only [] at s0 s1 s2 s3
  go_wp2_with fail
  refine (HLI.out _ HB3.out).mono ?_
  rintro e w4 ⟨rfl, hb4⟩
  have HB4 := Lib.hid (HB3.out.trans (hb4.mono HB3.out.size))
  have HG4 := Lib.hid (HG3.out.below hb4 (by omega))
  have HS4 := Lib.hid (HS3.out.below hb4 (by omega))
  have HF4 : Hid (∀ i, w4.frozen? ⟨w.heap.size + 1, i, none⟩ = false) := fun i => (hb4.frozen (p := ⟨w.heap.size + 1, i, none⟩) (show w.heap.size + 1 < w3.heap.size by omega)).trans (HF3.out i)
  have hz4 : w.heap.size + 2 ≤ w4.heap.size := by have := hb4.size; omega
  clear hb4 g0 g1 g2 s0 s1 s2 s3 HLI HG2 HS2 HG3 HS3 HF2 HF3
  cases L
  · go_wp2_with fail
    go_ret
    exact ⟨rfl, HB4.out⟩
  by_cases hn30 : 30 < n
  · have e1 : (30 : Int) < (n : Int) := by omega
    go_wp2_with fail
    go_ret
    exact ⟨rfl, HB4.out⟩
  have e1 : ¬ (30 : Int) < (n : Int) := by omega
  obtain ⟨⟨_, hl1, hl2, hl3⟩, hr⟩ := HLN.out (by trivial)
  rw [HFL.out] at hr
  have HRA := Lib.hid fun k => all_right fl (l.take k) s hr
  have HBL : Hid (∀ k, k ≤ n → (allS fl s (l.take k)).bl.length ≤ 90000) := fun k hk => by
    have h1 := all_bl fl (l.take k) s
    have h2 := HI.out.bl.1
    simp only [] at h2
    rw [List.length_take] at h1
    omega
  have HWF : Hid (∀ k, ∀ i, i < (allS fl s (l.take k)).rs.length → True) := fun _ _ _ => trivial
  have HLI0 : Hid (Lies w4 (w.heap.size + 1) ⟨t, a1, n1, c1, a2, n2, c2, a3, n3, c3⟩ s) := .inl ((HI.out.below HB4.out).mono (by omega))
  clear hr hl1 hl2 hl3 HWF HWH HLN
  go_wp2_with fail
  go_loopg [9] n (fun gg i wr => ∃ (k : Nat) (hk : Sh), k ≤ n ∧ n - k ≤ gg ∧ i = .int .i64 k ∧ Hid (StAt wr (w.heap.size + 1) hk) ∧ Hid (∀ i, wr.frozen? ⟨w.heap.size + 1, i, none⟩ = false) ∧ Hid (Lies wr (w.heap.size + 1) hk (allS fl s (l.take k))) ∧ Hid (Below (w.heap.size + 1) w4 wr) ∧ w.heap.size + 2 ≤ wr.heap.size)
  case atStart => exact ⟨0, _, Nat.zero_le _, by omega, rfl, HS4.out, HF4.out, HLI0.out, Below.refl _ _, hz4⟩
  case round =>
    obtain ⟨k, hk, hkn, hgg, rfl, HS, HF, HLIE, HBR, hzr⟩ := hrel
    have HBW : Hid (Below w.heap.size w wr) := HB4.out.trans (HBR.out.mono (by omega))
    by_cases hlt : k < n
    · obtain ⟨bi, off, rfl, hbi, hcs⟩ := HL.out.2.2.2 (by omega)
      obtain ⟨p1, p2, p3, p4⟩ := hcs k hlt
      have i1 := (HBW.out.cell (p := ⟨bi, off + k * 4, none⟩) hbi).trans p1
      have i2 := (HBW.out.cell (p := ⟨bi, off + k * 4 + 1, none⟩) hbi).trans p2
      have i3 := (HBW.out.cell (p := ⟨bi, off + k * 4 + 2, none⟩) hbi).trans p3
      have i4 := (HBW.out.cell (p := ⟨bi, off + k * 4 + 3, none⟩) hbi).trans p4
      obtain ⟨x, hx⟩ : ∃ x, l.getD k zx = x := ⟨_, rfl⟩
      have HX := Lib.hid hx
      rw [hx] at i1 i2 i3 i4
      have HGR := Lib.hid (HG4.out.below HBR.out (by omega))
      obtain ⟨g0, g1, g2⟩ := id HGR.out
      obtain ⟨s0, s1, s2, s3⟩ := id HS.out
      have HIR := Lib.hid (HLIE.out.stIn (by omega))
      obtain ⟨sk, hsk⟩ : ∃ sk, allS fl s (l.take k) = sk := ⟨_, rfl⟩
      have HR := Lib.hid (HRA.out k)
      have hbl := HBL.out k hkn
      have HAD : Hid (allS fl s (l.take (k + 1)) = applyS fl sk x) := by
        unfold Hid
        rw [take_x (by rw [HLL.out]; exact hlt), allS_more, HX.out, hsk]
      rw [hsk] at HIR HR HLIE hbl
      have HKE := Lib.hid (apply_keeps (x := x) HR.out)
      have HER := Lib.hid fun hc => apply_err (fl := fl) (s := sk) (x := x) hc
      have HR2 := Lib.hid (apply_right (x := x) HR.out)
      have HAP : Hid (∀ V, Below wr.heap.size wr V → Calls Try.prog 12 #[gridV W H g, shV hk, inpV x] V fun e w' => ∃ h'', e = .returned (.tuple #[shV h'', .int .i64 (codeS fl sk x)]) ∧ CopyIn w' V.heap.size h'' (applyS fl sk x) ∧ Below V.heap.size V w' ∧ Kept wr w') := fun V hV => by
        have := bigApply_any W H g hk sk x wr.heap.size V HG.out (HIR.out.below hV) hV.size (by rw [HFL.out]; exact HR.out) hbl
        rw [HFL.out] at this
        exact this.mono fun e w' ⟨h'', he, hc, hb⟩ => ⟨h'', he, hc, hb, Below.trans hV (hb.mono hV.size)⟩
      generalize codeS fl sk x = code at HAP HER
      generalize applyS fl sk x = sn at HAP HKE HER HR2 HAD
      obtain ⟨xk, xa, xb, xc⟩ := x
      obtain ⟨u, b1, m1, d1, b2, m2, d2, b3, m3, d3⟩ := hk
      simp only [] at i1 i2 i3 i4 s0 s1 s2 s3
      have hwr : w.heap.size < wr.heap.size := by omega
      have hwr1 : w.heap.size + 1 < wr.heap.size := by omega
      have hbiw : bi < wr.heap.size := by omega
      clear hcs p1 p2 p3 p4 hx hsk hbl
      have hbA : Below wr.heap.size wr ((wr.alloc (.cells #[.int .i64 0, .slice none 0 0, .slice none 0 0, .slice none 0 0] 28)).drew) := ((Below.refl _ _).alloc (Nat.le_refl _) _).drew
      have k0 : Kept wr wr := Kept.refl _
      have HKS : Hid (∀ V, Kept wr V → Kept wr V ∧ V.cell? ⟨w.heap.size, 0, none⟩ = some (.int .i64 W) ∧ V.cell? ⟨w.heap.size, 1, none⟩ = some (.int .i64 H) ∧ V.cell? ⟨w.heap.size, 2, none⟩ = some (.string g) ∧ V.cell? ⟨w.heap.size + 1, 0, none⟩ = some (.int .i64 u) ∧ V.cell? ⟨w.heap.size + 1, 1, none⟩ = some (.slice b1 m1 d1) ∧ V.cell? ⟨w.heap.size + 1, 2, none⟩ = some (.slice b2 m2 d2) ∧ V.cell? ⟨w.heap.size + 1, 3, none⟩ = some (.slice b3 m3 d3) ∧ V.cell? ⟨bi, off + k * 4, none⟩ = some (.int .i64 xk) ∧ V.cell? ⟨bi, off + k * 4 + 1, none⟩ = some (.int .i64 xa) ∧ V.cell? ⟨bi, off + k * 4 + 2, none⟩ = some (.int .i64 xb) ∧ V.cell? ⟨bi, off + k * 4 + 3, none⟩ = some (.int .i64 xc)) := fun V hV => ⟨hV, (Below.cell hV (p := ⟨w.heap.size, 0, none⟩) hwr).trans g0, (Below.cell hV (p := ⟨w.heap.size, 1, none⟩) hwr).trans g1, (Below.cell hV (p := ⟨w.heap.size, 2, none⟩) hwr).trans g2, (Below.cell hV (p := ⟨w.heap.size + 1, 0, none⟩) hwr1).trans s0, (Below.cell hV (p := ⟨w.heap.size + 1, 1, none⟩) hwr1).trans s1, (Below.cell hV (p := ⟨w.heap.size + 1, 2, none⟩) hwr1).trans s2, (Below.cell hV (p := ⟨w.heap.size + 1, 3, none⟩) hwr1).trans s3, (Below.cell hV (p := ⟨bi, off + k * 4, none⟩) hbiw).trans i1, (Below.cell hV (p := ⟨bi, off + k * 4 + 1, none⟩) hbiw).trans i2, (Below.cell hV (p := ⟨bi, off + k * 4 + 2, none⟩) hbiw).trans i3, (Below.cell hV (p := ⟨bi, off + k * 4 + 3, none⟩) hbiw).trans i4⟩
      have HZ0 : Hid (StAt ((wr.alloc (.cells #[.int .i64 0, .slice none 0 0, .slice none 0 0, .slice none 0 0] 28)).drew) wr.heap.size ⟨0, none, 0, 0, none, 0, 0, none, 0, 0⟩) := stAt_new wr ⟨0, none, 0, 0, none, 0, 0, none, 0, 0⟩
      have HZF : Hid (∀ i, ((wr.alloc (.cells #[.int .i64 0, .slice none 0 0, .slice none 0 0, .slice none 0 0] 28)).drew).frozen? ⟨wr.heap.size, i, none⟩ = false) := fun i => by simp
      have HBA := Lib.hid hbA
      clear hbA
      go_wp2_with fail
      go_cut [10, 11] from 29 to 174 (fun vt ve V => ∃ (bt : Nat) (h1 : Sh), vt = .pointer (some ⟨bt, 0, none⟩) ∧ ve = .int .i64 code ∧ Hid (StAt V bt h1) ∧ Hid (CopyIn V (w.heap.size + 1 + 1) h1 sn) ∧ Hid (Below wr.heap.size wr V) ∧ wr.heap.size ≤ bt ∧ bt < V.heap.size)
      case first =>
        go_region_held3 (fun V => Kept wr V ∧ V.cell? ⟨w.heap.size, 0, none⟩ = some (.int .i64 W) ∧ V.cell? ⟨w.heap.size, 1, none⟩ = some (.int .i64 H) ∧ V.cell? ⟨w.heap.size, 2, none⟩ = some (.string g) ∧ V.cell? ⟨w.heap.size + 1, 0, none⟩ = some (.int .i64 u) ∧ V.cell? ⟨w.heap.size + 1, 1, none⟩ = some (.slice b1 m1 d1) ∧ V.cell? ⟨w.heap.size + 1, 2, none⟩ = some (.slice b2 m2 d2) ∧ V.cell? ⟨w.heap.size + 1, 3, none⟩ = some (.slice b3 m3 d3) ∧ V.cell? ⟨bi, off + k * 4, none⟩ = some (.int .i64 xk) ∧ V.cell? ⟨bi, off + k * 4 + 1, none⟩ = some (.int .i64 xa) ∧ V.cell? ⟨bi, off + k * 4 + 2, none⟩ = some (.int .i64 xb) ∧ V.cell? ⟨bi, off + k * 4 + 3, none⟩ = some (.int .i64 xc))
          (first | exact HKS.out _ (by assumption) | exact HKS.out _ (Kept.drew (by assumption)) | exact HKS.out _ (kept_alloc (by assumption) _) | exact HKS.out _ (Kept.drew (kept_alloc (by assumption) _)) | exact HKS.out _ (below_set4 (by assumption) (Nat.le_refl _) _ _ _ _) | exact HKS.out _ (Kept.drew (below_set4 (by assumption) (Nat.le_refl _) _ _ _ _)))
          (first
            | (go_at_call 12; refine (HAP.out _ ?_).mono ?_; (first | exact k0 | exact Kept.drew k0 | exact kept_alloc k0 _ | exact Kept.drew (kept_alloc k0 _)); rintro e w5 ⟨h1, rfl, hc5, hb5, kd⟩; obtain ⟨t', v1, q1, f1, v2, q2, f2, v3, q3, f3⟩ := h1
               try (obtain ⟨z0, z1, z2, z3⟩ := HZ0.out.below hb5 (by simp))
               try (have y0 := (hb5.frozen (p := ⟨wr.heap.size, 0, none⟩) (by simp)).trans (HZF.out 0))
               try (have y1 := (hb5.frozen (p := ⟨wr.heap.size, 1, none⟩) (by simp)).trans (HZF.out 1))
               try (have y2 := (hb5.frozen (p := ⟨wr.heap.size, 2, none⟩) (by simp)).trans (HZF.out 2))
               try (have y3 := (hb5.frozen (p := ⟨wr.heap.size, 3, none⟩) (by simp)).trans (HZF.out 3))))
        all_goals go_wp2_with fail
        all_goals go_meet
        all_goals (first
          | exact ⟨w5.heap.size, ⟨t', v1, q1, f1, v2, q2, f2, v3, q3, f3⟩, rfl, rfl, stAt_new w5 ⟨t', v1, q1, f1, v2, q2, f2, v3, q3, f3⟩, (hc5.calls ((Below.refl _ _).alloc (Nat.le_refl _) _)).mono (show w.heap.size + 1 + 1 ≤ wr.heap.size by omega), kept_alloc kd _, Below.size kd, by simp⟩
          | exact ⟨wr.heap.size, ⟨t', v1, q1, f1, v2, q2, f2, v3, q3, f3⟩, rfl, rfl, stAt_set4 z0 z1 z2 z3 ⟨t', v1, q1, f1, v2, q2, f2, v3, q3, f3⟩, (copy_set4 hc5 (by simp) _ _ _ _).mono (Nat.le_trans (show w.heap.size + 1 + 1 ≤ wr.heap.size by omega) (by simp)), below_set4 kd (Nat.le_refl _) _ _ _ _, Nat.le_refl _, by have := Below.size kd; simp [World.setCell]; (have := hb5.size; simp at this; omega)⟩)
      case rest =>
        obtain ⟨bt, h1, rfl, rfl, HT, HC, HBV, hbt, hbtl⟩ := hcut
        have hzv := HBV.out.size
        have HGV := Lib.hid (HG4.out.below (HBR.out.trans (HBV.out.mono (by omega))) (by omega))
        have HSV := Lib.hid (HS.out.below HBV.out (by omega))
        have HLV := Lib.hid (HLIE.out.calls (by omega) HBV.out)
        have HFV : Hid (∀ i, wc.frozen? ⟨w.heap.size + 1, i, none⟩ = false) := fun i => (HBV.out.frozen (p := ⟨w.heap.size + 1, i, none⟩) (show w.heap.size + 1 < wr.heap.size by omega)).trans (HF.out i)
        have HB5 := Lib.hid (HBR.out.trans (HBV.out.mono (by omega)))
        have HSM := Lib.hid (rstSame_any ⟨u, b1, m1, d1, b2, m2, d2, b3, m3, d3⟩ h1 sk sn wc.heap.size wc (HLV.out.stIn (by omega)) HC.out.stIn (Nat.le_refl _))
        have HRT := Lib.hid fun (V : World) (hV : Below wc.heap.size wc V) => (by
          have := rstRight_any W H g h1 sn wc.heap.size V HG.out (HC.out.stIn.below hV) hV.size
          rw [HFL.out, show rightB fl sn = true from yes_true HR2.out] at this
          exact this : Calls Try.prog 14 #[gridV W H g, shV h1] V fun e w' => e = .returned (.bool true) ∧ Below V.heap.size V w')
        obtain ⟨s0, s1, s2, s3⟩ := id HSV.out
        obtain ⟨t', v1, q1, f1, v2, q2, f2, v3, q3, f3⟩ := h1
        obtain ⟨x0, x1, x2, x3⟩ := id HT.out
        simp only [] at s0 s1 s2 s3 x0 x1 x2 x3
        clear g0 g1 g2 i1 i2 i3 i4 HAP HGR HS HF HLIE HIR HBR HBW HKS HZ0 HZF HBA HBV k0
        go_wp2_with fail
        refine HSM.out.mono ?_
        rintro e w7 ⟨rfl, hb7⟩
        have hz7 := hb7.size
        have HC7 := Lib.hid (HC.out.calls hb7)
        have HL7 := Lib.hid (HLV.out.calls (by omega) hb7)
        have HF7 : Hid (∀ i, w7.frozen? ⟨w.heap.size + 1, i, none⟩ = false) := fun i => (hb7.frozen (p := ⟨w.heap.size + 1, i, none⟩) (show w.heap.size + 1 < wc.heap.size by omega)).trans (HFV.out i)
        have HB7 := Lib.hid (HB5.out.trans (hb7.mono (by omega)))
        have HG7 := Lib.hid (HGV.out.below hb7 (by omega))
        have HS7 := Lib.hid (HSV.out.below hb7 (by omega))
        have HT7 := Lib.hid (HT.out.below hb7 hbtl)
        have HRT7 := Lib.hid (HRT.out w7 hb7)
        clear s0 s1 s2 s3 x0 x1 x2 x3 HC HLV HFV HB5 HGV HSV HT HSM HRT hb7
        obtain ⟨g0, g1, g2⟩ := id HG7.out
        obtain ⟨s0, s1, s2, s3⟩ := id HS7.out
        obtain ⟨x0, x1, x2, x3⟩ := id HT7.out
        simp only [] at s0 s1 s2 s3 x0 x1 x2 x3
        have hsame : code = 0 ∨ sameSt sk sn = true ∧ (code == 0) = false := by
          by_cases he : code = 0
          · exact .inl he
          · refine .inr ⟨?_, by simpa using he⟩
            rw [HER.out he]
            exact yes_true ⟨rfl, rfl, rfl, rfl⟩
        generalize sameSt sk sn = sm at hsame
        have k1 : q1 = m1 := by
          have e1 := HC7.out.n1
          have e2 := (HL7.out.stIn (by omega)).rs.1
          have e3 := HKE.out.rn
          simp only [] at e1 e2
          omega
        have k2 : m2 ≤ q2 := by
          have e1 := HC7.out.n2
          have e2 := (HL7.out.stIn (by omega)).ts.1
          have e3 := HKE.out.tn
          simp only [] at e1 e2
          omega
        have k3 : t' = u := by
          have e1 := HC7.out.tick
          have e2 := (HL7.out.stIn (by omega)).tick
          have e3 := HKE.out.tick
          simp only [] at e1 e2
          omega
        subst k1 k3
        have k2' : ¬ (q2 : Int) < (m2 : Int) := by omega
        have hd : (code = 0 ∧ (0 : Int) = 0) ∨ (code != 0) = true ∧ sm = true := by
          rcases hsame with he | ⟨he, h2⟩
          · exact .inl ⟨he, rfl⟩
          · exact .inr ⟨by simpa using h2, he⟩
        clear hsame
        go_upto_region 10 with fail
        go_cut [84] from 29 to 174 (fun v84 V => v84 = .bool false ∧ Hid (Below w7.heap.size w7 V))
        case first =>
          rcases hd with ⟨rfl, _⟩ | ⟨hc0, rfl⟩
          all_goals
            go_wp2_with fail
            refine HRT7.out.mono ?_
            rintro e w8 ⟨rfl, hb8⟩
            have hz8 := hb8.size
            have HBB := Lib.hid hb8
            obtain ⟨s0', s1', s2', s3'⟩ := HS7.out.below hb8 (by omega)
            obtain ⟨x0', x1', x2', x3'⟩ := HT7.out.below hb8 (by omega)
            simp only [] at s0' s1' s2' s3' x0' x1' x2' x3'
            clear s0 s1 s2 s3 x0 x1 x2 x3 g0 g1 g2 hb8
            go_wp2_with fail
            go_meet
            exact ⟨by first | rfl | trivial | (simp; omega), HBB⟩
        case rest =>
          obtain ⟨rfl, HW8⟩ := hcut
          have hb8 := HW8.out
          have hz8 := hb8.size
          have HC8 := Lib.hid (HC7.out.calls hb8)
          have HL8 := Lib.hid (HL7.out.calls (by omega) hb8)
          have HF8 : Hid (∀ i, wc.frozen? ⟨w.heap.size + 1, i, none⟩ = false) := fun i => (hb8.frozen (p := ⟨w.heap.size + 1, i, none⟩) (show w.heap.size + 1 < w7.heap.size by omega)).trans (HF7.out i)
          have HB8 := Lib.hid (HB7.out.trans (hb8.mono (by omega)))
          have HS8 := Lib.hid (HS7.out.below hb8 (by omega))
          have HT8 := Lib.hid (HT7.out.below hb8 (by omega))
          clear g0 g1 g2 s0 s1 s2 s3 x0 x1 x2 x3 HC7 HL7 HF7 HB7 HG7 HS7 HT7 HRT7 hb8
          obtain ⟨s0, s1, s2, s3⟩ := id HS8.out
          obtain ⟨x0, x1, x2, x3⟩ := id HT8.out
          simp only [] at s0 s1 s2 s3 x0 x1 x2 x3
          have hbt8 : bt < wc.heap.size := by omega
          have hq8 : w.heap.size + 1 < wc.heap.size := by omega
          have HLI8 := Lib.hid (HL8.out.stIn (by omega))
          have HLQ1 : Hid (q1 = sk.rs.length) := HLI8.out.rs.1.symm
          have HLM2 : Hid (m2 = sk.ts.length) := HLI8.out.ts.1.symm
          have hq1m : q1 ≤ 1024 := by have := HR.out.rn; have := HLQ1.out; omega
          have hm2m : m2 ≤ 1000 := by have := HR.out.tn; have := HLM2.out; omega
          go_wp2_with fail
          go_loopg [13] q1 (fun gq i wv => ∃ j : Nat, j ≤ q1 ∧ q1 - j ≤ gq ∧ i = .int .i64 j ∧ Hid (Below wc.heap.size wc wv))
          case atStart => exact ⟨0, Nat.zero_le _, Nat.le_refl _, rfl, Below.refl _ _⟩
          case round =>
            obtain ⟨j, hj, hjg, rfl, HV⟩ := hrel
            have hzv2 := HV.out.size
            clear s0 s1 s2 s3 x0 x1 x2 x3
            obtain ⟨s0, s1, s2, s3⟩ := HS8.out.below HV.out (by omega)
            obtain ⟨x0, x1, x2, x3⟩ := HT8.out.below HV.out (by omega)
            simp only [] at s0 s1 s2 s3 x0 x1 x2 x3
            by_cases hlt2 : j < q1
            · obtain ⟨rb, ro, hb1, hrb, hcs⟩ := HLI8.out.rs.cells (by show 0 < q1; omega)
              obtain ⟨lb, hv1, _, hltl, hr, _⟩ := HC8.out.rs.at (by have := HKE.out.rn; have := HLQ1.out; omega)
              simp only [] at hb1 hv1
              have hjl : j < sk.rs.length := by have := HLQ1.out; omega
              have hkr := HKE.out.rob j hjl
              have ca := (HV.out.cell (p := ⟨rb, ro + j * 5, none⟩) hrb).trans (hcs j hlt2).1
              have cd := (HV.out.cell (p := ⟨rb, ro + j * 5 + 3, none⟩) hrb).trans (hcs j hlt2).2.2.2.1
              have da := (HV.out.cell (p := ⟨lb, j * 5, none⟩) hltl).trans (hr j (by have := HKE.out.rn; omega)).1
              have dd := (HV.out.cell (p := ⟨lb, j * 5 + 3, none⟩) hltl).trans (hr j (by have := HKE.out.rn; omega)).2.2.2.1
              rw [hkr.1] at da
              rw [hkr.2] at dd
              generalize (sk.rs.getD j zr).a = va at ca da
              generalize (sk.rs.getD j zr).d = vd at cd dd
              rw [hb1] at s1
              rw [hv1] at x1
              have hj0 : (0 : Int) ≤ (j : Int) := by omega
              have hj1 : (j : Int) < (q1 : Int) := by omega
              clear hcs hr hkr hb1 hv1 hjl
              go_wp2_with fail
              go_quiet (fail)
              have HV2 := Lib.hid (below_drewN HV.out nq)
              go_wp2_with fail
              go_roundg (q1 - (j + 1))
              case measure => omega
              case rel => exact ⟨j + 1, by omega, Nat.le_refl _, by go_num, HV2⟩
            · have hjq : ¬ (j : Int) < (q1 : Int) := by omega
              clear hlt2 hj
              go_wp2_with fail
              go_loopg [14] m2 (fun gm i wx => ∃ j : Nat, j ≤ m2 ∧ m2 - j ≤ gm ∧ i = .int .i64 j ∧ Hid (Below wc.heap.size wc wx))
              case atStart => exact ⟨0, Nat.zero_le _, Nat.le_refl _, rfl, HV⟩
              case round =>
                obtain ⟨j, hj, hjg2, rfl, HX8⟩ := hrel
                have hzx := HX8.out.size
                clear s0 s1 s2 s3 x0 x1 x2 x3
                obtain ⟨s0, s1, s2, s3⟩ := HS8.out.below HX8.out (by omega)
                obtain ⟨x0, x1, x2, x3⟩ := HT8.out.below HX8.out (by omega)
                simp only [] at s0 s1 s2 s3 x0 x1 x2 x3
                by_cases hlt3 : j < m2
                · obtain ⟨rb, ro, hb1, hrb, hcs⟩ := HLI8.out.ts.cells (by show 0 < m2; omega)
                  obtain ⟨lb, hv1, _, hltl, hr, _⟩ := HC8.out.ts.at (by have := HKE.out.tn; have := HLM2.out; omega)
                  simp only [] at hb1 hv1
                  have hjl : j < sk.ts.length := by have := HLM2.out; omega
                  have hjl2 : j < sn.ts.length := by have := HKE.out.tn; omega
                  have hkj := HKE.out.job j hjl
                  obtain ⟨c0, c1', c2', c3', c4'⟩ := (hcs j hlt3).below HX8.out hrb
                  obtain ⟨e0, e1', e2', e3', e4'⟩ := (hr j hjl2).below HX8.out hltl
                  have hq2 : q2 = sn.ts.length := HC8.out.n2
                  have hjq2 : (j : Int) < (q2 : Int) := by omega
                  obtain ⟨⟨ka, kb, kc⟩, kd⟩ := hkj
                  rw [ka] at e0
                  rw [kb] at e1'
                  rw [kc] at e2'
                  generalize (sk.ts.getD j zr).a = va at c0 e0
                  generalize (sk.ts.getD j zr).b = vb at c1' e1'
                  generalize (sk.ts.getD j zr).c = vc at c2' e2'
                  generalize (sk.ts.getD j zr).d = vd at c3' kd
                  generalize (sn.ts.getD j zr).d = vd' at e3' kd
                  generalize (sk.ts.getD j zr).e = ve at c4'
                  generalize (sn.ts.getD j zr).e = ve' at e4'
                  rw [hb1] at s2
                  rw [hv1] at x2
                  have hj0 : (0 : Int) ≤ (j : Int) := by omega
                  have hj1 : (j : Int) < (m2 : Int) := by omega
                  have hrbx : rb < wr.heap.size := by omega
                  have hlbx : lb < wr.heap.size := by omega
                  have hqx : w.heap.size + 1 < wr.heap.size := by omega
                  have hbtx : bt < wr.heap.size := by omega
                  have HXA := Lib.hid ((HX8.out.alloc (o := .cells #[.int .i64 va, .int .i64 vb, .int .i64 vc, .int .i64 vd, .int .i64 ve] 46) (by omega)).alloc (o := .cells #[.int .i64 va, .int .i64 vb, .int .i64 vc, .int .i64 vd', .int .i64 ve'] 46) (by simp; omega))
                  clear hcs hr hb1 hv1 hjl hjl2 ka kb kc hq2
                  rcases kd with rfl | ⟨rfl, rfl⟩
                  · go_wp2_with fail
                    go_roundg (m2 - (j + 1))
                    case measure => omega
                    case rel => exact ⟨j + 1, by omega, Nat.le_refl _, by go_num, HXA⟩
                  · go_wp2_with fail
                    go_roundg (m2 - (j + 1))
                    case measure => omega
                    case rel => exact ⟨j + 1, by omega, Nat.le_refl _, by go_num, HXA⟩
                · have hjm : ¬ (j : Int) < (m2 : Int) := by omega
                  clear hlt3 hj
                  have y0 := (HX8.out.frozen (p := ⟨w.heap.size + 1, 0, none⟩) (show w.heap.size + 1 < wc.heap.size by omega)).trans (HF8.out 0)
                  have y1 := (HX8.out.frozen (p := ⟨w.heap.size + 1, 1, none⟩) (show w.heap.size + 1 < wc.heap.size by omega)).trans (HF8.out 1)
                  have y2 := (HX8.out.frozen (p := ⟨w.heap.size + 1, 2, none⟩) (show w.heap.size + 1 < wc.heap.size by omega)).trans (HF8.out 2)
                  have y3 := (HX8.out.frozen (p := ⟨w.heap.size + 1, 3, none⟩) (show w.heap.size + 1 < wc.heap.size by omega)).trans (HF8.out 3)
                  have HCX := Lib.hid (HC8.out.calls HX8.out)
                  have HSF := Lib.hid (stAt_set4 s0 s1 s2 s3 ⟨t', v1, q1, f1, v2, q2, f2, v3, q3, f3⟩)
                  have HBF := Lib.hid (below_set4 (HB8.out.trans (HX8.out.mono (by omega))) (Nat.le_refl (w.heap.size + 1)) (.int .i64 t') (.slice v1 q1 f1) (.slice v2 q2 f2) (.slice v3 q3 f3))
                  have HCF := Lib.hid (copy_set4 HCX.out (show w.heap.size + 1 < w.heap.size + 1 + 1 by omega) (.int .i64 t') (.slice v1 q1 f1) (.slice v2 q2 f2) (.slice v3 q3 f3))
                  have HFF : Hid (∀ i, ((((wr.setCell ⟨w.heap.size + 1, 0, none⟩ (.int .i64 t')).setCell ⟨w.heap.size + 1, 1, none⟩ (.slice v1 q1 f1)).setCell ⟨w.heap.size + 1, 2, none⟩ (.slice v2 q2 f2)).setCell ⟨w.heap.size + 1, 3, none⟩ (.slice v3 q3 f3)).frozen? ⟨w.heap.size + 1, i, none⟩ = false) := fun i => by
                    rw [World.frozen?_setCell, World.frozen?_setCell, World.frozen?_setCell, World.frozen?_setCell]
                    exact (HX8.out.frozen (p := ⟨w.heap.size + 1, i, none⟩) (show w.heap.size + 1 < wc.heap.size by omega)).trans (HF8.out i)
                  have HZF : Hid (w.heap.size + 2 ≤ ((((wr.setCell ⟨w.heap.size + 1, 0, none⟩ (.int .i64 t')).setCell ⟨w.heap.size + 1, 1, none⟩ (.slice v1 q1 f1)).setCell ⟨w.heap.size + 1, 2, none⟩ (.slice v2 q2 f2)).setCell ⟨w.heap.size + 1, 3, none⟩ (.slice v3 q3 f3)).heap.size) := by
                    unfold Hid
                    simp [World.setCell]
                    omega
                  clear HC8 HL8 HF8 HB8 HS8 HT8 HV HLI8 HX8 HCX
                  go_wp2_with fail
                  go_roundg (n - (k + 1))
                  case measure => omega
                  case rel => exact ⟨k + 1, _, by omega, Nat.le_refl _, by go_num, HSF, HFF, .inr (by rw [HAD.out]; exact HCF.out), HBF, HZF.out⟩
    · have hkk : ¬ (k : Int) < (n : Int) := by omega
      have HBF := Lib.hid HBW.out
      clear hlt
      go_wp2_with fail
      go_ret
      exact ⟨rfl, HBF.out⟩
theorem inputKeeps_say (W H : Int) (g : ByteArray) (h : Sh) (s : St) (a : Option Addr) (n c : Nat) (l : List Inp) (w : World) (_ : (Lit.int .i64 W).wf = true) (_ : (Lit.int .i64 H).wf = true) (hg : g.size ≤ maxLen) (hi : IsSt w h s) (hl : RowI w w.heap.size a n c l) :
    Calls Try.prog 4 #[gridV W H g, shV h, .slice a n c] w fun e w' => e = .returned (.bool true) ∧ Below w.heap.size w w' :=
  inputKeeps_walk W H g h s a n c l w hg hi hl
end Go.Proofs.Ytlfgdalpaacccaa.Vm
