/- tuggerlaw07.CodecTells returns true for every input: a state and a record as bytes, and the state's check, as the document tells them. -/
import Derived.Test.YtdhaoacnedgogaaAwakeSeven
import Derived.Test.YtdhaoacnedgogaaRefCodP
import Derived.Test.YtdhaoacnedgogaaSames
namespace Go.Proofs.Ytdhaoacnedgogaa.Vm
open Go Go.RowKit

/-- What is told of a state, of a record: bytes, an error, a check. -/
noncomputable def zsS (s : St) : List Nat := @ite _ (CanS s) (Classical.propDecidable _) (encS s) []
noncomputable def erS (s : St) : Int := @ite _ (CanS s) (Classical.propDecidable _) 0 1
noncomputable def dgS (s : St) : Nat := @ite _ (CanS s) (Classical.propDecidable _) (crc (encS s)) 0
noncomputable def zsR (x : Rcd) : List Nat := @ite _ (CanR x) (Classical.propDecidable _) (encR x) []
noncomputable def erR (x : Rcd) : Int := @ite _ (CanR x) (Classical.propDecidable _) 0 1
theorem told_S {f : FuncId} {args : Array Value} {s : St} {w : World} (h : Calls Try.prog f args w fun e w' => ∃ v er, e = .returned (.tuple #[v, .int .i64 er]) ∧ (CanS s → er = 0 ∧ Own w' w.heap.size v (encS s)) ∧ (¬ CanS s → er = 1 ∧ v = .slice none 0 0) ∧ Below w.heap.size w w') :
    Calls Try.prog f args w fun e w' => ∃ a n c, n = (zsS s).length ∧ e = .returned (.tuple #[.slice a n c, .int .i64 (erS s)]) ∧ Row .u8 w' w'.heap.size a n c (zsS s) ∧ Below w.heap.size w w' :=
  h.mono fun e w' ⟨v, er, he, h1, h2, hb⟩ => by
    by_cases hc : CanS s
    · have e1 : zsS s = encS s := if_pos hc
      have e2 : erS s = 0 := if_pos hc
      rw [e1, e2]
      obtain ⟨rfl, ho⟩ := h1 hc
      obtain ⟨va, vc, rfl, _⟩ := ho.slice
      exact ⟨va, _, vc, rfl, he, ho.row, hb⟩
    · have e1 : zsS s = [] := if_neg hc
      have e2 : erS s = 1 := if_neg hc
      rw [e1, e2]
      obtain ⟨rfl, rfl⟩ := h2 hc
      exact ⟨none, 0, 0, rfl, he, Row.nil _ _, hb⟩
theorem told_R {f : FuncId} {args : Array Value} {x : Rcd} {w : World} (h : Calls Try.prog f args w fun e w' => ∃ v er, e = .returned (.tuple #[v, .int .i64 er]) ∧ (CanR x → er = 0 ∧ Own w' w.heap.size v (encR x)) ∧ (¬ CanR x → er = 1 ∧ v = .slice none 0 0) ∧ Below w.heap.size w w') :
    Calls Try.prog f args w fun e w' => ∃ a n c, n = (zsR x).length ∧ e = .returned (.tuple #[.slice a n c, .int .i64 (erR x)]) ∧ Row .u8 w' w'.heap.size a n c (zsR x) ∧ Below w.heap.size w w' :=
  h.mono fun e w' ⟨v, er, he, h1, h2, hb⟩ => by
    by_cases hc : CanR x
    · have e1 : zsR x = encR x := if_pos hc
      have e2 : erR x = 0 := if_pos hc
      rw [e1, e2]
      obtain ⟨rfl, ho⟩ := h1 hc
      obtain ⟨va, vc, rfl, _⟩ := ho.slice
      exact ⟨va, _, vc, rfl, he, ho.row, hb⟩
    · have e1 : zsR x = [] := if_neg hc
      have e2 : erR x = 1 := if_neg hc
      rw [e1, e2]
      obtain ⟨rfl, rfl⟩ := h2 hc
      exact ⟨none, 0, 0, rfl, he, Row.nil _ _, hb⟩
theorem told_D {f : FuncId} {args : Array Value} {s : St} {w : World} (h : Calls Try.prog f args w fun e w' => ∃ d : Nat, e = .returned (.int .u32 d) ∧ (CanS s → d = crc (encS s)) ∧ (¬ CanS s → d = 0) ∧ Below w.heap.size w w') :
    Calls Try.prog f args w fun e w' => e = .returned (.int .u32 (dgS s : Nat)) ∧ Below w.heap.size w w' :=
  h.mono fun e w' ⟨d, he, h1, h2, hb⟩ => by
    by_cases hc : CanS s
    · have e1 : dgS s = crc (encS s) := if_pos hc
      rw [e1, ← h1 hc]
      exact ⟨he, hb⟩
    · have e1 : dgS s = 0 := if_neg hc
      rw [e1, ← h2 hc]
      exact ⟨he, hb⟩

set_option maxRecDepth 100000 in
set_option maxHeartbeats 8000000 in
theorem codecTells_walk (h : Sh) (s : St) (r : Rh) (x : Rcd) (w : World) (hin : StIn w w.heap.size h s) (hir : RhIn w w.heap.size r x) (hwf : WfR x) :
    Calls Try.prog 3 #[shV h, rhV r] w fun e w' => e = .returned (.bool true) ∧ Below w.heap.size w w' := by
  have hb1 : Below w.heap.size w (w.alloc (shO h)) := (Below.refl _ _).alloc (Nat.le_refl _) _
  have hz1 : (w.alloc (shO h)).heap.size = w.heap.size + 1 := by simp
  obtain ⟨w2, hw2⟩ : ∃ w2, w2 = (w.alloc (shO h)).alloc (rhO r) := ⟨_, rfl⟩
  have hb2 : Below (w.alloc (shO h)).heap.size (w.alloc (shO h)) w2 := by rw [hw2]; exact (Below.refl _ _).alloc (Nat.le_refl _) _
  have hxs : BoxAt w2 w.heap.size #[.int .i64 h.t, .slice h.a1 h.n1 h.c1, .slice h.a2 h.n2 h.c2, .slice h.a3 h.n3 h.c3] 26 := (boxAt_new w _ _).calls hb2
  have hxr : BoxAt w2 (w.heap.size + 1) #[.int .i64 r.t, .slice r.a1 r.n1 r.c1, .slice r.a2 r.n2 r.c2, .slice r.a3 r.n3 r.c3, .int .u32 r.k] 31 := by rw [← hz1, hw2]; exact boxAt_new _ _ _
  have HB2 : Hid (Below w.heap.size w w2) := hb1.trans (hb2.mono (by omega))
  have HXS := Lib.hid hxs
  have HXR := Lib.hid hxr
  have HW : Hid ((w.alloc (shO h)).alloc (rhO r) = w2) := hw2.symm
  have HIN := Lib.hid hin
  have HIR := Lib.hid hir
  have HWF := Lib.hid hwf
  have hz2 : w.heap.size + 1 < w2.heap.size := by rw [hw2]; simp
  have HFW := Lib.hid fun (V : World) (hV : Below w.heap.size w V) => rfew_any h s V ((hin.below hV).mono hV.size)
  have HSM := Lib.hid fun (V : World) => rsmall_any r V
  have HNS := Lib.hid (show s.rs.length = h.n1 ∧ s.ts.length = h.n2 ∧ s.bl.length = h.n3 from ⟨hin.rs.1, hin.ts.1, hin.bl.1⟩)
  have HNR := Lib.hid (show x.ins.length = r.n1 ∧ x.ws.length = r.n3 from ⟨hir.ins.1, hir.ws.1⟩)
  clear hb1 hz1 hw2 hb2 hxs hxr hin hir hwf
  go_enter Try.func3, Try.ntmps3
  go_wp2_with fail
  rw [HW.out]
  refine (awake_any w2).mono ?_
  rintro e w3 ⟨rfl, hb3⟩
  have HB3 := Lib.hid (HB2.out.trans (hb3.mono HB2.out.size))
  have HXS3 := Lib.hid (HXS.out.calls hb3)
  have HXR3 := Lib.hid (HXR.out.calls hb3)
  have s0 := HXS3.out.cell (i := 0) rfl
  have s1 := HXS3.out.cell (i := 1) rfl
  have s2 := HXS3.out.cell (i := 2) rfl
  have s3 := HXS3.out.cell (i := 3) rfl
  have hz3 := hb3.size
  clear hb3 HW HXS HXR HB2
  go_wp2_with fail
  refine (HFW.out w3 HB3.out).mono ?_
  rintro e w4 ⟨rfl, hb4⟩
  have HB4 := Lib.hid (HB3.out.trans (hb4.mono HB3.out.size))
  have HXS4 := Lib.hid (HXS3.out.calls hb4)
  have HXR4 := Lib.hid (HXR3.out.calls hb4)
  have t0 := HXR4.out.cell (i := 0) rfl
  have t1 := HXR4.out.cell (i := 1) rfl
  have t2 := HXR4.out.cell (i := 2) rfl
  have t3 := HXR4.out.cell (i := 3) rfl
  have t4 := HXR4.out.cell (i := 4) rfl
  have hz4 := hb4.size
  clear hb4 HXS3 HXR3 HB3 s0 s1 s2 s3
  go_wp2_with fail
  refine (HSM.out w4).mono ?_
  rintro e w5 ⟨rfl, hb5⟩
  have HB5 := Lib.hid (HB4.out.trans (hb5.mono HB4.out.size))
  have HXS5 := Lib.hid (HXS4.out.calls hb5)
  have HXR5 := Lib.hid (HXR4.out.calls hb5)
  have hz5 := hb5.size
  clear hb5 HXS4 HXR4 HB4 t0 t1 t2 t3 t4
  by_cases hfew : FewS h
  · by_cases hsm : SmallR r
    · have hf1 : decide (FewS h) = true := decide_eq_true hfew
      have hf2 : decide (SmallR r) = true := decide_eq_true hsm
      rw [hf1, hf2]
      have HLS : Hid (s.rs.length ≤ 60 ∧ s.ts.length ≤ 60 ∧ s.bl.length ≤ 60) := by
        obtain ⟨e1, e2, e3⟩ := HNS.out
        obtain ⟨f1, f2, f3⟩ := hfew
        exact ⟨by omega, by omega, by omega⟩
      have HLR : Hid (x.ins.length ≤ 60 ∧ x.ws.length ≤ 1000) := by
        obtain ⟨e1, e3⟩ := HNR.out
        obtain ⟨f1, f2, f3⟩ := hsm
        exact ⟨by omega, by omega⟩
      clear hf1 hf2 hfew hsm
      have s0 := HXS5.out.cell (i := 0) rfl
      have s1 := HXS5.out.cell (i := 1) rfl
      have s2 := HXS5.out.cell (i := 2) rfl
      have s3 := HXS5.out.cell (i := 3) rfl
      go_wp2_with fail
      refine (told_S (codS_any h s w5 ((HIN.out.below HB5.out).mono HB5.out.size) (by have := HLS.out; omega))).mono ?_
      rintro e w6 ⟨a6, n6, c6, hn6, rfl, hrow, hb⟩
      have HB6 := Lib.hid (HB5.out.trans (hb.mono HB5.out.size))
      have HXS6 := Lib.hid (HXS5.out.calls hb)
      have HXR6 := Lib.hid (HXR5.out.calls hb)
      have HR6 := Lib.hid hrow
      have HL6 := Lib.hid hn6
      clear hrow hb hn6 s0 s1 s2 s3
      have s0 := HXS6.out.cell (i := 0) rfl
      have s1 := HXS6.out.cell (i := 1) rfl
      have s2 := HXS6.out.cell (i := 2) rfl
      have s3 := HXS6.out.cell (i := 3) rfl
      go_wp2_with fail
      refine (told_S (rcodS_any h s w6 ((HIN.out.below HB6.out).mono HB6.out.size) (by have := HLS.out; omega))).mono ?_
      rintro e w7 ⟨a7, n7, c7, hn7, rfl, hrow, hb⟩
      have HB7 := Lib.hid (HB6.out.trans (hb.mono HB6.out.size))
      have HXS7 := Lib.hid (HXS6.out.calls hb)
      have HXR7 := Lib.hid (HXR6.out.calls hb)
      have HR7 := Lib.hid hrow
      have HL7 := Lib.hid hn7
      have HR6 := Lib.hid (((HR6.out).below hb).mono hb.size)
      clear hrow hb hn7 s0 s1 s2 s3
      have s0 := HXR7.out.cell (i := 0) rfl
      have s1 := HXR7.out.cell (i := 1) rfl
      have s2 := HXR7.out.cell (i := 2) rfl
      have s3 := HXR7.out.cell (i := 3) rfl
      have s4 := HXR7.out.cell (i := 4) rfl
      go_wp2_with fail
      refine (told_R (codP_any r x w7 ((HIR.out.below HB7.out).mono HB7.out.size) HWF.out (by have := HLR.out; have := runs_len x.ws; omega))).mono ?_
      rintro e w8 ⟨a8, n8, c8, hn8, rfl, hrow, hb⟩
      have HB8 := Lib.hid (HB7.out.trans (hb.mono HB7.out.size))
      have HXS8 := Lib.hid (HXS7.out.calls hb)
      have HXR8 := Lib.hid (HXR7.out.calls hb)
      have HR8 := Lib.hid hrow
      have HL8 := Lib.hid hn8
      have HR6 := Lib.hid (((HR6.out).below hb).mono hb.size)
      have HR7 := Lib.hid (((HR7.out).below hb).mono hb.size)
      clear hrow hb hn8 s0 s1 s2 s3 s4
      have s0 := HXR8.out.cell (i := 0) rfl
      have s1 := HXR8.out.cell (i := 1) rfl
      have s2 := HXR8.out.cell (i := 2) rfl
      have s3 := HXR8.out.cell (i := 3) rfl
      have s4 := HXR8.out.cell (i := 4) rfl
      go_wp2_with fail
      refine (told_R (rcodP_any r x w8 ((HIR.out.below HB8.out).mono HB8.out.size) HWF.out (by have := HLR.out; omega))).mono ?_
      rintro e w9 ⟨a9, n9, c9, hn9, rfl, hrow, hb⟩
      have HB9 := Lib.hid (HB8.out.trans (hb.mono HB8.out.size))
      have HXS9 := Lib.hid (HXS8.out.calls hb)
      have HXR9 := Lib.hid (HXR8.out.calls hb)
      have HR9 := Lib.hid hrow
      have HL9 := Lib.hid hn9
      have HR6 := Lib.hid (((HR6.out).below hb).mono hb.size)
      have HR7 := Lib.hid (((HR7.out).below hb).mono hb.size)
      have HR8 := Lib.hid (((HR8.out).below hb).mono hb.size)
      clear hrow hb hn9 s0 s1 s2 s3 s4
      have hq1 := HL7.out
      rw [← HL6.out] at hq1
      have hq2 := HL9.out
      rw [← HL8.out] at hq2
      have HSA := Lib.hid (same_any a6 a7 n6 c6 n7 c7 w9.heap.size (zsS s) (zsS s) w9 HR6.out HR7.out)
      rw [show sameB (zsS s) (zsS s) = true from by unfold sameB; exact decide_eq_true rfl] at HSA
      clear hq1 hq2
      go_wp2_with fail
      refine HSA.out.mono ?_
      rintro e wA ⟨rfl, mm, hV⟩
      have hbA : Below w9.heap.size w9 wA := by rw [hV]; exact below_drewN (Below.refl _ _) mm
      have HBA := Lib.hid (HB9.out.trans (hbA.mono HB9.out.size))
      have HSB := Lib.hid (same_any a8 a9 n8 c8 n9 c9 w9.heap.size (zsR x) (zsR x) wA (HR8.out.below hbA) (HR9.out.below hbA))
      rw [show sameB (zsR x) (zsR x) = true from by unfold sameB; exact decide_eq_true rfl] at HSB
      have HXSA := Lib.hid (HXS9.out.calls hbA)
      clear hbA hV HSA
      go_wp2_with fail
      refine HSB.out.mono ?_
      rintro e wZ ⟨rfl, mk, hV⟩
      have hbZ : Below wA.heap.size wA wZ := by rw [hV]; exact below_drewN (Below.refl _ _) mk
      have HBZ := Lib.hid (HBA.out.trans (hbZ.mono HBA.out.size))
      have HXs := Lib.hid (HXSA.out.calls hbZ)
      clear hbZ hV HSB
      have HD1 : Hid (∀ V, Kept wZ V → Calls Try.prog 15 #[shV h] V fun e w' => e = .returned (.int .u32 (dgS s : Nat)) ∧ Kept wZ w') := fun V hV =>
        (told_D (digest_any h s V (((HIN.out.below HBZ.out).below (Below.mono hV HBZ.out.size)).mono (Nat.le_trans HBZ.out.size hV.size)) (by have := HLS.out; omega))).mono fun e w' ⟨he, hb⟩ => ⟨he, Below.trans hV (hb.mono hV.size)⟩
      have HD2 : Hid (∀ V, Kept wZ V → Calls Try.prog 16 #[shV h] V fun e w' => e = .returned (.int .u32 (dgS s : Nat)) ∧ Kept wZ w') := fun V hV =>
        (told_D (rdigest_any h s V (((HIN.out.below HBZ.out).below (Below.mono hV HBZ.out.size)).mono (Nat.le_trans HBZ.out.size hV.size)) (by have := HLS.out; omega))).mono fun e w' ⟨he, hb⟩ => ⟨he, Below.trans hV (hb.mono hV.size)⟩
      have HKS : Hid (∀ V, Kept wZ V → Kept wZ V ∧ V.cell? ⟨w.heap.size, 0, none⟩ = some (.int .i64 h.t) ∧ V.cell? ⟨w.heap.size, 1, none⟩ = some (.slice h.a1 h.n1 h.c1) ∧ V.cell? ⟨w.heap.size, 2, none⟩ = some (.slice h.a2 h.n2 h.c2) ∧ V.cell? ⟨w.heap.size, 3, none⟩ = some (.slice h.a3 h.n3 h.c3)) := fun V hV =>
        ⟨hV, (HXs.out.calls hV).cell (i := 0) rfl, (HXs.out.calls hV).cell (i := 1) rfl, (HXs.out.calls hV).cell (i := 2) rfl, (HXs.out.calls hV).cell (i := 3) rfl⟩
      have k0 : Kept wZ wZ := Kept.refl _
      obtain ⟨ee, hee⟩ : ∃ ee, erS s = ee := ⟨_, rfl⟩
      obtain ⟨ff, hff⟩ : ∃ ff, erR x = ff := ⟨_, rfl⟩
      obtain ⟨dd, hdd⟩ : ∃ dd, dgS s = dd := ⟨_, rfl⟩
      rw [hdd] at HD1 HD2
      rw [hee, hff]
      clear hee hff hdd
      go_wp2_with fail
      go_region_held3 (fun V => Kept wZ V ∧ V.cell? ⟨w.heap.size, 0, none⟩ = some (.int .i64 h.t) ∧ V.cell? ⟨w.heap.size, 1, none⟩ = some (.slice h.a1 h.n1 h.c1) ∧ V.cell? ⟨w.heap.size, 2, none⟩ = some (.slice h.a2 h.n2 h.c2) ∧ V.cell? ⟨w.heap.size, 3, none⟩ = some (.slice h.a3 h.n3 h.c3))
        (first | exact HKS.out _ (by assumption) | exact HKS.out _ (Kept.drew (by assumption)))
        (first
          | (go_at_call 15; refine (HD1.out _ (by first | assumption | exact Kept.drew (by assumption))).mono ?_; rintro e V1 ⟨rfl, k1⟩)
          | (go_at_call 16; refine (HD2.out _ (by first | assumption | exact Kept.drew (by assumption))).mono ?_; rintro e V2 ⟨rfl, k2⟩))
      go_wp2_with fail
      go_ret
      exact ⟨rfl, HBZ.out.trans (Below.mono k2 HBZ.out.size)⟩
    · have hf2 : decide (SmallR r) = false := decide_eq_false hsm
      have hf1 : decide (FewS h) = true := decide_eq_true hfew
      rw [hf1, hf2]
      clear hf1 hf2 hfew hsm
      go_wp2_with fail
      go_ret
      exact ⟨rfl, HB5.out⟩
  · have hf1 : decide (FewS h) = false := decide_eq_false hfew
    rw [hf1]
    clear hf1 hfew
    go_wp2_with fail
    go_ret
    exact ⟨rfl, HB5.out⟩
end Go.Proofs.Ytdhaoacnedgogaa.Vm
