/- tuggerlaw07.CodecBack returns true for every input: what was laid is read. -/
import Derived.Test.YtdhaoacnedgogaaAwakeSeven
namespace Go.Proofs.Ytdhaoacnedgogaa.Vm
open Go Go.RowKit

theorem encS_le60 {s : St} (hc : CanS s) (h : s.rs.length ≤ 60 ∧ s.ts.length ≤ 60 ∧ s.bl.length ≤ 60) : (encS s).length ≤ 90000 := by
  have ht := hc.tick
  have h0 := encI_len s.tick (by omega)
  have h1 := flat_le (f := encRob) (n := 50) (rs := s.rs) (fun r hr => encRob_le (hc.rob r hr))
  have h2 := flat_le (f := encJob) (n := 50) (rs := s.ts) (fun r hr => encJob_le (hc.job r hr))
  have h3 := encG_le s.bl (-1) (by omega) hc.up
  have l1 := (enc_len64 (n := s.rs.length) (by omega)).2
  have l2 := (enc_len64 (n := s.ts.length) (by omega)).2
  have l3 := (enc_len64 (n := s.bl.length) (by omega)).2
  unfold encS
  simp only [List.length_append]
  omega
theorem puts_le : ∀ {ps : List (Inp × Int)}, (∀ p ∈ ps, PutIn p) → (ps.flatMap encPut).length ≤ 50 * ps.length
  | [], _ => by simp
  | p :: q, h => by
    have h1 := puts_le (ps := q) (fun x hx => h x (by simp [hx]))
    obtain ⟨⟨a, b, c, d⟩, e⟩ := h p (by simp)
    have a1 := encZ_len a
    have b1 := encZ_len b
    have c1 := encZ_len c
    have d1 := encZ_len d
    have e1 := encI_len p.2 (by omega)
    have h2 : (encPut p).length ≤ 50 := by
      unfold encPut
      simp only [List.length_append]
      omega
    rw [List.flatMap_cons, List.length_append, List.length_cons, Nat.mul_succ]
    omega
theorem encR_le60 {x : Rcd} (hc : CanR x) (hw : WfR x) (h : x.ins.length ≤ 60 ∧ x.ws.length ≤ 1000) : (encR x).length ≤ 90000 := by
  have hok : OkR x := ⟨hc, hw, by omega⟩
  have ht := hc.tick
  have hk := hw.ck
  have hr := runs_len x.ws
  have h0 := encI_len x.tick (by omega)
  have h9 := encI_len x.ck (by omega)
  have h1 := puts_le hok.puts
  have h2 := encRuns_le (l := runs x.ws) (fun p hp => by
    obtain ⟨a, b, c, d⟩ := runs_ok hok.wok p hp
    exact ⟨b, by omega⟩)
  have l1 := (enc_len64 (n := x.ins.length) (by omega)).2
  have l2 := (enc_len64 (n := (runs x.ws).length) (by omega)).2
  have hz := hok.zl
  unfold encR
  simp only [List.length_append]
  omega
theorem readBackS (va : Option Addr) (n vc B : Nat) (s : St) (w : World) (hc : CanS s) (hl : s.rs.length ≤ 60 ∧ s.ts.length ≤ 60 ∧ s.bl.length ≤ 60) (hn : (encS s).length = n) (ho : Own w B (.slice va n vc) (encS s)) :
    Calls Try.prog 17 #[.slice va n vc] w fun e w' => ∃ h', e = .returned (.tuple #[shV h', .int .i64 0]) ∧ CopyIn w' w.heap.size h' s ∧ Below w.heap.size w w' := by
  have hrow := ho.row
  exact (readState_any va n vc (encS s) w hrow (encS_byte s) (by have := encS_le60 hc hl; omega)).mono fun e w' ⟨h', er, he, hd, hb⟩ => by
    rcases hd with ⟨rfl, s', hs, h1, h2⟩ | ⟨_, _, hno⟩
    · rw [encS_inj hs hc h1] at h2
      exact ⟨h', he, h2, hb⟩
    · exact absurd ⟨s, hc, rfl⟩ hno
theorem readBackR (va : Option Addr) (n vc B : Nat) (x : Rcd) (w : World) (hc : CanR x) (hw : WfR x) (hl : x.ins.length ≤ 60 ∧ x.ws.length ≤ 1000) (hn : (encR x).length = n) (ho : Own w B (.slice va n vc) (encR x)) :
    Calls Try.prog 19 #[.slice va n vc] w fun e w' => ∃ h', e = .returned (.tuple #[rhV h', .int .i64 0]) ∧ RCopy w' w.heap.size h' x ∧ Below w.heap.size w w' := by
  have hrow := ho.row
  have hok : OkR x := ⟨hc, hw, by omega⟩
  have hle := encR_le60 hc hw hl
  exact (readRecord_any va n vc (encR x) w hrow (encR_byte x) (by omega)).mono fun e w' ⟨h', er, he, hd, hb⟩ => by
    rcases hd with ⟨rfl, x', hx, h1, h2⟩ | ⟨_, _, hno⟩
    · rw [encR_one hx hok (by rw [h1]; omega) h1] at h2
      exact ⟨h', he, h2, hb⟩
    · exact absurd ⟨x, hok, rfl⟩ hno

set_option maxRecDepth 100000 in
set_option maxHeartbeats 8000000 in
theorem codecBack_walk (h : Sh) (s : St) (r : Rh) (x : Rcd) (w : World) (hin : StIn w w.heap.size h s) (hir : RhIn w w.heap.size r x) (hwf : WfR x) :
    Calls Try.prog 5 #[shV h, rhV r] w fun e w' => e = .returned (.bool true) ∧ Below w.heap.size w w' := by
  have hb1 : Below w.heap.size w (w.alloc (shO h)) := (Below.refl _ _).alloc (Nat.le_refl _) _
  have hz1 : (w.alloc (shO h)).heap.size = w.heap.size + 1 := by simp
  obtain ⟨w2, hw2⟩ : ∃ w2, w2 = (w.alloc (shO h)).alloc (rhO r) := ⟨_, rfl⟩
  have hb2 : Below (w.alloc (shO h)).heap.size (w.alloc (shO h)) w2 := by rw [hw2]; exact (Below.refl _ _).alloc (Nat.le_refl _) _
  have hxs : BoxAt w2 w.heap.size #[.int .i64 h.t, .slice h.a1 h.n1 h.c1, .slice h.a2 h.n2 h.c2, .slice h.a3 h.n3 h.c3] 26 := (boxAt_new w _ _).calls hb2
  have hxr : BoxAt w2 (w.heap.size + 1) #[.int .i64 r.t, .slice r.a1 r.n1 r.c1, .slice r.a2 r.n2 r.c2, .slice r.a3 r.n3 r.c3, .int .u32 r.k] 31 := by rw [← hz1, hw2]; exact boxAt_new _ _ _
  have HB2 : Hid (Below w.heap.size w w2) := hb1.trans (hb2.mono (by omega))
  have HXS := Lib.hid hxs
  have HXR := Lib.hid hxr
  have HW : Hid ((w.alloc (shO h)).alloc (rhO r) = w2) := hw2.symm
  have HIN := Lib.hid hin
  have HIR := Lib.hid hir
  have HWF := Lib.hid hwf
  have hz2 : w.heap.size + 1 < w2.heap.size := by rw [hw2]; simp
  have HFW := Lib.hid fun (V : World) (hV : Below w.heap.size w V) => rfew_any h s V ((hin.below hV).mono hV.size)
  have HSM := Lib.hid fun (V : World) => rsmall_any r V
  have HNS := Lib.hid (show s.rs.length = h.n1 ∧ s.ts.length = h.n2 ∧ s.bl.length = h.n3 from ⟨hin.rs.1, hin.ts.1, hin.bl.1⟩)
  have HNR := Lib.hid (show x.ins.length = r.n1 ∧ x.ws.length = r.n3 from ⟨hir.ins.1, hir.ws.1⟩)
  clear hb1 hz1 hw2 hb2 hxs hxr hin hir hwf
  go_enter Try.func5, Try.ntmps5
  go_wp2_with fail
  rw [HW.out]
  refine (awake_any w2).mono ?_
  rintro e w3 ⟨rfl, hb3⟩
  have HB3 := Lib.hid (HB2.out.trans (hb3.mono HB2.out.size))
  have HXS3 := Lib.hid (HXS.out.calls hb3)
  have HXR3 := Lib.hid (HXR.out.calls hb3)
  have s0 := HXS3.out.cell (i := 0) rfl
  have s1 := HXS3.out.cell (i := 1) rfl
  have s2 := HXS3.out.cell (i := 2) rfl
  have s3 := HXS3.out.cell (i := 3) rfl
  have hz3 := hb3.size
  clear hb3 HW HXS HXR HB2
  go_wp2_with fail
  refine (HFW.out w3 HB3.out).mono ?_
  rintro e w4 ⟨rfl, hb4⟩
  have HB4 := Lib.hid (HB3.out.trans (hb4.mono HB3.out.size))
  have HXS4 := Lib.hid (HXS3.out.calls hb4)
  have HXR4 := Lib.hid (HXR3.out.calls hb4)
  have t0 := HXR4.out.cell (i := 0) rfl
  have t1 := HXR4.out.cell (i := 1) rfl
  have t2 := HXR4.out.cell (i := 2) rfl
  have t3 := HXR4.out.cell (i := 3) rfl
  have t4 := HXR4.out.cell (i := 4) rfl
  have hz4 := hb4.size
  clear hb4 HXS3 HXR3 HB3 s0 s1 s2 s3
  go_wp2_with fail
  refine (HSM.out w4).mono ?_
  rintro e w5 ⟨rfl, hb5⟩
  have HB5 := Lib.hid (HB4.out.trans (hb5.mono HB4.out.size))
  have HXS5 := Lib.hid (HXS4.out.calls hb5)
  have HXR5 := Lib.hid (HXR4.out.calls hb5)
  have hz5 := hb5.size
  clear hb5 HXS4 HXR4 HB4 t0 t1 t2 t3 t4
  by_cases hfew : FewS h
  · by_cases hsm : SmallR r
    · have hf1 : decide (FewS h) = true := decide_eq_true hfew
      have hf2 : decide (SmallR r) = true := decide_eq_true hsm
      rw [hf1, hf2]
      have HLS : Hid (s.rs.length ≤ 60 ∧ s.ts.length ≤ 60 ∧ s.bl.length ≤ 60) := by
        obtain ⟨e1, e2, e3⟩ := HNS.out
        obtain ⟨f1, f2, f3⟩ := hfew
        exact ⟨by omega, by omega, by omega⟩
      have HLR : Hid (x.ins.length ≤ 60 ∧ x.ws.length ≤ 1000) := by
        obtain ⟨e1, e3⟩ := HNR.out
        obtain ⟨f1, f2, f3⟩ := hsm
        exact ⟨by omega, by omega⟩
      clear hf1 hf2 hfew hsm
      have s0 := HXS5.out.cell (i := 0) rfl
      have s1 := HXS5.out.cell (i := 1) rfl
      have s2 := HXS5.out.cell (i := 2) rfl
      have s3 := HXS5.out.cell (i := 3) rfl
      go_wp2_with fail
      refine (codS_any h s w5 ((HIN.out.below HB5.out).mono HB5.out.size) (by have := HLS.out; omega)).mono ?_
      rintro e w6 ⟨v, er, rfl, h1, h2, hb6⟩
      have HB6 := Lib.hid (HB5.out.trans (hb6.mono HB5.out.size))
      have HXS6 := Lib.hid (HXS5.out.calls hb6)
      have HXR6 := Lib.hid (HXR5.out.calls hb6)
      have HCP := Lib.hid (codP_any r x w6 ((HIR.out.below HB6.out).mono HB6.out.size) HWF.out (by have := HLR.out; have := runs_len x.ws; omega))
      have hz6 := hb6.size
      have t0 := HXR6.out.cell (i := 0) rfl
      have t1 := HXR6.out.cell (i := 1) rfl
      have t2 := HXR6.out.cell (i := 2) rfl
      have t3 := HXR6.out.cell (i := 3) rfl
      have t4 := HXR6.out.cell (i := 4) rfl
      clear hb6 HXS5 HXR5 HB5 s0 s1 s2 s3
      by_cases hcs : CanS s
      · obtain ⟨rfl, ho⟩ := h1 hcs
        obtain ⟨va, vc, rfl, _⟩ := ho.slice
        obtain ⟨ns, hns⟩ : ∃ ns, (encS s).length = ns := ⟨_, rfl⟩
        have HNL := Lib.hid hns
        rw [hns] at ho ⊢
        have HO := Lib.hid ho
        have HCS := Lib.hid hcs
        clear h1 h2 hcs ho hns
        go_wp2_with fail
        refine HCP.out.mono ?_
        rintro e w7 ⟨v2, er2, rfl, g1, g2, hb7⟩
        have HB7 := Lib.hid (HB6.out.trans (hb7.mono HB6.out.size))
        have HXS7 := Lib.hid (HXS6.out.calls hb7)
        have HXR7 := Lib.hid (HXR6.out.calls hb7)
        have HOC := Lib.hid (HO.out.calls hb7)
        have hz7 := hb7.size
        clear HXS6 HXR6 HB6 t0 t1 t2 t3 t4 HCP
        by_cases hcr : CanR x
        · obtain ⟨rfl, ho⟩ := g1 hcr
          obtain ⟨vb, vd, rfl, _⟩ := ho.slice
          obtain ⟨nr, hnr⟩ : ∃ nr, (encR x).length = nr := ⟨_, rfl⟩
          have HNQ := Lib.hid hnr
          rw [hnr] at ho ⊢
          have HOR := Lib.hid ho
          have HCR := Lib.hid hcr
          clear g1 g2 hcr ho hnr hb7
          go_wp2_with fail
          refine (readBackS va ns vc _ s w7 HCS.out HLS.out HNL.out HOC.out).mono ?_
          rintro e w8 ⟨ht, rfl, hct, hb8⟩
          have hba : Below w8.heap.size w8 (w8.alloc (shO ht)) := (Below.refl _ _).alloc (Nat.le_refl _) _
          have hbt : Below w7.heap.size w7 (w8.alloc (shO ht)) := hb8.trans (hba.mono hb8.size)
          have HB9 := Lib.hid (HB7.out.trans (hbt.mono HB7.out.size))
          have HXS9 := Lib.hid (HXS7.out.calls hbt)
          have HCT9 := Lib.hid (hct.calls hba)
          have HBT := Lib.hid hbt
          have hxy : BoxAt (w8.alloc (shO ht)) w8.heap.size #[.int .i64 ht.t, .slice ht.a1 ht.n1 ht.c1, .slice ht.a2 ht.n2 ht.c2, .slice ht.a3 ht.n3 ht.c3] 26 := boxAt_new _ _ _
          have s0 := HXS9.out.cell (i := 0) rfl
          have s1 := HXS9.out.cell (i := 1) rfl
          have s2 := HXS9.out.cell (i := 2) rfl
          have s3 := HXS9.out.cell (i := 3) rfl
          have t0 := hxy.cell (i := 0) rfl
          have t1 := hxy.cell (i := 1) rfl
          have t2 := hxy.cell (i := 2) rfl
          have t3 := hxy.cell (i := 3) rfl
          clear hct hb8 hba hbt hxy
          go_wp2_with fail
          refine (rstSame_any h ht s s _ _ ((HIN.out.below HB9.out).mono HB9.out.size) HCT9.out.stIn (Nat.le_refl _)).mono ?_
          rw [show sameSt s s = true from sameSt_all rfl rfl rfl rfl]
          rintro e wm ⟨rfl, hbm⟩
          have HBM := Lib.hid (HB9.out.trans (hbm.mono HB9.out.size))
          have HBK : Hid (Below w7.heap.size w7 wm) := HBT.out.trans (hbm.mono HBT.out.size)
          have HXRm := Lib.hid (HXR7.out.calls HBK.out)
          clear hbm s0 s1 s2 s3 t0 t1 t2 t3
          go_wp2_with fail
          refine (readBackR vb nr vd _ x wm HCR.out HWF.out HLR.out HNQ.out (HOR.out.calls HBK.out)).mono ?_
          rintro e wn ⟨hy, rfl, hcy, hbn⟩
          have hba : Below wn.heap.size wn (wn.alloc (rhO hy)) := (Below.refl _ _).alloc (Nat.le_refl _) _
          have hbt : Below wm.heap.size wm (wn.alloc (rhO hy)) := hbn.trans (hba.mono hbn.size)
          have HBN := Lib.hid (HBM.out.trans (hbt.mono HBM.out.size))
          have HXRn := Lib.hid (HXRm.out.calls hbt)
          have HCYn := Lib.hid (hcy.calls hba)
          have hxy : BoxAt (wn.alloc (rhO hy)) wn.heap.size #[.int .i64 hy.t, .slice hy.a1 hy.n1 hy.c1, .slice hy.a2 hy.n2 hy.c2, .slice hy.a3 hy.n3 hy.c3, .int .u32 hy.k] 31 := boxAt_new _ _ _
          have s0 := HXRn.out.cell (i := 0) rfl
          have s1 := HXRn.out.cell (i := 1) rfl
          have s2 := HXRn.out.cell (i := 2) rfl
          have s3 := HXRn.out.cell (i := 3) rfl
          have s4 := HXRn.out.cell (i := 4) rfl
          have t0 := hxy.cell (i := 0) rfl
          have t1 := hxy.cell (i := 1) rfl
          have t2 := hxy.cell (i := 2) rfl
          have t3 := hxy.cell (i := 3) rfl
          have t4 := hxy.cell (i := 4) rfl
          clear hcy hbn hba hbt hxy
          go_wp2_with fail
          refine (rlike_any r hy x x _ _ ((HIR.out.below HBN.out).mono HBN.out.size) HCYn.out.rhIn (Nat.le_refl _)).mono ?_
          rintro e wo ⟨bl, rfl, hbl, hbo⟩
          obtain rfl : bl = true := hbl.2 rfl
          have HBO := Lib.hid (HBN.out.trans (hbo.mono HBN.out.size))
          clear hbl hbo s0 s1 s2 s3 s4 t0 t1 t2 t3 t4
          go_wp2_with fail
          go_ret
          exact ⟨rfl, HBO.out⟩
        · obtain ⟨rfl, rfl⟩ := g2 hcr
          have h1y : ((1 : Int) == 0) = false := by decide
          clear g1 g2 hcr hb7
          go_wp2_with fail
          refine (readBackS va ns vc _ s w7 HCS.out HLS.out HNL.out HOC.out).mono ?_
          rintro e w8 ⟨ht, rfl, hct, hb8⟩
          have hba : Below w8.heap.size w8 (w8.alloc (shO ht)) := (Below.refl _ _).alloc (Nat.le_refl _) _
          have hbt : Below w7.heap.size w7 (w8.alloc (shO ht)) := hb8.trans (hba.mono hb8.size)
          have HB9 := Lib.hid (HB7.out.trans (hbt.mono HB7.out.size))
          have HXS9 := Lib.hid (HXS7.out.calls hbt)
          have HCT9 := Lib.hid (hct.calls hba)
          have HBT := Lib.hid hbt
          have hxy : BoxAt (w8.alloc (shO ht)) w8.heap.size #[.int .i64 ht.t, .slice ht.a1 ht.n1 ht.c1, .slice ht.a2 ht.n2 ht.c2, .slice ht.a3 ht.n3 ht.c3] 26 := boxAt_new _ _ _
          have s0 := HXS9.out.cell (i := 0) rfl
          have s1 := HXS9.out.cell (i := 1) rfl
          have s2 := HXS9.out.cell (i := 2) rfl
          have s3 := HXS9.out.cell (i := 3) rfl
          have t0 := hxy.cell (i := 0) rfl
          have t1 := hxy.cell (i := 1) rfl
          have t2 := hxy.cell (i := 2) rfl
          have t3 := hxy.cell (i := 3) rfl
          clear hct hb8 hba hbt hxy
          go_wp2_with fail
          refine (rstSame_any h ht s s _ _ ((HIN.out.below HB9.out).mono HB9.out.size) HCT9.out.stIn (Nat.le_refl _)).mono ?_
          rw [show sameSt s s = true from sameSt_all rfl rfl rfl rfl]
          rintro e wm ⟨rfl, hbm⟩
          have HBM := Lib.hid (HB9.out.trans (hbm.mono HB9.out.size))
          have HBK : Hid (Below w7.heap.size w7 wm) := HBT.out.trans (hbm.mono HBT.out.size)
          have HXRm := Lib.hid (HXR7.out.calls HBK.out)
          clear hbm s0 s1 s2 s3 t0 t1 t2 t3
          go_wp2_with fail
          go_ret
          exact ⟨rfl, HBM.out⟩
      · obtain ⟨rfl, rfl⟩ := h2 hcs
        clear h1 h2 hcs
        have h1x : ((1 : Int) == 0) = false := by decide
        go_wp2_with fail
        refine HCP.out.mono ?_
        rintro e w7 ⟨v2, er2, rfl, g1, g2, hb7⟩
        have HB7 := Lib.hid (HB6.out.trans (hb7.mono HB6.out.size))
        have HXS7 := Lib.hid (HXS6.out.calls hb7)
        have HXR7 := Lib.hid (HXR6.out.calls hb7)
        have hz7 := hb7.size
        clear HXS6 HXR6 HB6 t0 t1 t2 t3 t4 HCP
        by_cases hcr : CanR x
        · obtain ⟨rfl, ho⟩ := g1 hcr
          obtain ⟨vb, vd, rfl, _⟩ := ho.slice
          obtain ⟨nr, hnr⟩ : ∃ nr, (encR x).length = nr := ⟨_, rfl⟩
          have HNQ := Lib.hid hnr
          rw [hnr] at ho ⊢
          have HOR := Lib.hid ho
          have HCR := Lib.hid hcr
          clear g1 g2 hcr ho hnr hb7
          obtain ⟨wm, hwm⟩ : ∃ wm, wm = w7 := ⟨_, rfl⟩
          have HBM : Hid (Below w.heap.size w wm) := by rw [hwm]; exact HB7.out
          have HBK : Hid (Below w7.heap.size w7 wm) := by rw [hwm]; exact Below.refl _ _
          have HXRm := Lib.hid (HXR7.out.calls HBK.out)
          have HWM : Hid (w7 = wm) := hwm.symm
          clear hwm
          go_wp2_with fail
          rw [HWM.out]
          refine (readBackR vb nr vd _ x wm HCR.out HWF.out HLR.out HNQ.out (HOR.out.calls HBK.out)).mono ?_
          rintro e wn ⟨hy, rfl, hcy, hbn⟩
          have hba : Below wn.heap.size wn (wn.alloc (rhO hy)) := (Below.refl _ _).alloc (Nat.le_refl _) _
          have hbt : Below wm.heap.size wm (wn.alloc (rhO hy)) := hbn.trans (hba.mono hbn.size)
          have HBN := Lib.hid (HBM.out.trans (hbt.mono HBM.out.size))
          have HXRn := Lib.hid (HXRm.out.calls hbt)
          have HCYn := Lib.hid (hcy.calls hba)
          have hxy : BoxAt (wn.alloc (rhO hy)) wn.heap.size #[.int .i64 hy.t, .slice hy.a1 hy.n1 hy.c1, .slice hy.a2 hy.n2 hy.c2, .slice hy.a3 hy.n3 hy.c3, .int .u32 hy.k] 31 := boxAt_new _ _ _
          have s0 := HXRn.out.cell (i := 0) rfl
          have s1 := HXRn.out.cell (i := 1) rfl
          have s2 := HXRn.out.cell (i := 2) rfl
          have s3 := HXRn.out.cell (i := 3) rfl
          have s4 := HXRn.out.cell (i := 4) rfl
          have t0 := hxy.cell (i := 0) rfl
          have t1 := hxy.cell (i := 1) rfl
          have t2 := hxy.cell (i := 2) rfl
          have t3 := hxy.cell (i := 3) rfl
          have t4 := hxy.cell (i := 4) rfl
          clear hcy hbn hba hbt hxy
          go_wp2_with fail
          refine (rlike_any r hy x x _ _ ((HIR.out.below HBN.out).mono HBN.out.size) HCYn.out.rhIn (Nat.le_refl _)).mono ?_
          rintro e wo ⟨bl, rfl, hbl, hbo⟩
          obtain rfl : bl = true := hbl.2 rfl
          have HBO := Lib.hid (HBN.out.trans (hbo.mono HBN.out.size))
          clear hbl hbo s0 s1 s2 s3 s4 t0 t1 t2 t3 t4
          go_wp2_with fail
          go_ret
          exact ⟨rfl, HBO.out⟩
        · obtain ⟨rfl, rfl⟩ := g2 hcr
          have h1y : ((1 : Int) == 0) = false := by decide
          clear g1 g2 hcr hb7
          obtain ⟨wm, hwm⟩ : ∃ wm, wm = w7 := ⟨_, rfl⟩
          have HBM : Hid (Below w.heap.size w wm) := by rw [hwm]; exact HB7.out
          have HBK : Hid (Below w7.heap.size w7 wm) := by rw [hwm]; exact Below.refl _ _
          have HXRm := Lib.hid (HXR7.out.calls HBK.out)
          have HWM : Hid (w7 = wm) := hwm.symm
          clear hwm
          go_wp2_with fail
          go_ret
          exact ⟨rfl, HB7.out⟩
    · have hf2 : decide (SmallR r) = false := decide_eq_false hsm
      have hf1 : decide (FewS h) = true := decide_eq_true hfew
      rw [hf1, hf2]
      clear hf1 hf2 hfew hsm
      go_wp2_with fail
      go_ret
      exact ⟨rfl, HB5.out⟩
  · have hf1 : decide (FewS h) = false := decide_eq_false hfew
    rw [hf1]
    clear hf1 hfew
    go_wp2_with fail
    go_ret
    exact ⟨rfl, HB5.out⟩
end Go.Proofs.Ytdhaoacnedgogaa.Vm
