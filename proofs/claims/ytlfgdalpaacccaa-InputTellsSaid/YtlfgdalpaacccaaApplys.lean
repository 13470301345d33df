/- The contracts of input.apply at every kind, and of input.Apply. -/
import Derived.Test.YtlfgdalpaacccaaApplyHead
namespace Go.Proofs.Ytlfgdalpaacccaa.Vm
open Go Go.RowKit

set_option maxRecDepth 100000 in
set_option maxHeartbeats 2000000 in
theorem apply_k0 (W H : Int) (g : ByteArray) (B b : Nat) (h : Sh) (s : St) (x : Inp) (w : World) (m : Mine w B b h s) (hk : ¬ (1 ≤ x.k ∧ x.k ≤ 6)) :
    Calls Try.prog 20 #[gridV W H g, .pointer (some ⟨b, 0, none⟩), inpV x] w fun e w' => e = .returned (.int .i64 3) ∧ Turns w B b s w' := by
  obtain ⟨w2, hw2, t2, hg2, hx2, hz2⟩ := gx_head m W H g x
  have HEF := Lib.hid (effectOf_no x.k hk w2)
  have HT2 := Lib.hid t2
  have HW := Lib.hid hw2
  clear hk m t2 hw2
  obtain ⟨g0, g1, g2⟩ := hg2
  obtain ⟨x0, x1, x2, x3⟩ := hx2
  obtain ⟨xk, xa, xb, xc⟩ := x
  simp only [] at x0 x1 x2 x3 HEF
  go_enter Try.func20, Try.ntmps20
  go_wp2_with fail
  rw [← HW.out]
  refine HEF.out.mono ?_
  rintro e w3 ⟨rfl, hb3⟩
  have HT3 := Lib.hid (HT2.out.trans (.calls HT2.out.m (hb3.alloc (o := .cells #[.nilFunc, .nilFunc] 69) hb3.size)))
  clear g0 g1 g2 x0 x1 x2 x3 hb3
  go_wp2_with fail
  go_ret
  exact ⟨rfl, HT3.out.t⟩

theorem code_bound (fl : Int → Bool) (s : St) (x : Inp) : 0 ≤ codeS fl s x ∧ codeS fl s x ≤ 10 := by
  unfold codeS codeO codeF codeR codeH codeB codeC
  repeat' split
  all_goals omega

theorem apply_any (W H : Int) (g : ByteArray) (B b : Nat) (h : Sh) (s : St) (x : Inp) (w : World) (m : Mine w B b h s) (hg : g.size ≤ maxLen) (hr : RightP (floorS (bytesOf g)) s) (hn : s.bl.length ≤ 100000) :
    Calls Try.prog 20 #[gridV W H g, .pointer (some ⟨b, 0, none⟩), inpV x] w fun e w' => e = .returned (.int .i64 (codeS (floorS (bytesOf g)) s x)) ∧ Turns w B b (applyS (floorS (bytesOf g)) s x) w' := by
  unfold applyS
  by_cases h1 : x.k = 1
  · have e1 : codeS (floorS (bytesOf g)) s x = codeO (floorS (bytesOf g)) s x := by unfold codeS; rw [if_pos h1]
    have e2 : turnS s x = turnO s x := by unfold turnS; rw [if_pos h1]
    rw [e1, e2]
    exact apply_k1 W H g B b h s x w m hg hr hn h1
  by_cases h2 : x.k = 2
  · have e1 : codeS (floorS (bytesOf g)) s x = codeF s x := by unfold codeS; rw [if_neg h1, if_pos h2]
    have e2 : turnS s x = turnF s x := by unfold turnS; rw [if_neg h1, if_pos h2]
    rw [e1, e2]
    exact apply_k2 W H g B b h s x w m hg hr hn h2
  by_cases h3 : x.k = 3
  · have e1 : codeS (floorS (bytesOf g)) s x = codeR s x := by unfold codeS; rw [if_neg h1, if_neg h2, if_pos h3]
    have e2 : turnS s x = turnR s x := by unfold turnS; rw [if_neg h1, if_neg h2, if_pos h3]
    rw [e1, e2]
    exact apply_k3 W H g B b h s x w m hg hr hn h3
  by_cases h4 : x.k = 4
  · have e1 : codeS (floorS (bytesOf g)) s x = codeH s x := by unfold codeS; rw [if_neg h1, if_neg h2, if_neg h3, if_pos h4]
    have e2 : turnS s x = turnH s x := by unfold turnS; rw [if_neg h1, if_neg h2, if_neg h3, if_pos h4]
    rw [e1, e2]
    exact apply_k4 W H g B b h s x w m hg hr hn h4
  by_cases h5 : x.k = 5
  · have e1 : codeS (floorS (bytesOf g)) s x = codeB (floorS (bytesOf g)) s x := by unfold codeS; rw [if_neg h1, if_neg h2, if_neg h3, if_neg h4, if_pos h5]
    have e2 : turnS s x = turnB s x := by unfold turnS; rw [if_neg h1, if_neg h2, if_neg h3, if_neg h4, if_pos h5]
    rw [e1, e2]
    exact apply_k5 W H g B b h s x w m hg hr hn h5
  by_cases h6 : x.k = 6
  · have e1 : codeS (floorS (bytesOf g)) s x = codeC (floorS (bytesOf g)) s x := by unfold codeS; rw [if_neg h1, if_neg h2, if_neg h3, if_neg h4, if_neg h5, if_pos h6]
    have e2 : turnS s x = turnC s x := by unfold turnS; rw [if_neg h1, if_neg h2, if_neg h3, if_neg h4, if_neg h5]
    rw [e1, e2]
    exact apply_k6 W H g B b h s x w m hg hr hn h6
  have e1 : codeS (floorS (bytesOf g)) s x = 3 := by unfold codeS; rw [if_neg h1, if_neg h2, if_neg h3, if_neg h4, if_neg h5, if_neg h6]
  rw [e1, if_neg (by omega)]
  exact apply_k0 W H g B b h s x w m (by omega)

/-- A grid, a state, an input and a state to be: boxed. -/
theorem gsxz_head (w : World) (W H : Int) (g : ByteArray) (h : Sh) (x : Inp) :
    ∃ w4, w4 = (((w.alloc (gridO W H g)).alloc (shO h)).alloc (inpO x 41)).alloc (shO ⟨0, none, 0, 0, none, 0, 0, none, 0, 0⟩) ∧ Below w.heap.size w w4 ∧ w4.heap.size = w.heap.size + 4 ∧ GridAt w4 w.heap.size W H g ∧ StAt w4 (w.heap.size + 1) h ∧ InpAt w4 (w.heap.size + 1 + 1) x ∧
      StAt w4 (w.heap.size + 1 + 1 + 1) ⟨0, none, 0, 0, none, 0, 0, none, 0, 0⟩ ∧ ∀ i, w4.frozen? ⟨w.heap.size + 1 + 1 + 1, i, none⟩ = false := by
  obtain ⟨u, hu, h1, z1, g1, s1, x1⟩ := gsx_head w W H g h x
  have h3 : Below u.heap.size u (u.alloc (shO ⟨0, none, 0, 0, none, 0, 0, none, 0, 0⟩)) := (Below.refl _ _).alloc (Nat.le_refl _) _
  have x3 := stAt_new u ⟨0, none, 0, 0, none, 0, 0, none, 0, 0⟩
  have f3 : ∀ i, (u.alloc (shO ⟨0, none, 0, 0, none, 0, 0, none, 0, 0⟩)).frozen? ⟨u.heap.size, i, none⟩ = false := fun i => by simp
  rw [z1] at x3 f3
  exact ⟨_, by rw [hu], h1.trans (h3.mono (by omega)), by simp [z1], g1.below h3 (by omega), s1.below h3 (by omega), x1.below h3 (by omega), x3, f3⟩

set_option maxRecDepth 100000 in
set_option maxHeartbeats 2000000 in
theorem bigApply_any (W H : Int) (g : ByteArray) (h : Sh) (s : St) (x : Inp) (B : Nat) (w : World) (hg : g.size ≤ maxLen) (hin : StIn w B h s) (hB : B ≤ w.heap.size) (hr : RightP (floorS (bytesOf g)) s) (hn : s.bl.length ≤ 90000) :
    Calls Try.prog 12 #[gridV W H g, shV h, inpV x] w fun e w' => ∃ h', e = .returned (.tuple #[shV h', .int .i64 (codeS (floorS (bytesOf g)) s x)]) ∧ CopyIn w' w.heap.size h' (applyS (floorS (bytesOf g)) s x) ∧ Below w.heap.size w w' := by
  obtain ⟨w4, hw4, hB4, hz4, hg4, hs4, hx4, hr4, hf4⟩ := gsxz_head w W H g h x
  have h1 := hin.rs.1
  have h2 := hin.ts.1
  have h3 := hin.bl.1
  have hrn := hr.rn
  have htn := hr.tn
  have HCP := Lib.hid (copy_any h s w.heap.size w4 ((hin.mono hB).below hB4) (by omega) (by omega) (by omega) (by omega))
  have HAP := Lib.hid fun (V : World) (b : Nat) (h' : Sh) (m : Mine V w4.heap.size b h' s) => apply_any W H g w4.heap.size b h' s x V m hg hr (by omega)
  have HW := Lib.hid hw4
  have HB4 := Lib.hid hB4
  have HG4 := Lib.hid hg4
  have HS4 := Lib.hid hs4
  have HX4 := Lib.hid hx4
  have HR4 := Lib.hid hr4
  have HF4 := Lib.hid hf4
  generalize codeS (floorS (bytesOf g)) s x = code at HAP
  generalize applyS (floorS (bytesOf g)) s x = after at HAP
  clear hw4 hB4 hg4 hr4 hf4 hr hn hin hg h1 h2 h3 hrn htn
  obtain ⟨t, a1, n1, c1, a2, n2, c2, a3, n3, c3⟩ := h
  obtain ⟨xk, xa, xb, xc⟩ := x
  obtain ⟨s0, s1, s2, s3⟩ := hs4
  obtain ⟨x0, x1, x2, x3⟩ := hx4
  simp only [] at s0 s1 s2 s3 x0 x1 x2 x3
  go_enter Try.func12, Try.ntmps12
  go_wp2_with fail
  rw [← HW.out]
  refine HCP.out.mono ?_
  rintro e w5 ⟨h1, rfl, hc5, hb5⟩
  have hba : Below w5.heap.size w5 (w5.alloc (shO h1)) := (Below.refl _ _).alloc (Nat.le_refl _) _
  have hm6 : Mine (w5.alloc (shO h1)) w4.heap.size w5.heap.size h1 s :=
    ⟨heap_alloc_new w5 _, hb5.size, ⟨hc5.tick, hc5.rs.calls hba, hc5.ts.calls hba, own_upto hc5.bl hba (fun k hk => (World.ownsRow.lt hc5.bl k hk).2), hc5.n1, hc5.n2, hc5.n3⟩⟩
  have hz5 := hb5.size
  obtain ⟨w6, hw6⟩ : ∃ w6, w6 = w5.alloc (shO h1) := ⟨_, rfl⟩
  rw [← hw6] at hba hm6
  have hb46 := hb5.trans (hba.mono hz5)
  have hg6 := HG4.out.below hb5 (by omega)
  have hx6 := HX4.out.below hb5 (by omega)
  have hlt0 : w.heap.size < w5.heap.size := by omega
  have hlt2 : w.heap.size + 1 + 1 < w5.heap.size := by omega
  have HW6 := Lib.hid hw6
  have HM6 := Lib.hid hm6
  have HB46 := Lib.hid hb46
  have HA := Lib.hid (HAP.out w6 w5.heap.size h1 hm6)
  obtain ⟨t', b1, m1, d1, b2, m2, d2, b3, m3, d3⟩ := h1
  clear s0 s1 s2 s3 x0 x1 x2 x3 hw6 hb46 hba hb5 hc5 HAP HCP hm6
  obtain ⟨g0, g1, g2⟩ := hg6
  obtain ⟨x0, x1, x2, x3⟩ := hx6
  simp only [] at x0 x1 x2 x3
  go_wp2_with fail
  rw [← HW6.out]
  refine HA.out.mono ?_
  rintro e w7 ⟨rfl, t7⟩
  obtain ⟨h7, m7⟩ := t7.m
  have hb47 := HB46.out.trans t7.k
  have hst := m7.stAt
  obtain ⟨q0, q1, q2, q3⟩ := HR4.out.below hb47 (by omega)
  have f0 := (hb47.frozen (p := ⟨w.heap.size + 1 + 1 + 1, 0, none⟩) (show w.heap.size + 1 + 1 + 1 < w4.heap.size by omega)).trans (HF4.out 0)
  have f1 := (hb47.frozen (p := ⟨w.heap.size + 1 + 1 + 1, 1, none⟩) (show w.heap.size + 1 + 1 + 1 < w4.heap.size by omega)).trans (HF4.out 1)
  have f2 := (hb47.frozen (p := ⟨w.heap.size + 1 + 1 + 1, 2, none⟩) (show w.heap.size + 1 + 1 + 1 < w4.heap.size by omega)).trans (HF4.out 2)
  have f3 := (hb47.frozen (p := ⟨w.heap.size + 1 + 1 + 1, 3, none⟩) (show w.heap.size + 1 + 1 + 1 < w4.heap.size by omega)).trans (HF4.out 3)
  simp only [] at q0 q1 q2 q3
  obtain ⟨t', b1, m1, d1, b2, m2, d2, b3, m3, d3⟩ := h7
  obtain ⟨s0, s1, s2, s3⟩ := hst
  simp only [] at s0 s1 s2 s3
  have hsr := stAt_set4 q0 q1 q2 q3 ⟨t', b1, m1, d1, b2, m2, d2, b3, m3, d3⟩
  have HC : Hid (CopyIn ((((w7.setCell ⟨w.heap.size + 1 + 1 + 1, 0, none⟩ (.int .i64 t')).setCell ⟨w.heap.size + 1 + 1 + 1, 1, none⟩ (.slice b1 m1 d1)).setCell ⟨w.heap.size + 1 + 1 + 1, 2, none⟩ (.slice b2 m2 d2)).setCell ⟨w.heap.size + 1 + 1 + 1, 3, none⟩ (.slice b3 m3 d3)) w.heap.size ⟨t', b1, m1, d1, b2, m2, d2, b3, m3, d3⟩ after) := by
    obtain ⟨c0, o1, o2, o3, e1, e2, e3⟩ := m7.c
    exact ⟨c0, OwnR.mono (own_set4 o1 (show w.heap.size + 1 + 1 + 1 < w4.heap.size by omega) _ _ _ _) (by omega), OwnR.mono (own_set4 o2 (show w.heap.size + 1 + 1 + 1 < w4.heap.size by omega) _ _ _ _) (by omega), OwnZ.mono (own_set4 o3 (show w.heap.size + 1 + 1 + 1 < w4.heap.size by omega) _ _ _ _) (by omega), e1, e2, e3⟩
  have HBF := Lib.hid (below_set4 (HB4.out.trans (hb47.mono (by omega))) (show w.heap.size ≤ w.heap.size + 1 + 1 + 1 by omega) (.int .i64 t') (.slice b1 m1 d1) (.slice b2 m2 d2) (.slice b3 m3 d3))
  clear t7 m7 hb47 g0 g1 g2 x0 x1 x2 x3 HA HM6 HW6
  go_wp2_with fail
  generalize ((((w7.setCell { block := w.heap.size + 1 + 1 + 1, off := 0 } (Value.int IntKind.i64 t')).setCell { block := w.heap.size + 1 + 1 + 1, off := 1 } (Value.slice b1 m1 d1)).setCell { block := w.heap.size + 1 + 1 + 1, off := 2 } (Value.slice b2 m2 d2)).setCell { block := w.heap.size + 1 + 1 + 1, off := 3 } (Value.slice b3 m3 d3)) = V at hsr HC HBF
  obtain ⟨r0, r1, r2, r3⟩ := hsr
  simp only [] at r0 r1 r2 r3
  refine bodyPost_ret (v := .tuple #[shV ⟨t', b1, m1, d1, b2, m2, d2, b3, m3, d3⟩, .int .i64 code]) (by simp [results, Try.results12, go_sem, r0, r1, r2, r3]) rfl ⟨_, rfl, HC.out, HBF.out⟩
end Go.Proofs.Ytlfgdalpaacccaa.Vm
