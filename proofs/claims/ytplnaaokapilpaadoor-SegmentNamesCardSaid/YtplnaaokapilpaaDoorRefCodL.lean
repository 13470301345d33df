/- The contracts of the document's Small (may a record be gone through in laws?) and Like (are records the same?). -/
import Derived.Test.YtplnaaokapilpaaDoorCodWords
import Derived.Deep.LoopGhost
import Derived.BigQuiet
namespace Go.Proofs.YtplnaaokapilpaaDoor.Vm
open Go Go.RowKit

/-- A record that laws look at. -/
def SmallR (h : Rh) : Prop := h.n1 ≤ 60 ∧ h.n2 ≤ 60 ∧ h.n3 ≤ 1000
instance (h : Rh) : Decidable (SmallR h) := by unfold SmallR; exact inferInstance
set_option maxRecDepth 100000 in
set_option maxHeartbeats 1000000 in
theorem rsmall_any (h : Rh) (w : World) :
    Calls Tryd.prog 15 #[rhV h] w fun e w' => e = .returned (.bool (decide (SmallR h))) ∧ Below w.heap.size w w' := by
  have hB1 : Below w.heap.size w (w.alloc (rhO h)) := (Below.refl _ _).alloc (Nat.le_refl _) _
  have HB1 := Lib.hid hB1
  obtain ⟨t, a1, n1, c1, a2, n2, c2, a3, n3, c3, ck⟩ := h
  unfold SmallR
  simp only []
  clear hB1
  by_cases k1 : n1 ≤ 60
  · by_cases k2 : n2 ≤ 60
    · by_cases k3 : n3 ≤ 1000
      · rw [decide_eq_true (show n1 ≤ 60 ∧ n2 ≤ 60 ∧ n3 ≤ 1000 from ⟨k1, k2, k3⟩)]
        have k1' : (n1 : Int) ≤ 60 := by omega
        have k2' : (n2 : Int) ≤ 60 := by omega
        have k3' : (n3 : Int) ≤ 1000 := by omega
        go_enter Tryd.func15, Tryd.ntmps15
        go_wp2_with fail
        go_ret
        exact ⟨by simp [k3], HB1.out⟩
      · rw [decide_eq_false (show ¬ (n1 ≤ 60 ∧ n2 ≤ 60 ∧ n3 ≤ 1000) from fun h => k3 h.2.2)]
        have k1' : (n1 : Int) ≤ 60 := by omega
        have k2' : (n2 : Int) ≤ 60 := by omega
        have k3' : ¬ (n3 : Int) ≤ 1000 := by omega
        go_enter Tryd.func15, Tryd.ntmps15
        go_wp2_with fail
        go_ret
        exact ⟨by simp [k3], HB1.out⟩
    · rw [decide_eq_false (show ¬ (n1 ≤ 60 ∧ n2 ≤ 60 ∧ n3 ≤ 1000) from fun h => k2 h.2.1)]
      have k1' : (n1 : Int) ≤ 60 := by omega
      have k2' : ¬ (n2 : Int) ≤ 60 := by omega
      go_enter Tryd.func15, Tryd.ntmps15
      go_wp2_with fail
      go_ret
      exact ⟨rfl, HB1.out⟩
  · rw [decide_eq_false (show ¬ (n1 ≤ 60 ∧ n2 ≤ 60 ∧ n3 ≤ 1000) from fun h => k1 h.1)]
    have k1' : ¬ (n1 : Int) ≤ 60 := by omega
    go_enter Tryd.func15, Tryd.ntmps15
    go_wp2_with fail
    go_ret
    exact ⟨rfl, HB1.out⟩

/-- Records that are the same in all parts. -/
theorem list_same {α : Type} {d : α} {l l' : List α} (hl : l.length = l'.length) (h : ∀ j, j < l.length → l.getD j d = l'.getD j d) : l = l' := by
  refine List.ext_getElem hl fun j h1 h2 => ?_
  have := h j h1
  simpa [List.getD, h1, h2] using this
theorem inp_eq {x y : Inp} (h : x = y) : (x.k == y.k) = true ∧ (x.a == y.a) = true ∧ (x.b == y.b) = true ∧ (x.c == y.c) = true := by
  subst h
  simp
theorem inp_ne {x y : Inp} (h : x ≠ y) : (x.k == y.k) = false ∨ ((x.k == y.k) = true ∧ (x.a == y.a) = false) ∨ ((x.k == y.k) = true ∧ (x.a == y.a) = true ∧ (x.b == y.b) = false) ∨
    ((x.k == y.k) = true ∧ (x.a == y.a) = true ∧ (x.b == y.b) = true ∧ (x.c == y.c) = false) := by
  obtain ⟨xk, xa, xb, xc⟩ := x
  obtain ⟨yk, ya, yb, yc⟩ := y
  simp only [beq_eq_false_iff_ne, beq_iff_eq]
  by_cases h1 : xk = yk
  · by_cases h2 : xa = ya
    · by_cases h3 : xb = yb
      · by_cases h4 : xc = yc
        · exact absurd (by rw [h1, h2, h3, h4]) h
        · exact .inr (.inr (.inr ⟨h1, h2, h3, h4⟩))
      · exact .inr (.inr (.inl ⟨h1, h2, h3⟩))
    · exact .inr (.inl ⟨h1, h2⟩)
  · exact .inl h1
set_option maxRecDepth 100000 in
set_option maxHeartbeats 4000000 in
theorem rlike_any (h h' : Rh) (x y : Rcd) (B : Nat) (w : World) (hin : RhIn w B h x) (hin' : RhIn w B h' y) (hB : B ≤ w.heap.size) :
    Calls Tryd.prog 34 #[rhV h, rhV h'] w fun e w' => ∃ b : Bool, e = .returned (.bool b) ∧ (b = true ↔ x = y) ∧ Below w.heap.size w w' := by
  have hb1 : Below w.heap.size w (w.alloc (rhO h)) := (Below.refl _ _).alloc (Nat.le_refl _) _
  have hz1 : (w.alloc (rhO h)).heap.size = w.heap.size + 1 := by simp
  have hb2 : Below (w.heap.size + 1) (w.alloc (rhO h)) ((w.alloc (rhO h)).alloc (rhO h')) := (Below.refl _ _).alloc (by omega) _
  have hs1 := (rhAt_new w h).below hb2 (by omega)
  have hs2 := rhAt_new (w.alloc (rhO h)) h'
  rw [hz1] at hs2
  obtain ⟨w2, hw2⟩ : ∃ w2, w2 = (w.alloc (rhO h)).alloc (rhO h') := ⟨_, rfl⟩
  have hz2 : w2.heap.size = w.heap.size + 2 := by rw [hw2]; simp
  rw [← hw2] at hb2 hs1 hs2
  have HB2 := Lib.hid (hb1.trans (hb2.mono (by omega)))
  have HW := Lib.hid hw2
  have HS1 := Lib.hid hs1
  have HS2 := Lib.hid hs2
  have HIN := Lib.hid (hin.below (HB2.out.mono hB))
  have HIN' := Lib.hid (hin'.below (HB2.out.mono hB))
  have HBB := Lib.hid hB
  clear hb1 hz1 hb2 hs1 hs2 hw2 hin hin' hB
  obtain ⟨t, a1, n1, c1, a2, n2, c2, a3, n3, c3, ck⟩ := h
  obtain ⟨t', a1', n1', c1', a2', n2', c2', a3', n3', c3', ck'⟩ := h'
  obtain ⟨s0, s1, s2, s3, s4⟩ := id HS1.out
  obtain ⟨r0, r1, r2, r3, r4⟩ := id HS2.out
  simp only [] at s0 s1 s2 s3 s4 r0 r1 r2 r3 r4
  have HTK := Lib.hid HIN.out.tick
  have HTK' := Lib.hid HIN'.out.tick
  have HL1 := Lib.hid HIN.out.ins.1
  have HL1' := Lib.hid HIN'.out.ins.1
  have HL2 := Lib.hid HIN.out.cs.1
  have HL2' := Lib.hid HIN'.out.cs.1
  have HCK := Lib.hid HIN.out.ck
  have HCK' := Lib.hid HIN'.out.ck
  simp only [] at HTK HTK' HL1 HL1' HL2 HL2' HCK HCK'
  have hm1 := HIN.out.ins.2.1
  have hm2 := HIN.out.ins.2.2.1
  have hm3 := HIN.out.cs.2.1
  have hm4 := HIN.out.cs.2.2.1
  unfold maxLen at hm2 hm4
  simp only [] at hm1 hm2 hm3 hm4
  by_cases d1 : ¬ t = t'
  · have e1 : (t != t') = true := by simpa using d1
    have HD : Hid (¬ x = y) := fun h => d1 (by rw [HTK.out, HTK'.out, h])
    clear d1
    go_enter Tryd.func34, Tryd.ntmps34
    go_wp2_with fail
    go_ret
    exact ⟨false, rfl, ⟨fun h => absurd h (by simp), fun h => absurd h HD.out⟩, by rw [← HW.out]; exact HB2.out⟩
  replace d1 := Decidable.not_not.1 d1
  have e1 : (t != t') = false := by simpa using d1
  by_cases d2 : ¬ n1 = n1'
  · have e2 : ((n1 : Int) != (n1' : Int)) = true := by rw [bne_iff_ne]; omega
    have HD : Hid (¬ x = y) := fun h => d2 (by rw [← HL1.out, ← HL1'.out, h])
    clear d1 d2
    go_enter Tryd.func34, Tryd.ntmps34
    go_wp2_with fail
    go_ret
    exact ⟨false, rfl, ⟨fun h => absurd h (by simp), fun h => absurd h HD.out⟩, by rw [← HW.out]; exact HB2.out⟩
  replace d2 := Decidable.not_not.1 d2
  have e2 : ((n1 : Int) != (n1' : Int)) = false := by simp [d2]
  by_cases d3 : ¬ n2 = n2'
  · have e3 : ((n2 : Int) != (n2' : Int)) = true := by rw [bne_iff_ne]; omega
    have HD : Hid (¬ x = y) := fun h => d3 (by rw [← HL2.out, ← HL2'.out, h])
    clear d1 d2 d3
    go_enter Tryd.func34, Tryd.ntmps34
    go_wp2_with fail
    go_ret
    exact ⟨false, rfl, ⟨fun h => absurd h (by simp), fun h => absurd h HD.out⟩, by rw [← HW.out]; exact HB2.out⟩
  replace d3 := Decidable.not_not.1 d3
  have e3 : ((n2 : Int) != (n2' : Int)) = false := by simp [d3]
  have HIZ := Lib.hid (ints_anyZ a3 a3' n3 c3 n3' c3' B x.ws y.ws w2 HIN.out.ws HIN'.out.ws)
  by_cases d4 : ¬ x.ws = y.ws
  · rw [decide_eq_false d4] at HIZ
    have HD : Hid (¬ x = y) := fun h => d4 (by rw [h])
    clear d1 d2 d3 d4
    go_enter Tryd.func34, Tryd.ntmps34
    go_wp2_with fail
    rw [← HW.out]
    refine HIZ.out.mono ?_
    rintro e V ⟨rfl, mm, hV⟩
    have HBV : Hid (Below w.heap.size w V) := by unfold Hid; rw [hV]; exact below_drewN HB2.out mm
    clear hV
    go_wp2_with fail
    go_ret
    exact ⟨false, rfl, ⟨fun h => absurd h (by simp), fun h => absurd h HD.out⟩, HBV.out⟩
  replace d4 := Decidable.not_not.1 d4
  rw [decide_eq_true d4] at HIZ
  have HD4 := Lib.hid d4
  by_cases d5 : ¬ ck = ck'
  · have e5 : (ck != ck') = true := by simpa using d5
    have HD : Hid (¬ x = y) := fun h => d5 (by rw [HCK.out, HCK'.out, h])
    clear d1 d2 d3 d4 d5
    go_enter Tryd.func34, Tryd.ntmps34
    go_wp2_with fail
    rw [← HW.out]
    refine HIZ.out.mono ?_
    rintro e V ⟨rfl, mm, hV⟩
    have HBV : Hid (Below w.heap.size w V) := by unfold Hid; rw [hV]; exact below_drewN HB2.out mm
    have hbv : Below w2.heap.size w2 V := by rw [hV]; exact below_drewN (Below.refl _ _) mm
    obtain ⟨ua0, ua1, ua2, ua3, ua4⟩ := HS1.out.below hbv (by omega)
    obtain ⟨va0, va1, va2, va3, va4⟩ := HS2.out.below hbv (by omega)
    simp only [] at ua0 ua1 ua2 ua3 ua4 va0 va1 va2 va3 va4
    clear hV hbv s0 s1 s2 s3 s4 r0 r1 r2 r3 r4
    go_wp2_with fail
    go_ret
    exact ⟨false, rfl, ⟨fun h => absurd h (by simp), fun h => absurd h HD.out⟩, HBV.out⟩
  replace d5 := Decidable.not_not.1 d5
  have e5 : (ck != ck') = false := by simpa using d5
  have HSO : Hid (x.ins = y.ins → x.cs = y.cs → x = y) := fun h1 h2 => by
    have g1 : x.tick = y.tick := by rw [← HTK.out, ← HTK'.out, d1]
    have g2 : x.ck = y.ck := by rw [← HCK.out, ← HCK'.out, d5]
    obtain ⟨_, _, _, _, _⟩ := x
    obtain ⟨_, _, _, _, _⟩ := y
    simp only [] at h1 h2 g1 g2 d4
    subst h1 h2 g1 g2 d4
    rfl
  clear d1 d4 d5
  subst d2 d3
  go_enter Tryd.func34, Tryd.ntmps34
  go_wp2_with fail
  rw [← HW.out]
  refine HIZ.out.mono ?_
  rintro e V ⟨rfl, mm, hV⟩
  have hbv : Below w2.heap.size w2 V := by rw [hV]; exact below_drewN (Below.refl _ _) mm
  have HBV : Hid (Below w.heap.size w V) := HB2.out.trans (hbv.mono (by omega))
  have HT1 := Lib.hid (HS1.out.below hbv (by omega))
  have HT2 := Lib.hid (HS2.out.below hbv (by omega))
  have hzv := hbv.size
  have HIV := Lib.hid (HIN.out.below (hbv.mono (Nat.le_trans HBB.out (by omega))))
  have HIV' := Lib.hid (HIN'.out.below (hbv.mono (Nat.le_trans HBB.out (by omega))))
  have hBV : B ≤ w.heap.size := HBB.out
  obtain ⟨ua0, ua1, ua2, ua3, ua4⟩ := id HT1.out
  obtain ⟨va0, va1, va2, va3, va4⟩ := id HT2.out
  simp only [] at ua0 ua1 ua2 ua3 ua4 va0 va1 va2 va3 va4
  clear hV hbv s0 s1 s2 s3 s4 r0 r1 r2 r3 r4 HIZ
  go_wp2_with fail
  have HE0 : Hid (∀ j, j < 0 → x.ins.getD j zx = y.ins.getD j zx) := fun j hj => absurd hj (by omega)
  go_loopg [5] n1 (fun gg i wr => ∃ k : Nat, k ≤ n1 ∧ n1 - k ≤ gg ∧ i = .int .i64 (k : Nat) ∧ Hid (∀ j, j < k → x.ins.getD j zx = y.ins.getD j zx) ∧ Hid (Below V.heap.size V wr))
  case atStart => exact ⟨0, Nat.zero_le _, by omega, rfl, HE0.out, Below.refl _ _⟩
  case round =>
    clear HE0 ua0 ua1 ua2 ua3 ua4 va0 va1 va2 va3 va4
    obtain ⟨k, hkn, hgg, rfl, HE, HQ⟩ := hrel
    have hzq := HQ.out.size
    obtain ⟨ua0, ua1, ua2, ua3, ua4⟩ := HT1.out.below HQ.out (by omega)
    obtain ⟨va0, va1, va2, va3, va4⟩ := HT2.out.below HQ.out (by omega)
    simp only [] at ua0 ua1 ua2 ua3 ua4 va0 va1 va2 va3 va4
    by_cases hlt : k < n1
    · obtain ⟨ab, ao, rfl, hab, hac⟩ := HIV.out.ins.2.2.2 (show 0 < n1 by omega)
      obtain ⟨bb, bo, rfl, hbb, hbc⟩ := HIV'.out.ins.2.2.2 (show 0 < n1 by omega)
      obtain ⟨p0, p1, p2, p3⟩ := hac k hlt
      obtain ⟨q0, q1, q2, q3⟩ := hbc k hlt
      have hax : ab < V.heap.size := by omega
      have hbx : bb < V.heap.size := by omega
      replace p0 := (HQ.out.cell (p := ⟨ab, ao + k * 4, none⟩) hax).trans p0
      replace p1 := (HQ.out.cell (p := ⟨ab, ao + k * 4 + 1, none⟩) hax).trans p1
      replace p2 := (HQ.out.cell (p := ⟨ab, ao + k * 4 + 2, none⟩) hax).trans p2
      replace p3 := (HQ.out.cell (p := ⟨ab, ao + k * 4 + 3, none⟩) hax).trans p3
      replace q0 := (HQ.out.cell (p := ⟨bb, bo + k * 4, none⟩) hbx).trans q0
      replace q1 := (HQ.out.cell (p := ⟨bb, bo + k * 4 + 1, none⟩) hbx).trans q1
      replace q2 := (HQ.out.cell (p := ⟨bb, bo + k * 4 + 2, none⟩) hbx).trans q2
      replace q3 := (HQ.out.cell (p := ⟨bb, bo + k * 4 + 3, none⟩) hbx).trans q3
      obtain ⟨xp, hxp⟩ : ∃ xp, x.ins.getD k zx = xp := ⟨_, rfl⟩
      obtain ⟨yp, hyp⟩ : ∃ yp, y.ins.getD k zx = yp := ⟨_, rfl⟩
      rw [hxp] at p0 p1 p2 p3
      rw [hyp] at q0 q1 q2 q3
      have HXP := Lib.hid hxp
      have HYP := Lib.hid hyp
      have hk1 : (k : Int) < (n1 : Int) := by omega
      by_cases hxy : xp = yp
      · obtain ⟨f1, f2, f3, f4⟩ := inp_eq hxy
        have HE2 : Hid (∀ j, j < k + 1 → x.ins.getD j zx = y.ins.getD j zx) := fun j hj => by
          rcases Nat.lt_succ_iff_lt_or_eq.1 hj with h1 | rfl
          · exact HE.out j h1
          · rw [HXP.out, HYP.out, hxy]
        clear hxy hxp hyp hac hbc HE
        go_wp2_with fail
        go_quiet (fail)
        have HQ2 := Lib.hid (below_drewN HQ.out nq)
        go_wp2_with fail
        go_roundg (n1 - (k + 1))
        case measure => omega
        case rel => exact ⟨k + 1, by omega, Nat.le_refl _, by go_num, HE2.out, HQ2.out⟩
      · have HD : Hid (¬ x = y) := fun h => hxy (by rw [← HXP.out, ← HYP.out, h])
        have hr := inp_ne hxy
        have HBQ := Lib.hid (HBV.out.trans (HQ.out.mono (by omega)))
        clear hxy hxp hyp hac hbc HE
        rcases hr with f1 | ⟨f1, f2⟩ | ⟨f1, f2, f3⟩ | ⟨f1, f2, f3, f4⟩
        all_goals
          go_wp2_with fail
          go_quiet (fail)
          have HBR := Lib.hid (below_drewN HBQ.out nq)
          go_wp2_with fail
          go_ret
          exact ⟨false, rfl, ⟨fun h => absurd h (by simp), fun h => absurd h HD.out⟩, HBR.out⟩
    · obtain rfl : k = n1 := by omega
      have HEI : Hid (x.ins = y.ins) := list_same (by rw [HL1.out, HL1'.out]) (fun j hj => HE.out j (by rw [← HL1.out]; exact hj))
      have hkk : ¬ (k : Int) < (k : Int) := by omega
      have HE0 : Hid (∀ j, j < 0 → x.cs.getD j 0 = y.cs.getD j 0) := fun j hj => absurd hj (by omega)
      clear hlt HE
      go_wp2_with fail
      go_loopg [6] n2 (fun gg i wq => ∃ m : Nat, m ≤ n2 ∧ n2 - m ≤ gg ∧ i = .int .i64 (m : Nat) ∧ Hid (∀ j, j < m → x.cs.getD j 0 = y.cs.getD j 0) ∧ Hid (Below V.heap.size V wq))
      case atStart => exact ⟨0, Nat.zero_le _, by omega, rfl, HE0.out, HQ.out⟩
      case round =>
        clear HE0 ua0 ua1 ua2 ua3 ua4 va0 va1 va2 va3 va4 HQ hzq
        obtain ⟨m, hmn, hgg2, rfl, HE, HQ⟩ := hrel
        have hzq := HQ.out.size
        obtain ⟨ua0, ua1, ua2, ua3, ua4⟩ := HT1.out.below HQ.out (by omega)
        obtain ⟨va0, va1, va2, va3, va4⟩ := HT2.out.below HQ.out (by omega)
        simp only [] at ua0 ua1 ua2 ua3 ua4 va0 va1 va2 va3 va4
        by_cases hlt : m < n2
        · obtain ⟨ab, ao, rfl, hab, hac⟩ := HIV.out.cs.cells (show 0 < n2 by omega)
          obtain ⟨bb, bo, rfl, hbb, hbc⟩ := HIV'.out.cs.cells (show 0 < n2 by omega)
          have hax : ab < V.heap.size := by omega
          have hbx : bb < V.heap.size := by omega
          have p0 := (HQ.out.cell (p := ⟨ab, ao + m, none⟩) hax).trans (hac m hlt)
          have q0 := (HQ.out.cell (p := ⟨bb, bo + m, none⟩) hbx).trans (hbc m hlt)
          obtain ⟨xp, hxp⟩ : ∃ xp, x.cs.getD m 0 = xp := ⟨_, rfl⟩
          obtain ⟨yp, hyp⟩ : ∃ yp, y.cs.getD m 0 = yp := ⟨_, rfl⟩
          rw [hxp] at p0
          rw [hyp] at q0
          have HXP := Lib.hid hxp
          have HYP := Lib.hid hyp
          have hk1 : (m : Int) < (n2 : Int) := by omega
          by_cases hxy : xp = yp
          · have f1 : (xp != yp) = false := by simpa using hxy
            have HE2 : Hid (∀ j, j < m + 1 → x.cs.getD j 0 = y.cs.getD j 0) := fun j hj => by
              rcases Nat.lt_succ_iff_lt_or_eq.1 hj with h1 | rfl
              · exact HE.out j h1
              · rw [HXP.out, HYP.out, hxy]
            clear hxy hxp hyp hac hbc HE
            go_wp2_with fail
            go_quiet (fail)
            have HQ2 := Lib.hid (below_drewN HQ.out nq)
            go_wp2_with fail
            go_roundg (n2 - (m + 1))
            case measure => omega
            case rel => exact ⟨m + 1, by omega, Nat.le_refl _, by go_num, HE2.out, HQ2.out⟩
          · have f1 : (xp != yp) = true := by simpa using hxy
            have HD : Hid (¬ x = y) := fun h => hxy (by rw [← HXP.out, ← HYP.out, h])
            have HBQ := Lib.hid (HBV.out.trans (HQ.out.mono (by omega)))
            clear hxy hxp hyp hac hbc HE
            go_wp2_with fail
            go_quiet (fail)
            have HBR := Lib.hid (below_drewN HBQ.out nq)
            go_wp2_with fail
            go_ret
            exact ⟨false, rfl, ⟨fun h => absurd h (by simp), fun h => absurd h HD.out⟩, HBR.out⟩
        · obtain rfl : m = n2 := by omega
          have HEC : Hid (x.cs = y.cs) := list_same (by rw [HL2.out, HL2'.out]) (fun j hj => HE.out j (by rw [← HL2.out]; exact hj))
          have HBQ := Lib.hid (HBV.out.trans (HQ.out.mono (by omega)))
          have hkk2 : ¬ (m : Int) < (m : Int) := by omega
          clear hlt HE
          go_wp2_with fail
          go_ret
          first
            | exact ⟨true, rfl, ⟨fun _ => HSO.out HEI.out HEC.out, fun _ => rfl⟩, HBQ.out⟩
            | exact ⟨rfl, HSO.out HEI.out HEC.out, HBQ.out⟩
            | exact .inr ⟨rfl, HSO.out HEI.out HEC.out, HBQ.out⟩
end Go.Proofs.YtplnaaokapilpaaDoor.Vm
