/- The contract of the document's Record (a record as bytes). The contract of the document's State (a state as bytes). The contract of the document's ReadState. -/
import Derived.Test.YtplnaaokapilpaaGreatDoorRefCods
import Derived.Test.YtplnaaokapilpaaGreatDoorCodWords
import Derived.Test.YtplnaaokapilpaaGreatDoorPushes
import Derived.Test.YtplnaaokapilpaaGreatDoorStWords
import Derived.Test.YtplnaaokapilpaaGreatDoorAppendZ
import Derived.Test.YtplnaaokapilpaaGreatDoorAppends
import Derived.Test.YtplnaaokapilpaaGreatDoorOwnRs
import Derived.Test.YtplnaaokapilpaaGreatDoorSames
import Derived.Test.YtplnaaokapilpaaGreatDoorStCopies
import Derived.Deep.LoopGhost
import Derived.Deep.CutRange
import Derived.Deep.CutBlock
import Derived.Deep.DeepCutAuto
import Derived.Lib.AppendZeros
import Derived.BigQuiet
import Derived.Deep.RegionHeld3
import Derived.Deep.RegionLaw
import Derived.BigRegion
set_option linter.unusedVariables false
set_option linter.unusedSimpArgs false
namespace Go.Proofs.YtplnaaokapilpaaGreatDoor.Vm
open Go Go.RowKit

set_option maxRecDepth 100000 in
set_option maxHeartbeats 8000000 in
theorem rcodP_any (h : Rh) (x : Rcd) (w : World) (hin : RhIn w w.heap.size h x) (hw : WfR x) (hn : x.ins.length ≤ 2001 ∧ x.ws.length ≤ 100000) :
    Calls Tryz.prog 51 #[rhV h] w fun e w' => ∃ v er, e = .returned (.tuple #[v, .int .i64 er]) ∧ (CanR x → er = 0 ∧ Own w' w.heap.size v (encR x)) ∧ (¬ CanR x → er = 1 ∧ v = .slice none 0 0) ∧ Below w.heap.size w w' := by
  have hB1 : Below w.heap.size w (w.alloc (rhO h)) := (Below.refl _ _).alloc (Nat.le_refl _) _
  have hs1 := rhAt_new w h
  obtain ⟨w1, hw1⟩ : ∃ w1, w1 = w.alloc (rhO h) := ⟨_, rfl⟩
  have hz1 : w1.heap.size = w.heap.size + 1 := by rw [hw1]; simp
  rw [← hw1] at hB1 hs1
  have HW := Lib.hid hw1
  have HB1 := Lib.hid hB1
  have HS := Lib.hid hs1
  have HIN := Lib.hid (hin.below hB1)
  have HWF := Lib.hid hw
  obtain ⟨hn1, hn3⟩ := hn
  have HN1 := Lib.hid hin.ins.1
  have HN2 := Lib.hid hin.cs.1
  have HN3 := Lib.hid hin.ws.1
  have HT := Lib.hid hin.tick
  have HK := Lib.hid hin.ck
  obtain ⟨t, a1, n1, c1, a2, n2, c2, a3, n3, c3, ck⟩ := h
  simp only [] at HN1 HN2 HN3 HT HK
  rw [HN1.out] at hn1
  rw [HN3.out] at hn3
  have HTI := Lib.hid fun (V : World) => rin_any t V
  obtain ⟨s0, s1, s2, s3, s4⟩ := id HS.out
  simp only [] at s0 s1 s2 s3 s4
  clear hin hB1 hs1 hw1 hw
  by_cases ht : ¬ InR t
  · have HNC : Hid (¬ CanR x) := fun hc => ht (by rw [HT.out]; exact hc.tick)
    rw [decide_eq_false ht] at HTI
    clear ht
    go_enter Tryz.func51, Tryz.ntmps51
    go_wp2_with fail
    rw [← HW.out]
    refine (HTI.out _).mono ?_
    rintro e V ⟨rfl, rfl⟩
    go_wp2_with fail
    go_ret2
    exact ⟨_, _, rfl, fun h => absurd h HNC.out, fun _ => ⟨rfl, rfl⟩, HB1.out⟩
  replace ht := Decidable.not_not.1 ht
  rw [decide_eq_true ht] at HTI
  have HTT := Lib.hid ht
  by_cases hcn : ¬ n2 = n1
  · have HNC : Hid (¬ CanR x) := fun hc => hcn (by rw [← HN1.out, ← HN2.out]; exact hc.cn)
    have hcn' : ((n2 : Int) != (n1 : Int)) = true := by simp; omega
    clear ht hcn
    go_enter Tryz.func51, Tryz.ntmps51
    go_wp2_with fail
    rw [← HW.out]
    refine (HTI.out _).mono ?_
    rintro e V ⟨rfl, rfl⟩
    go_wp2_with fail
    go_ret2
    exact ⟨_, _, rfl, fun h => absurd h HNC.out, fun _ => ⟨rfl, rfl⟩, HB1.out⟩
  replace hcn := Decidable.not_not.1 hcn
  subst hcn
  obtain ⟨ht0, ht1⟩ := ht
  go_enter Tryz.func51, Tryz.ntmps51
  go_wp2_with fail
  rw [← HW.out]
  refine (HTI.out _).mono ?_
  rintro e V ⟨rfl, rfl⟩
  have hws : w.heap.size < w1.heap.size := by omega
  go_wp2_with fail
  have k0 : Kept w1 w1 := Kept.refl _
  have HP1 := Lib.hid (rputk w1 t ht0 (by omega))
  have HE1 := encI_len t (by omega)
  have HE2 := encI_len (n2 : Int) (by omega)
  have HLE0 : Hid ((encI t).length + (encI (n2 : Int)).length ≤ 100000000) := by unfold Hid; omega
  have hkp0 : (0 : Int) ≤ (n2 : Int) := by omega
  have hkp1 : (n2 : Int) ≤ 9223372036854775807 := by omega
  have HKA : Hid (∀ V, Kept w1 V → Kept w1 V ∧ V.cell? ⟨w.heap.size, 0, none⟩ = some (.int .i64 t) ∧ V.cell? ⟨w.heap.size, 1, none⟩ = some (.slice a1 n2 c1)) := fun V hV => ⟨hV, (Below.cell hV (p := ⟨w.heap.size, 0, none⟩) hws).trans s0, (Below.cell hV (p := ⟨w.heap.size, 1, none⟩) hws).trans s1⟩
  go_region_held3 (fun V => Kept w1 V ∧ V.cell? ⟨w.heap.size, 0, none⟩ = some (.int .i64 t) ∧ V.cell? ⟨w.heap.size, 1, none⟩ = some (.slice a1 n2 c1))
    (first | exact HKA.out _ (by assumption) | exact HKA.out _ (Kept.drew (by assumption)))
    (first
      | (go_at_call 65; refine (HP1.out _ ?_).mono ?_; (first | exact k0 | exact Kept.drew k0); rintro e y1 ⟨pa, pc, rfl, own1, kd1⟩)
      | (go_at_call 65; refine (rputk y1 (n2 : Int) hkp0 hkp1 _ ?_).mono ?_; (first | exact Kept.refl _ | exact Kept.drew (Kept.refl _)); rintro e y2 ⟨ra, rc, rfl, own2, kq2⟩; have kd2 : Kept w1 y2 := kept_tr kd1 kq2)
      | (refine step_append_b (A := w1) rfl _ _ rfl rfl rfl (own1.calls kq2) own2 HLE0.out (Nat.le_refl _) kd2 ?_; intro v3 y3 own3 hg3 kd3))
  obtain ⟨O, hO⟩ : ∃ O, encI t ++ encI (n2 : Int) = O := ⟨_, rfl⟩
  have HO5 : Hid (Own y3 w1.heap.size v3 (O ++ ((x.ins.zip x.cs).take 0).flatMap encPut)) := by
    unfold Hid
    rw [List.take_zero, List.flatMap_nil, List.append_nil, ← hO]
    exact own3
  have HB5 : Hid (Below w1.heap.size w1 y3) := kd3
  have HOL : Hid (O.length ≤ 20) := by unfold Hid; rw [← hO, List.length_append]; omega
  have HOE := Lib.hid hO
  have HC0 : Hid (∀ j, j < 0 → 0 ≤ x.cs.getD j 0 ∧ x.cs.getD j 0 ≤ 255) := fun j hj => absurd hj (by omega)
  clear s0 s1 s2 s3 s4 own1 own2 own3 hg3 kd1 kd2 kd3 kq2 k0 HP1 HKA HE1 HE2 HLE0 hkp0 hkp1 hO
  go_wp2_with fail
  go_loopg [4, 5] n2 (fun gg v i wr => ∃ k : Nat, k ≤ n2 ∧ n2 - k ≤ gg ∧ i = .int .i64 k ∧ Hid (∀ j, j < k → 0 ≤ x.cs.getD j 0 ∧ x.cs.getD j 0 ≤ 255) ∧ Hid (Own wr w1.heap.size v (O ++ ((x.ins.zip x.cs).take k).flatMap encPut)) ∧ Hid ((((x.ins.zip x.cs).take k).flatMap encPut).length ≤ 50 * k) ∧ Hid (Below w1.heap.size w1 wr))
  case atStart => exact ⟨0, Nat.zero_le _, by omega, rfl, HC0.out, HO5.out, by simp [Hid], HB5.out⟩
  case round =>
    clear HC0 HO5 HB5
    obtain ⟨k, hkn, hgg, rfl, HCS, HO, HLN, HB⟩ := hrel
    have hzr := HB.out.size
    have hqs : w.heap.size < wr.heap.size := by omega
    obtain ⟨s0, s1, s2, s3, s4⟩ := HS.out.below HB.out hws
    simp only [] at s0 s1 s2 s3 s4
    by_cases hlt : k < n2
    · obtain ⟨rb, ro, rfl, hrb, hrs⟩ := HIN.out.ins.2.2.2 (show 0 < n2 by omega)
      obtain ⟨cb, co, rfl, hcb, hcc⟩ := HIN.out.cs.cells (show 0 < n2 by omega)
      obtain ⟨p1, p2, p3, p4⟩ := hrs k hlt
      have x0 := (HB.out.cell (p := ⟨rb, ro + k * 4, none⟩) (show rb < w1.heap.size by omega)).trans p1
      have x1 := (HB.out.cell (p := ⟨rb, ro + k * 4 + 1, none⟩) (show rb < w1.heap.size by omega)).trans p2
      have x2 := (HB.out.cell (p := ⟨rb, ro + k * 4 + 2, none⟩) (show rb < w1.heap.size by omega)).trans p3
      have x3 := (HB.out.cell (p := ⟨rb, ro + k * 4 + 3, none⟩) (show rb < w1.heap.size by omega)).trans p4
      have HYC := Lib.hid (hcc k hlt)
      have x4 := (HB.out.cell (p := ⟨cb, co + k, none⟩) (show cb < w1.heap.size by omega)).trans HYC.out
      have hki : k < x.ins.length := by rw [HN1.out]; exact hlt
      have HM := Lib.hid (zip_take (ins := x.ins) (cs := x.cs) (i := k) (by rw [HN1.out, HN2.out]) hki)
      have hwf := HWF.out.ins (x.ins.getD k zx) (by simp [List.getD, hki])
      obtain ⟨p, hp⟩ : ∃ p, x.ins.getD k zx = p := ⟨_, rfl⟩
      obtain ⟨y, hy⟩ : ∃ y, x.cs.getD k 0 = y := ⟨_, rfl⟩
      have HY := Lib.hid hy
      rw [hp] at x0 x1 x2 x3 HM hwf
      rw [hy] at x4 HM HYC
      have hk1 : (k : Int) < (n2 : Int) := by omega
      have hrbw : rb < wr.heap.size := by omega
      have hcbw : cb < wr.heap.size := by omega
      have hkc : k < x.cs.length := by rw [HN2.out]; exact hlt
      by_cases hyr : 0 ≤ y ∧ y ≤ 255
      · obtain ⟨Q, hQ⟩ : ∃ Q, O ++ ((x.ins.zip x.cs).take k).flatMap encPut = Q := ⟨_, rfl⟩
        have hQL : Q.length ≤ 102051 := by
          rw [← hQ, List.length_append]
          have := HOL.out
          have := HLN.out
          omega
        have HMQ : Hid (O ++ ((x.ins.zip x.cs).take (k + 1)).flatMap encPut = Q ++ encPut (p, y)) := by
          unfold Hid
          rw [HM.out, ← List.append_assoc, hQ]
        have HC1 : Hid (∀ j, j < k + 1 → 0 ≤ x.cs.getD j 0 ∧ x.cs.getD j 0 ≤ 255) := fun j hj => by
          rcases Nat.lt_succ_iff_lt_or_eq.1 hj with h1 | rfl
          · exact HCS.out j h1
          · rw [HY.out]; exact hyr
        obtain ⟨yr0, yr1⟩ := hyr
        obtain ⟨w0, w2, w3, w4⟩ := hwf
        have HLN1 : Hid ((((x.ins.zip x.cs).take (k + 1)).flatMap encPut).length ≤ 50 * (k + 1)) := by
          have h1 := encZ_len w0
          have h2 := encZ_len w2
          have h3 := encZ_len w3
          have h4 := encZ_len w4
          have h5 := encI_len y (by omega)
          have h6 : (encPut (p, y)).length ≤ 50 := by
            unfold encPut
            simp only [List.length_append]
            omega
          have h7 := HLN.out
          unfold Hid
          rw [HM.out, List.length_append]
          omega
        rw [hQ] at HO
        have e0 := encZ_len w0
        have e1 := encZ_len w2
        have e2 := encZ_len w3
        have e3 := encZ_len w4
        have e4 := encI_len y (by omega)
        have HW0 := Lib.hid w0
        have HW2 := Lib.hid w2
        have HW3 := Lib.hid w3
        have HW4 := Lib.hid w4
        obtain ⟨pk, pa, pb, pc⟩ := p
        simp only [] at x0 x1 x2 x3 e0 e1 e2 e3
        have y0' : ¬ y < 0 := by omega
        have y1' : ¬ (255 : Int) < y := by omega
        have hyw : IntKind.i64.wrap y = y := by
          simp only [IntKind.wrap_i64]
          omega
        clear hrs hcc p1 p2 p3 p4 hki hkc hp hy hQ HM HCS HLN w0 w2 w3 w4
        go_wp2_with fail
        obtain ⟨A0, hA0⟩ : ∃ A0, A0 = wr.alloc (.cells #[.int .i64 pk, .int .i64 pa, .int .i64 pb, .int .i64 pc] 99) := ⟨_, rfl⟩
        rw [← hA0]
        have hba : Below wr.heap.size wr A0 := by rw [hA0]; exact (Below.refl _ _).alloc (Nat.le_refl _) _
        have HC0 : Hid (BoxAt A0 wr.heap.size #[.int .i64 pk, .int .i64 pa, .int .i64 pb, .int .i64 pc] 99) := by unfold Hid; rw [hA0]; exact boxAt_new wr _ _
        have HO0 := Lib.hid (HO.out.calls hba)
        have HB0 := Lib.hid (HB.out.trans (hba.mono hzr))
        clear hA0 hba HO HB x0 x1 x2 x3 x4 s0 s1 s2 s3 s4
        have hBA := HB0.out.size
        refine (rsignk A0 pk HW0.out _ (Kept.refl _)).mono ?_
        rintro e y1 ⟨pa', pc', rfl, own1, kd1⟩
        obtain ⟨z1, A1, hrun, own2, hg2⟩ := run_append_b (w := y1) 22 (HO0.out.calls kd1) own1.row (by (try simp only [List.length_append]); omega) (Nat.le_trans hBA kd1.size)
        have HO1 := Lib.hid own2
        have HB1 := Lib.hid (HB0.out.trans ((Below.mono kd1 hBA).grown hg2 (Nat.le_trans hBA kd1.size) (fun k hk2 => (World.ownsRow.lt (HO0.out.calls kd1) k hk2).1)))
        have HC1 := Lib.hid ((BoxAt.calls HC0.out kd1).grown (HO0.out.calls kd1) hg2 (by decide))
        have c1 := BoxAt.cell HC1.out (i := 1) rfl
        clear HO0 HB0 HC0 own1 own2 kd1 hg2 hBA
        go_wp2_with (at_builtin; refine Lib.wpList_append_run _ rfl _ _ _ _ rfl _ _ rfl rfl _ _ hrun ?_)
        clear hrun
        have hBA := HB1.out.size
        refine (rsignk A1 pa HW2.out _ (Kept.refl _)).mono ?_
        rintro e y1 ⟨pa', pc', rfl, own1, kd1⟩
        obtain ⟨z2, A2, hrun, own2, hg2⟩ := run_append_b (w := y1) 22 (HO1.out.calls kd1) own1.row (by (try simp only [List.length_append]); omega) (Nat.le_trans hBA kd1.size)
        have HO2 := Lib.hid own2
        have HB2 := Lib.hid (HB1.out.trans ((Below.mono kd1 hBA).grown hg2 (Nat.le_trans hBA kd1.size) (fun k hk2 => (World.ownsRow.lt (HO1.out.calls kd1) k hk2).1)))
        have HC2 := Lib.hid ((BoxAt.calls HC1.out kd1).grown (HO1.out.calls kd1) hg2 (by decide))
        have c2 := BoxAt.cell HC2.out (i := 2) rfl
        clear HO1 HB1 HC1 own1 own2 kd1 hg2 hBA
        go_wp2_with (at_builtin; refine Lib.wpList_append_run _ rfl _ _ _ _ rfl _ _ rfl rfl _ _ hrun ?_)
        clear hrun
        have hBA := HB2.out.size
        refine (rsignk A2 pb HW3.out _ (Kept.refl _)).mono ?_
        rintro e y1 ⟨pa', pc', rfl, own1, kd1⟩
        obtain ⟨z3, A3, hrun, own2, hg2⟩ := run_append_b (w := y1) 22 (HO2.out.calls kd1) own1.row (by (try simp only [List.length_append]); omega) (Nat.le_trans hBA kd1.size)
        have HO3 := Lib.hid own2
        have HB3 := Lib.hid (HB2.out.trans ((Below.mono kd1 hBA).grown hg2 (Nat.le_trans hBA kd1.size) (fun k hk2 => (World.ownsRow.lt (HO2.out.calls kd1) k hk2).1)))
        have HC3 := Lib.hid ((BoxAt.calls HC2.out kd1).grown (HO2.out.calls kd1) hg2 (by decide))
        have c3 := BoxAt.cell HC3.out (i := 3) rfl
        clear HO2 HB2 HC2 own1 own2 kd1 hg2 hBA
        go_wp2_with (at_builtin; refine Lib.wpList_append_run _ rfl _ _ _ _ rfl _ _ rfl rfl _ _ hrun ?_)
        clear hrun
        have hBA := HB3.out.size
        refine (rsignk A3 pc HW4.out _ (Kept.refl _)).mono ?_
        rintro e y1 ⟨pa', pc', rfl, own1, kd1⟩
        obtain ⟨z4, A4, hrun, own2, hg2⟩ := run_append_b (w := y1) 22 (HO3.out.calls kd1) own1.row (by (try simp only [List.length_append]); omega) (Nat.le_trans hBA kd1.size)
        have HO4 := Lib.hid own2
        have HB4 := Lib.hid (HB3.out.trans ((Below.mono kd1 hBA).grown hg2 (Nat.le_trans hBA kd1.size) (fun k hk2 => (World.ownsRow.lt (HO3.out.calls kd1) k hk2).1)))
        have HC4 := Lib.hid ((BoxAt.calls HC3.out kd1).grown (HO3.out.calls kd1) hg2 (by decide))
        have s2 := (HS.out.below HB4.out hws).2.2.1
        simp only [] at s2
        have x4 := (HB4.out.cell (p := ⟨cb, co + k, none⟩) (show cb < w1.heap.size by omega)).trans HYC.out
        have hcb4 : cb < A4.heap.size := by have := HB4.out.size; omega
        clear HO3 HB3 HC3 own1 own2 kd1 hg2 hBA
        go_wp2_with (at_builtin; refine Lib.wpList_append_run _ rfl _ _ _ _ rfl _ _ rfl rfl _ _ hrun ?_)
        clear hrun
        have hBA := HB4.out.size
        refine (rputk A4 y yr0 (by omega) _ (Kept.refl _)).mono ?_
        rintro e y1 ⟨pa', pc', rfl, own1, kd1⟩
        obtain ⟨z5, A5, hrun, own2, hg2⟩ := run_append_b (w := y1) 22 (HO4.out.calls kd1) own1.row (by (try simp only [List.length_append]); omega) (Nat.le_trans hBA kd1.size)
        have HO5 := Lib.hid own2
        have HB5 := Lib.hid (HB4.out.trans ((Below.mono kd1 hBA).grown hg2 (Nat.le_trans hBA kd1.size) (fun k hk2 => (World.ownsRow.lt (HO4.out.calls kd1) k hk2).1)))
        have HC5 := Lib.hid ((BoxAt.calls HC4.out kd1).grown (HO4.out.calls kd1) hg2 (by decide))
        clear HO4 HB4 HC4 own1 own2 kd1 hg2 hBA
        go_wp2_with (at_builtin; refine Lib.wpList_append_run _ rfl _ _ _ _ rfl _ _ rfl rfl _ _ hrun ?_)
        clear hrun
        have HO6 : Hid (Own A5 w1.heap.size z5 (O ++ ((x.ins.zip x.cs).take (k + 1)).flatMap encPut)) := by
          have h1 := HO5.out
          unfold Hid
          rw [HMQ.out]
          unfold encPut
          simpa only [List.append_assoc] using h1
        clear HC5 HO5 HMQ
        go_roundg (n2 - (k + 1))
        case measure => omega
        case rel => exact ⟨k + 1, by omega, Nat.le_refl _, by go_num, HC1.out, HO6.out, HLN1.out, HB5.out⟩
      · have HNC : Hid (¬ CanR x) := fun hc => hyr (by rw [← HY.out]; exact hc.cs _ (by simp [List.getD, hkc]))
        have HBF := Lib.hid (HB1.out.trans (HB.out.mono (by omega)))
        have HBX : Hid (Below w.heap.size w (wr.alloc (inpO p 99))) := HBF.out.alloc (by omega) _
        obtain ⟨pk, pa, pb, pc⟩ := p
        simp only [] at x0 x1 x2 x3
        clear hrs hcc p1 p2 p3 p4 hki hkc hp hy HM HCS HLN HO HB hwf
        by_cases y0' : y < 0
        · clear hyr
          go_wp2_with fail
          go_ret2
          exact ⟨_, _, rfl, fun h => absurd h HNC.out, fun _ => ⟨rfl, rfl⟩, HBX.out⟩
        · have y1' : (255 : Int) < y := by omega
          clear hyr
          go_wp2_with fail
          go_ret2
          exact ⟨_, _, rfl, fun h => absurd h HNC.out, fun _ => ⟨rfl, rfl⟩, HBX.out⟩
    · obtain rfl : k = n2 := by omega
      rw [List.take_of_length_le (by rw [List.length_zip, HN1.out, HN2.out]; omega)] at HO HLN
      obtain ⟨P, hP⟩ : ∃ P, O ++ (x.ins.zip x.cs).flatMap encPut = P := ⟨_, rfl⟩
      have HPL : Hid (P.length ≤ 102051) := by
        unfold Hid
        rw [← hP, List.length_append]
        have := HOL.out
        have := HLN.out
        omega
      have HPE := Lib.hid hP
      rw [hP] at HO
      have HCC : Hid (∀ c ∈ x.cs, 0 ≤ c ∧ c ≤ 255) := fun c hc => by
        obtain ⟨j, hj, e⟩ := List.getElem_of_mem hc
        have := HCS.out j (by rw [← HN2.out]; exact hj)
        simp only [List.getD, List.getElem?_eq_getElem hj, Option.getD_some, e] at this
        exact this
      have hkk : ¬ (k : Int) < (k : Int) := by omega
      clear hlt hP HLN HCS
      go_upto_block 2 with fail
      obtain ⟨w6, hw6⟩ : ∃ w6, w6 = wr := ⟨_, rfl⟩
      subst hw6
      have HB6 := Lib.hid HB.out
      have hz6 : w1.heap.size ≤ w6.heap.size := hzr
      have HRU0 : Hid (runs x.ws = [] ++ runs (x.ws.drop 0)) := by unfold Hid; rw [List.drop_zero, List.nil_append]
      clear HB hzr s0 s1 s2 s3 s4 hqs
      go_wp2_with fail
      go_loopg [7, 8, 9] n3 (fun gg rv lv iv wr => ∃ (i : Nat) (D : List (Int × Nat)), rv = .int .i64 (D.length : Nat) ∧ iv = .int .i64 (i : Nat) ∧ i ≤ n3 ∧ n3 - i ≤ gg ∧ D.length ≤ i ∧ Hid (Own wr w6.heap.size lv (D.flatMap encRun)) ∧ Hid (runs x.ws = D ++ runs (x.ws.drop i)) ∧ Hid (∀ j, j < i → 0 ≤ x.ws.getD j 0 ∧ x.ws.getD j 0 ≤ 4) ∧ Hid (∀ p ∈ D, p.1 ≤ 4 ∧ p.2 ≤ 2147483647) ∧ Hid (Below w6.heap.size w6 wr))
      case atStart => exact ⟨0, [], rfl, rfl, Nat.zero_le _, by omega, Nat.le_refl _, World.ownsRow_nil _ _ _ _, HRU0.out, fun j hj => absurd hj (by omega), fun p hp => by simp at hp, Below.refl _ _⟩
      case round =>
        clear HRU0
        obtain ⟨i, D, rfl, rfl, hin3, hgg2, hDi, HLO, HRU, HWS, HDP, HV⟩ := hrel
        obtain ⟨w7, hw7⟩ : ∃ w7, w7 = wr := ⟨_, rfl⟩
        subst hw7
        have hzv := HV.out.size
        have HVW := Lib.hid (HB6.out.trans (HV.out.mono hz6))
        obtain ⟨s0, s1, s2, s3, s4⟩ := HS.out.below HVW.out hws
        simp only [] at s0 s1 s2 s3 s4
        by_cases hlt : i < n3
        · obtain ⟨vb, vo, rfl, hvb, hvs⟩ := HIN.out.ws.cells (show 0 < n3 by omega)
          have HVS := Lib.hid hvs
          have x0 := (HVW.out.cell (p := ⟨vb, vo + i, none⟩) (show vb < w1.heap.size by omega)).trans (hvs i hlt)
          obtain ⟨v, hv⟩ : ∃ v, x.ws.getD i 0 = v := ⟨_, rfl⟩
          have HVV := Lib.hid hv
          rw [hv] at x0
          have hk1 : (i : Int) < (n3 : Int) := by omega
          have hvbw : vb < w7.heap.size := by omega
          have hiw : i < x.ws.length := by rw [HN3.out]; exact hlt
          by_cases hvr : 0 ≤ v ∧ v ≤ 4
          · obtain ⟨vr0, vr1⟩ := hvr
            have vr0' : ¬ v < 0 := by omega
            have vr1' : ¬ (4 : Int) < v := by omega
            clear hvs hv
            go_upto_block 4 with fail
            go_cut [10] (fun nv V => ∃ m : Nat, nv = .int .i64 (m : Nat) ∧ 1 ≤ m ∧ i + m ≤ n3 ∧ Hid (∀ j, j < m → x.ws.getD (i + j) 0 = v) ∧ Hid (i + m < n3 → x.ws.getD (i + m) 0 ≠ v) ∧ Hid (Below w7.heap.size w7 V))
            case first =>
              have HM0 : Hid (∀ j, j < 0 → x.ws.getD (i + j) 0 = v) := fun j hj => absurd hj (by omega)
              go_wp2_with fail
              go_loopg [10] (n3 - i) (fun gg nv wq => ∃ m : Nat, nv = .int .i64 (m : Nat) ∧ i + m ≤ n3 ∧ n3 - i - m ≤ gg ∧ Hid (∀ j, j < m → x.ws.getD (i + j) 0 = v) ∧ Hid (Below w7.heap.size w7 wq))
              case atStart => exact ⟨0, rfl, by omega, by omega, HM0.out, Below.refl _ _⟩
              case round =>
                clear HM0
                obtain ⟨m, rfl, him, hgg3, HME, HQ⟩ := hrel
                have hwm : IntKind.i64.wrap ((i : Int) + (m : Int)) = ((i + m : Nat) : Int) := by
                  simp only [IntKind.wrap_i64]
                  omega
                have r3 := (HQ.out.cell (p := ⟨w.heap.size, 3, none⟩) (show w.heap.size < w7.heap.size by omega)).trans s3
                have r0 := (HQ.out.cell (p := ⟨vb, vo + i, none⟩) hvbw).trans x0
                obtain ⟨q, hq⟩ : ∃ q, i + m = q := ⟨_, rfl⟩
                have HQE := Lib.hid hq
                rw [hq] at hwm him
                have hmi : m ≤ 100000 := by omega
                by_cases hqn : q < n3
                · have r1 := (HQ.out.cell (p := ⟨vb, vo + q, none⟩) hvbw).trans ((HVW.out.cell (p := ⟨vb, vo + q, none⟩) (show vb < w1.heap.size by omega)).trans (HVS.out q hqn))
                  obtain ⟨u, hu⟩ : ∃ u, x.ws.getD q 0 = u := ⟨_, rfl⟩
                  have HU := Lib.hid hu
                  rw [hu] at r1
                  have hq1 : (q : Int) < (n3 : Int) := by omega
                  have hq0 : (0 : Int) ≤ (q : Int) := by omega
                  by_cases huv : u = v
                  · have HME2 : Hid (∀ j, j < m + 1 → x.ws.getD (i + j) 0 = v) := fun j hj => by
                      rcases Nat.lt_succ_iff_lt_or_eq.1 hj with h1 | rfl
                      · exact HME.out j h1
                      · rw [HQE.out, HU.out, huv]
                    have e1 : (u == v) = true := by simpa using huv
                    clear hq hu HME huv s0 s1 s2 s3 s4 x0
                    go_wp2_with fail
                    go_quiet (fail)
                    have HQ2 := Lib.hid (below_drewN HQ.out nq)
                    go_wp2_with fail
                    go_roundg (n3 - i - (m + 1))
                    case measure => (have := HQE.out; omega)
                    case rel => exact ⟨m + 1, by go_num, by have := HQE.out; omega, Nat.le_refl _, HME2.out, HQ2.out⟩
                  · have e1 : (u == v) = false := by simpa using huv
                    have HNE : Hid (i + m < n3 → x.ws.getD (i + m) 0 ≠ v) := fun _ => by rw [HQE.out, HU.out]; exact huv
                    have hm1 : 1 ≤ m := by
                      rcases Nat.eq_zero_or_pos m with h0 | h0
                      · exfalso
                        have h1 := HQE.out
                        rw [h0, Nat.add_zero] at h1
                        rw [← h1, HVV.out] at hu
                        exact huv hu.symm
                      · exact h0
                    clear hq hu huv s0 s1 s2 s3 s4 x0
                    go_wp2_with fail
                    go_quiet (fail)
                    have HQ2 := Lib.hid (below_drewN HQ.out nq)
                    go_wp2_with fail
                    go_meet
                    exact ⟨m, rfl, hm1, by have := HQE.out; omega, HME.out, HNE.out, HQ2.out⟩
                · have hq1 : ¬ (q : Int) < (n3 : Int) := by omega
                  have HNE : Hid (i + m < n3 → x.ws.getD (i + m) 0 ≠ v) := fun h => absurd h (by have := HQE.out; omega)
                  have hm1 : 1 ≤ m := by omega
                  clear hq s0 s1 s2 s3 s4 x0
                  go_wp2_with fail
                  go_quiet (fail)
                  have HQ2 := Lib.hid (below_drewN HQ.out nq)
                  go_wp2_with fail
                  go_meet
                  exact ⟨m, rfl, hm1, by have := HQE.out; omega, HME.out, HNE.out, HQ2.out⟩
            case rest =>
              obtain ⟨m, rfl, hm1, him, HME, HNE, HQ⟩ := hcut
              have HQV := Lib.hid (HV.out.trans (HQ.out.mono hzv))
              have HRU2 : Hid (runs x.ws = (D ++ [(v, m)]) ++ runs (x.ws.drop (i + m))) := by
                unfold Hid
                rw [HRU.out, run_at hm1 (by rw [HN3.out]; exact him) (fun j hj => by rw [HME.out j hj, HVV.out]) (fun h => by rw [HVV.out]; exact HNE.out (by rw [← HN3.out]; exact h)), HVV.out, List.append_assoc]
                rfl
              have HWS2 : Hid (∀ j, j < i + m → 0 ≤ x.ws.getD j 0 ∧ x.ws.getD j 0 ≤ 4) := fun j hj => by
                by_cases h1 : j < i
                · exact HWS.out j h1
                · obtain ⟨d, rfl⟩ : ∃ d, j = i + d := ⟨j - i, by omega⟩
                  rw [HME.out d (by omega)]
                  exact ⟨vr0, vr1⟩
              have HDP2 : Hid (∀ p ∈ D ++ [(v, m)], p.1 ≤ 4 ∧ p.2 ≤ 2147483647) := fun p hp => by
                rcases List.mem_append.1 hp with h1 | h1
                · exact HDP.out p h1
                · rw [List.mem_singleton.1 h1]
                  exact ⟨vr1, by show m ≤ 2147483647; omega⟩
              have hlD := encRuns_le HDP.out
              obtain ⟨F, hF⟩ : ∃ F, D.flatMap encRun = F := ⟨_, rfl⟩
              have HF := Lib.hid hF
              rw [hF] at HLO hlD
              have r3 := (HQ.out.cell (p := ⟨w.heap.size, 3, none⟩) (show w.heap.size < w7.heap.size by omega)).trans s3
              have r0 := (HQ.out.cell (p := ⟨vb, vo + i, none⟩) hvbw).trans x0
              have hzc := HQ.out.size
              have hvbc : vb < wc.heap.size := by omega
              have ev := encI_len v (by omega)
              have em := encI_len ((m : Int) - 1) (by omega)
              have HLQ := Lib.hid (HLO.out.calls HQ.out)
              have hbl : w6.heap.size ≤ wc.heap.size := by omega
              clear s0 s1 s2 s3 s4 x0 hF HRU HWS HME HNE HLO HDP HQ
              go_wp2_with fail
              refine (rputk wc v vr0 (by omega) _ (Kept.refl _)).mono ?_
              rintro e y1 ⟨pa, pc, rfl, own1, kd1⟩
              obtain ⟨z1, A1, hrun, own2, hg2⟩ := run_append_b (w := y1) 22 (HLQ.out.calls kd1) own1.row (by omega) (Nat.le_trans hbl kd1.size)
              have hb1 : Below w6.heap.size wc A1 := (Below.mono kd1 hbl).grown hg2 (Nat.le_trans hbl kd1.size) (fun k hk2 => (World.ownsRow.lt (HLQ.out.calls kd1) k hk2).1)
              have HL1 := Lib.hid own2
              have hb1z := hb1.size
              have HB1' := Lib.hid hb1
              clear own1 own2 hg2 kd1 hb1 HLQ
              go_wp2_with (at_builtin; refine Lib.wpList_append_run _ rfl _ _ _ _ rfl _ _ rfl rfl _ _ hrun ?_)
              clear hrun
              refine (rputk A1 ((m : Int) - 1) (by omega) (by omega) _ (Kept.refl _)).mono ?_
              rintro e y2 ⟨pa2, pc2, rfl, own1, kd1⟩
              obtain ⟨z2, A2, hrun, own2, hg2⟩ := run_append_b (w := y2) 22 (HL1.out.calls kd1) own1.row (by rw [List.length_append]; omega) (Nat.le_trans hbl (Nat.le_trans hb1z kd1.size))
              have hb2 : Below w6.heap.size A1 A2 := (Below.mono kd1 (Nat.le_trans hbl hb1z)).grown hg2 (Nat.le_trans hbl (Nat.le_trans hb1z kd1.size)) (fun k hk2 => (World.ownsRow.lt (HL1.out.calls kd1) k hk2).1)
              obtain ⟨D', hD'⟩ : ∃ D', D ++ [(v, m)] = D' := ⟨_, rfl⟩
              have HL2 : Hid (Own A2 w6.heap.size z2 (D'.flatMap encRun)) := by
                unfold Hid
                rw [← hD', List.flatMap_append, HF.out, List.flatMap_singleton]
                unfold encRun
                simp only []
                rw [← List.append_assoc]
                have h1 := own2
                unfold encI at h1 ⊢
                rw [show ((m : Int) - 1).toNat = m - 1 by omega] at h1
                exact h1
              have HV2 := Lib.hid ((HQV.out.trans HB1'.out).trans hb2)
              rw [hD'] at HRU2 HDP2
              have hDl : D'.length = D.length + 1 := by rw [← hD', List.length_append]; rfl
              have hDl2 : ((D'.length : Nat) : Int) = (D.length : Int) + 1 := by omega
              clear own1 own2 hg2 kd1 hb2 HL1 hD' HF HQV HB1'
              go_wp2_with (at_builtin; refine Lib.wpList_append_run _ rfl _ _ _ _ rfl _ _ rfl rfl _ _ hrun ?_)
              go_roundg (n3 - (i + m))
              case measure => omega
              case rel => exact ⟨i + m, D', by rw [hDl]; go_num, by go_num, him, Nat.le_refl _, by omega, HL2.out, HRU2.out, HWS2.out, HDP2.out, HV2.out⟩
          · have HNC : Hid (¬ CanR x) := fun hc => hvr (by rw [← HVV.out]; exact hc.ws _ (by simp [List.getD, hiw]))
            have HBF := Lib.hid (HB1.out.trans (HVW.out.mono (by omega)))
            clear hvs hv HLO HRU HWS HDP HV HVS
            by_cases y0' : v < 0
            · clear hvr
              go_wp2_with fail
              go_ret2
              exact ⟨_, _, rfl, fun h => absurd h HNC.out, fun _ => ⟨rfl, rfl⟩, HBF.out⟩
            · have y1' : (4 : Int) < v := by omega
              clear hvr
              go_wp2_with fail
              go_ret2
              exact ⟨_, _, rfl, fun h => absurd h HNC.out, fun _ => ⟨rfl, rfl⟩, HBF.out⟩
        · obtain rfl : i = n3 := by omega
          have HRE : Hid (runs x.ws = D) := by
            have h1 := HRU.out
            rw [List.drop_of_length_le (by rw [HN3.out]; exact Nat.le_refl _)] at h1
            unfold Hid
            rw [h1]
            simp [runs]
          have HCAN : Hid (CanR x) := ⟨by rw [← HT.out]; exact HTT.out, by rw [HN1.out, HN2.out], HCC.out, fun u hu => by
            obtain ⟨j, hj, e⟩ := List.getElem_of_mem hu
            have := HWS.out j (by rw [← HN3.out]; exact hj)
            simp only [List.getD, List.getElem?_eq_getElem hj, Option.getD_some, e] at this
            exact this⟩
          obtain ⟨ck0, ck1⟩ := HWF.out.ck
          rw [← HK.out] at ck0 ck1
          obtain ⟨ckn, hckn⟩ := Int.eq_ofNat_of_zero_le ck0
          have hlD := encRuns_le HDP.out
          obtain ⟨F, hF⟩ : ∃ F, D.flatMap encRun = F := ⟨_, rfl⟩
          rw [hF] at HLO hlD
          have HER : Hid (encR x = P ++ encI (D.length : Int) ++ F ++ enc ckn) := by
            unfold Hid encR
            rw [← HPE.out, ← HOE.out, HRE.out, hF, ← HT.out, ← HK.out, hckn, HN1.out]
            unfold encI
            simp only [Int.toNat_natCast, List.append_assoc]
          subst hckn
          obtain ⟨la, lc, hlv, _⟩ := HLO.out.slice
          have hFl : F.length ≤ 2100000 := by omega
          obtain ⟨fl, hfl⟩ : ∃ fl, F.length = fl := ⟨_, rfl⟩
          rw [hfl] at hlv hFl
          have hpl := HPL.out
          have eD := encI_len (D.length : Int) (by omega)
          have hckw : ckn < 18446744073709551616 := by omega
          have eck := (enc_len64 hckw).2
          have HOW := Lib.hid (HO.out.calls HV.out)
          have hNE : ∀ kk, u8.ownBlock = some kk → u4.ownBlock ≠ some kk := fun kk h1 h2 => by
            have h3 := (World.ownsRow.lt HLO.out kk h1).1
            have h4 := (World.ownsRow.lt HO.out kk h2).2
            omega
          have hne : u8.ownBlock = none ∨ u8.ownBlock ≠ u4.ownBlock := by
            cases h : u8.ownBlock with
            | none => exact .inl rfl
            | some kk => exact .inr (fun e => hNE kk h e.symm)
          have hb7 : w1.heap.size ≤ w7.heap.size := by omega
          have hkk2 : ¬ (i : Int) < (i : Int) := by omega
          have HNE := Lib.hid hne
          subst hlv
          clear hlt HRU HWS HDP hF hNE hne hlD HO
          go_wp2_with fail
          refine (rputk w7 (D.length : Int) (by omega) (by omega) _ (Kept.refl _)).mono ?_
          rintro e y1 ⟨pa, pc, rfl, own1, kd1⟩
          obtain ⟨z1, A1, hrun, own2, hg2⟩ := run_append_b (w := y1) 22 (HOW.out.calls kd1) own1.row (by omega) (Nat.le_trans hb7 kd1.size)
          have hl1 : Own A1 w6.heap.size (.slice la fl lc) F := World.ownsRow.kept (HLO.out.calls kd1) hg2 HNE.out
          have hb1 : Below w1.heap.size w7 A1 := (Below.mono kd1 hb7).grown hg2 (Nat.le_trans hb7 kd1.size) (fun k hk2 => (World.ownsRow.lt (HOW.out.calls kd1) k hk2).1)
          obtain ⟨z2, A2, hrun2, own3, hg3⟩ := run_append_b (w := A1) 22 own2 hl1.row (by rw [List.length_append]; omega) (Nat.le_trans hb7 hb1.size)
          have hb2 : Below w1.heap.size w7 A2 := hb1.grown hg3 (Nat.le_trans hb7 hb1.size) (fun k hk2 => (World.ownsRow.lt own2 k hk2).1)
          have HB2 := Lib.hid (HVW.out.trans hb2)
          have HO2 := Lib.hid own3
          have hb2z := hb2.size
          have hfle : F.length = fl := hfl
          have r4 := (hb2.cell (p := ⟨w.heap.size, 4, none⟩) hws).trans s4
          clear own1 own2 own3 hg2 hg3 kd1 hl1 hb1 hb2 HLO HOW HNE s0 s1 s2 s3 s4
          go_wp2_with (at_builtin; first | refine Lib.wpList_append_run _ rfl _ _ _ _ rfl _ _ rfl rfl _ _ hrun ?_ | refine Lib.wpList_append_run _ rfl _ _ _ _ rfl _ _ rfl rfl _ _ hrun2 ?_)
          clear hrun hrun2
          refine (rput_one ckn A2 hckw).mono ?_
          rintro e y3 ⟨v4, rfl, own4, hb4⟩
          obtain ⟨va, vc, rfl, hrow4⟩ := own4.slice
          obtain ⟨z3, A3, hrun3, own5, hg5⟩ := run_append_b (w := y3) 22 (HO2.out.calls hb4) hrow4 (by simp only [List.length_append]; omega) (by have := hb4.size; omega)
          have HBF := Lib.hid ((HB1.out.trans ((HB2.out.trans ((Below.mono hb4 (show w1.heap.size ≤ A2.heap.size by omega)).grown hg5 (by have := hb4.size; omega) (fun k hk2 => (World.ownsRow.lt (HO2.out.calls hb4) k hk2).1))).mono (by omega))))
          have HOF : Hid (Own A3 w.heap.size z3 (encR x)) := by
            unfold Hid
            rw [HER.out]
            exact Own.mono own5 (by omega)
          clear own4 hb4 hrow4 own5 hg5 HB2 HO2 HER
          go_wp2_with (at_builtin; refine Lib.wpList_append_run _ rfl _ _ _ _ rfl _ _ rfl rfl _ _ hrun3 ?_)
          go_ret2
          exact ⟨_, _, rfl, fun _ => ⟨rfl, HOF.out⟩, fun h => absurd HCAN.out h, HBF.out⟩
end Go.Proofs.YtplnaaokapilpaaGreatDoor.Vm

namespace Go.Proofs.YtplnaaokapilpaaGreatDoor.Vm
open Go Go.RowKit

/-- An append of one int, and of five, as they are laid for it. -/
theorem append_one {w : World} {B : Nat} {v : Value} {out : List Int} (x : Int) (hown : OwnZ w B v out) (hlen : out.length ≤ 910000) (hB : B ≤ w.heap.size) :
    ∃ v' w', (Builtin.append_ #[23, 23] 23 #[v, .slice (some ⟨w.heap.size, 0, none⟩) 1 1]).run Tryz.prog (w.alloc (.cells #[.int .i64 x] 3)) = .ok v' w' ∧ OwnZ w' B v' (out ++ [x]) ∧ Below B w w' := by
  have hba : Below w.heap.size w (w.alloc (.cells #[.int .i64 x] 3)) := (Below.refl _ _).alloc (Nat.le_refl _) _
  obtain ⟨v', w', h1, h2, h3⟩ := run_append_z (w := w.alloc (.cells #[.int .i64 x] 3)) 23 (own_upto hown hba (fun k hk => (World.ownsRow.lt hown k hk).2)) (rowZ_lit w [x] 3 (by simp)) (by simp; omega) (by simp; omega)
  exact ⟨v', w', h1, h2, (hba.mono hB).trans h3⟩
theorem append_five {w : World} {B : Nat} {v : Value} {out : List Int} (o : Obj) (a b c d e : Int) (hown : OwnZ w B v out) (hlen : out.length ≤ 900000) (hB : B ≤ w.heap.size) :
    ∃ v' w', (Builtin.append_ #[23, 23] 23 #[v, .slice (some ⟨w.heap.size + 1, 0, none⟩) 5 5]).run Tryz.prog ((w.alloc o).alloc (.cells #[.int .i64 a, .int .i64 b, .int .i64 c, .int .i64 d, .int .i64 e] 3)) = .ok v' w' ∧ OwnZ w' B v' (out ++ [a, b, c, d, e]) ∧ Below B w w' := by
  have hb0 : Below w.heap.size w (w.alloc o) := (Below.refl _ _).alloc (Nat.le_refl _) _
  have hz : (w.alloc o).heap.size = w.heap.size + 1 := by simp
  have hba : Below w.heap.size w ((w.alloc o).alloc (.cells #[.int .i64 a, .int .i64 b, .int .i64 c, .int .i64 d, .int .i64 e] 3)) := hb0.alloc (by omega) _
  have hr := rowZ_lit (w.alloc o) [a, b, c, d, e] 3 (by simp)
  rw [hz] at hr
  obtain ⟨v', w', h1, h2, h3⟩ := run_append_z (w := (w.alloc o).alloc (.cells #[.int .i64 a, .int .i64 b, .int .i64 c, .int .i64 d, .int .i64 e] 3)) 23 (own_upto hown hba (fun k hk => (World.ownsRow.lt hown k hk).2)) hr (by simp; omega) (by simp; omega)
  exact ⟨v', w', h1, h2, (hba.mono hB).trans h3⟩


end Go.Proofs.YtplnaaokapilpaaGreatDoor.Vm

namespace Go.Proofs.YtplnaaokapilpaaGreatDoor.Vm
open Go Go.RowKit







end Go.Proofs.YtplnaaokapilpaaGreatDoor.Vm
