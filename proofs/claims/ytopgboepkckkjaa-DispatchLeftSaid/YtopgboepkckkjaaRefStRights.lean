/- The contract of the document's Right on states. -/
import Derived.Test.YtopgboepkckkjaaRefFinds
import Derived.Test.YtopgboepkckkjaaStRights
import Derived.Test.YtopgboepkckkjaaHeldRegion
namespace Go.Proofs.Ytopgboepkckkjaa.Vm
open Go Go.RowKit

theorem robots_no {fl : Int → Bool} {s : St} {i : Nat} (hi : i < s.rs.length) (h : ¬ RobP fl s i) : rightB fl s = false := yes_false fun hh => h ((rightP_ref.1 hh).2.1 i hi)
theorem tasks_no {fl : Int → Bool} {s : St} {i : Nat} (hi : i < s.ts.length) (h : ¬ TaskP fl s i) : rightB fl s = false := yes_false fun hh => h ((rightP_ref.1 hh).2.2.1 i hi)
theorem shuts_no {fl : Int → Bool} {s : St} {i : Nat} (hi : i < s.bl.length) (h : ¬ ShutP fl s.bl i) : rightB fl s = false := yes_false fun hh => h (hh.shut i hi)

set_option maxRecDepth 100000 in
set_option maxHeartbeats 2000000 in
theorem rstRight_any (W H : Int) (g : ByteArray) (h : Sh) (s : St) (B : Nat) (w : World) (hg : g.size ≤ maxLen) (hin : StIn w B h s) (hB : B ≤ w.heap.size) :
    Calls Try.prog 13 #[gridV W H g, shV h] w fun e w' => e = .returned (.bool (rightB (floorS (bytesOf g)) s)) ∧ Below w.heap.size w w' := by
  obtain ⟨w2, hw2, hB2, hz2, hg2, hs2⟩ := gs_head w W H g h
  have HIN := Lib.hid (hin.mono hB)
  have HT := Lib.hid hin.tick
  have HRL := Lib.hid hin.rs.1
  have HTL := Lib.hid hin.ts.1
  have HBL := Lib.hid hin.bl.1
  have HBC := Lib.hid hin.bl.cells
  have HW2 := Lib.hid hw2
  have HG := Lib.hid hg
  have HG2 := Lib.hid hg2
  have HS2 := Lib.hid hs2
  have hm1 := hin.rs.len
  have hm2 := hin.ts.len
  have hm3 := Nat.le_trans hin.bl.2.1 hin.bl.2.2.1
  have HRB := Lib.hid fun (i : Nat) (hi : i < s.rs.length) (hn : h.n1 ≤ 1000000) (V : World) (hV : Below w.heap.size w V) => rrobot_any W H g h s i w.heap.size V hg ((hin.mono hB).below hV) hV.size hi hn
  have HTB := Lib.hid fun (i : Nat) (hi : i < s.ts.length) (V : World) (hV : Below w.heap.size w V) => rtask_any W H g h s i w.heap.size V hg ((hin.mono hB).below hV) hV.size hi
  obtain ⟨t, a1, n1, c1, a2, n2, c2, a3, n3, c3⟩ := h
  obtain ⟨tick, rs, ts, bl⟩ := s
  simp only [] at hm1 hm2 hm3 HT HRL HTL HBL HRB HTB HBC
  unfold maxLen at hm1 hm2 hm3
  obtain ⟨g1, g2, g3⟩ := hg2
  obtain ⟨s0, s1, s2, s3⟩ := hs2
  simp only [] at s0 s1 s2 s3
  obtain ⟨fl, hfl⟩ : ∃ fl, floorS (bytesOf g) = fl := ⟨_, rfl⟩
  rw [hfl]
  rw [hfl] at HRB HTB
  have HFL := Lib.hid hfl
  have hno : ∀ p : Prop, (RightP fl ⟨tick, rs, ts, bl⟩ → p) → ¬ p → rightB fl ⟨tick, rs, ts, bl⟩ = false := fun p h1 h2 => yes_false fun h3 => h2 (h1 h3)
  have HNO := Lib.hid hno
  have HBA := Lib.hid hB2
  rw [HW2.out] at HBA
  clear hin hw2 hg hfl hno
  by_cases ht0 : t < 0
  · have HY := Lib.hid (HNO.out _ (fun h => h.tick) (by show ¬ (0 ≤ tick ∧ tick ≤ 2147483647); have := HT.out; omega))
    go_enter Try.func13, Try.ntmps13
    go_wp2_with fail
    go_ret
    exact ⟨ret_bool HY.out.symm, HBA.out⟩
  by_cases ht1 : 2147483647 < t
  · have HY := Lib.hid (HNO.out _ (fun h => h.tick) (by show ¬ (0 ≤ tick ∧ tick ≤ 2147483647); have := HT.out; omega))
    go_enter Try.func13, Try.ntmps13
    go_wp2_with fail
    go_ret
    exact ⟨ret_bool HY.out.symm, HBA.out⟩
  by_cases hn1 : 1024 < n1
  · have HY := Lib.hid (HNO.out _ (fun h => h.rn) (by show ¬ rs.length ≤ 1024; rw [HRL.out]; omega))
    go_enter Try.func13, Try.ntmps13
    go_wp2_with fail
    go_ret
    exact ⟨ret_bool HY.out.symm, HBA.out⟩
  by_cases hn2 : 1000 < n2
  · have HY := Lib.hid (HNO.out _ (fun h => h.tn) (by show ¬ ts.length ≤ 1000; rw [HTL.out]; omega))
    go_enter Try.func13, Try.ntmps13
    go_wp2_with fail
    go_ret
    exact ⟨ret_bool HY.out.symm, HBA.out⟩
  have HHEAD : Hid ((0 ≤ tick ∧ tick ≤ 2147483647) ∧ rs.length ≤ 1024 ∧ ts.length ≤ 1000) := by
    have h1 := HT.out
    have h2 := HRL.out
    have h3 := HTL.out
    exact ⟨by omega, by omega, by omega⟩
  go_enter Try.func13, Try.ntmps13
  go_wp2_with fail
  rw [← HW2.out]
  clear g1 g2 g3 s0 s1 s2 s3 ht0 ht1
  go_loopw [5] (fun i wr => ∃ k : Nat, k ≤ n1 ∧ i = .int .i64 k ∧ Below w2.heap.size w2 wr ∧ Hid (∀ j, j < k → RobP fl ⟨tick, rs, ts, bl⟩ j)) (fun i _ => n1 - (intOf i).toNat)
  case atStart => exact ⟨0, Nat.zero_le _, rfl, Below.refl _ _, fun j hj => absurd hj (Nat.not_lt_zero _)⟩
  case round =>
    obtain ⟨k, hk, rfl, hbel, HA⟩ := hrel
    have hBr := hB2.trans (hbel.mono hB2.size)
    obtain ⟨g1, g2, g3⟩ := HG2.out.below hbel (by omega)
    obtain ⟨s0, s1, s2, s3⟩ := HS2.out.below hbel (by omega)
    simp only [] at s0 s1 s2 s3
    by_cases hlt : k < n1
    · have HKN : Hid (k < rs.length) := by unfold Hid; rw [HRL.out]; exact hlt
      have HC := Lib.hid (HRB.out k HKN.out (by omega) _ hBr)
      by_cases hp : ¬ RobP fl ⟨tick, rs, ts, bl⟩ k
      · have HY := Lib.hid (robots_no (s := ⟨tick, rs, ts, bl⟩) HKN.out hp)
        rw [yes_false hp] at HC
        clear hp
        go_wp2_with fail
        refine HC.out.mono ?_
        rintro e w3 ⟨rfl, hv3⟩
        have hB3 := hBr.trans (hv3.mono hBr.size)
        go_wp2_with fail
        go_ret
        exact ⟨ret_bool HY.out.symm, hB3⟩
      · have HP := Lib.hid (Classical.not_not.1 hp)
        rw [yes_true HP.out] at HC
        clear hp
        go_wp2_with fail
        refine HC.out.mono ?_
        rintro e w3 ⟨rfl, hv3⟩
        go_wp2_with fail
        go_roundw
        case rel => exact ⟨k + 1, by omega, by go_num, hbel.trans (hv3.mono hbel.size), upto_more HA.out HP.out⟩
        case measure => simp [intOf]; omega
    · have hkn : k = n1 := by omega
      rw [hkn] at HA
      have HAR : Hid (∀ i, i < rs.length → RobP fl ⟨tick, rs, ts, bl⟩ i) := by unfold Hid; rw [HRL.out]; exact HA.out
      clear HA hkn hk HRB
      go_wp2_with fail
      clear g1 g2 g3 s0 s1 s2 s3
      go_loopw [6] (fun i wr => ∃ k : Nat, k ≤ n2 ∧ i = .int .i64 k ∧ Below w2.heap.size w2 wr ∧ Hid (∀ j, j < k → TaskP fl ⟨tick, rs, ts, bl⟩ j)) (fun i _ => n2 - (intOf i).toNat)
      case atStart => exact ⟨0, Nat.zero_le _, rfl, hbel, fun j hj => absurd hj (Nat.not_lt_zero _)⟩
      case round =>
        clear hbel hBr
        obtain ⟨k, hk, rfl, hbel, HA⟩ := hrel
        have hBr := hB2.trans (hbel.mono hB2.size)
        obtain ⟨g1, g2, g3⟩ := HG2.out.below hbel (by omega)
        obtain ⟨s0, s1, s2, s3⟩ := HS2.out.below hbel (by omega)
        simp only [] at s0 s1 s2 s3
        by_cases hlt : k < n2
        · have HKN : Hid (k < ts.length) := by unfold Hid; rw [HTL.out]; exact hlt
          have HC := Lib.hid (HTB.out k HKN.out _ hBr)
          by_cases hp : ¬ TaskP fl ⟨tick, rs, ts, bl⟩ k
          · have HY := Lib.hid (tasks_no (s := ⟨tick, rs, ts, bl⟩) HKN.out hp)
            rw [yes_false hp] at HC
            clear hp
            go_wp2_with fail
            refine HC.out.mono ?_
            rintro e w3 ⟨rfl, hv3⟩
            have hB3 := hBr.trans (hv3.mono hBr.size)
            go_wp2_with fail
            go_ret
            exact ⟨ret_bool HY.out.symm, hB3⟩
          · have HP := Lib.hid (Classical.not_not.1 hp)
            rw [yes_true HP.out] at HC
            clear hp
            go_wp2_with fail
            refine HC.out.mono ?_
            rintro e w3 ⟨rfl, hv3⟩
            go_wp2_with fail
            go_roundw
            case rel => exact ⟨k + 1, by omega, by go_num, hbel.trans (hv3.mono hbel.size), upto_more HA.out HP.out⟩
            case measure => simp [intOf]; omega
        · have hkn : k = n2 := by omega
          rw [hkn] at HA
          have HAT : Hid (∀ i, i < ts.length → TaskP fl ⟨tick, rs, ts, bl⟩ i) := by unfold Hid; rw [HTL.out]; exact HA.out
          clear HA hkn hk HTB
          go_wp2_with fail
          clear g1 g2 g3 s0 s1 s2 s3
          go_loopw [7] (fun i wr => ∃ k : Nat, k ≤ n3 ∧ i = .int .i64 k ∧ Below w2.heap.size w2 wr ∧ Hid (∀ j, j < k → ShutP fl bl j)) (fun i _ => n3 - (intOf i).toNat)
          case atStart => exact ⟨0, Nat.zero_le _, rfl, hbel, fun j hj => absurd hj (Nat.not_lt_zero _)⟩
          case round =>
            clear hbel hBr
            obtain ⟨k, hk, rfl, hbel, HA⟩ := hrel
            have hBr := hB2.trans (hbel.mono hB2.size)
            have hzr := hbel.size
            have hgr := HG2.out.below hbel (by omega)
            have hsr := HS2.out.below hbel (by omega)
            obtain ⟨g1, g2, g3⟩ := id hgr
            obtain ⟨s0, s1, s2, s3⟩ := id hsr
            simp only [] at s0 s1 s2 s3
            by_cases hlt : k < n3
            · obtain ⟨b, off, rfl, hb, hcs⟩ := HBC.out (by omega)
              have hcell := (hBr.cell (p := ⟨b, off + k, none⟩) (show b < w.heap.size by omega)).trans (hcs k hlt)
              have HKN : Hid (k < bl.length) := by unfold Hid; rw [HBL.out]; exact hlt
              have hx : ∃ x, bl.getD k 0 = x := ⟨_, rfl⟩
              obtain ⟨x, hx⟩ := hx
              rw [hx] at hcell
              have HX := Lib.hid hx
              have hbr : b < wr.heap.size := by omega
              have k0 : Kept wr wr := Kept.refl _
              clear hx
              obtain ⟨q, hq⟩ : ∃ q, fl x = q := ⟨_, rfl⟩
              have hcall : ∀ n : Held wr, Calls Try.prog 28 #[gridV W H g, .int .i64 x] n.V fun e V' => e = .returned (.bool q) ∧ ∃ m : Held wr, V' = m.V := fun n => n.call (by
                have hc := rfloor_any W H x g n.V HG.out
                rwa [HFL.out, hq] at hc)
              have HF := Lib.hid hcall
              have hne : Nonempty (Held wr) := ⟨⟨wr, k0⟩⟩
              have c1 : ∀ n : Held wr, n.V.cell? ⟨w.heap.size, 0, none⟩ = some (.int .i64 W) := fun n => n.cell g1
              have c2 : ∀ n : Held wr, n.V.cell? ⟨w.heap.size, 1, none⟩ = some (.int .i64 H) := fun n => n.cell g2
              have c3' : ∀ n : Held wr, n.V.cell? ⟨w.heap.size, 2, none⟩ = some (.string g) := fun n => n.cell g3
              have c4 : ∀ n : Held wr, n.V.cell? ⟨w.heap.size + 1, 3, none⟩ = some (.slice (some ⟨b, off, none⟩) n3 c3) := fun n => n.cell s3
              clear hcall
              cases q
              · have HY := Lib.hid (shuts_no (fl := fl) (s := ⟨tick, rs, ts, bl⟩) HKN.out (fun h => by have h1 := h.1; simp only [] at h1; rw [HX.out, hq] at h1; cases h1))
                have HBR := Lib.hid hBr
                have c5 : ∀ n : Held wr, n.V.cell? ⟨b, off + k, none⟩ = some (.int .i64 x) := fun n => n.cell hcell
                clear hq hgr hsr hcs hBr s0 s1 s2
                go_wp2_with fail
                refine wp_region_class k0 (by kernel_rfl) (by kernel_rfl) ?_
                repeat (go_big_quiet_step ((go_at_call 28; exact HF.out _)))
                refine wpQuiet_nil ?_
                rintro _ ⟨⟨V, hV⟩, rfl⟩
                go_wp2_with fail
                go_ret
                exact ⟨ret_bool HY.out.symm, HBR.out.trans (Below.mono hV HBR.out.size)⟩
              · have HFX := Lib.hid hq
                by_cases hk0 : k = 0
                · subst hk0
                  rw [Nat.add_zero] at hcell
                  have HP : Hid (ShutP fl bl 0) := by
                    unfold Hid ShutP
                    rw [HX.out]
                    exact ⟨HFX.out, fun h => absurd h (Nat.lt_irrefl _)⟩
                  have HBE := Lib.hid hbel
                  have c5 : ∀ n : Held wr, n.V.cell? ⟨b, off, none⟩ = some (.int .i64 x) := fun n => n.cell hcell
                  clear hq hgr hsr hcs hBr s0 s1 s2 hbel
                  go_wp2_with fail
                  refine wp_region_class k0 (by kernel_rfl) (by kernel_rfl) ?_
                  repeat (go_big_quiet_step ((go_at_call 28; exact HF.out _)))
                  refine wpQuiet_nil ?_
                  rintro _ ⟨⟨V, hV⟩, rfl⟩
                  go_wp2_with fail
                  go_roundw
                  case rel => exact ⟨1, by omega, by go_num, HBE.out.trans (Below.mono hV HBE.out.size), upto_more HA.out HP.out⟩
                  case measure => simp [intOf]; omega
                · obtain ⟨m, rfl⟩ : ∃ m, k = m + 1 := ⟨k - 1, by omega⟩
                  have hcell2 := (hBr.cell (p := ⟨b, off + m, none⟩) (show b < w.heap.size by omega)).trans (hcs m (by omega))
                  have hy : ∃ y, bl.getD m 0 = y := ⟨_, rfl⟩
                  obtain ⟨y, hy⟩ := hy
                  rw [hy] at hcell2
                  have HYY := Lib.hid hy
                  have hk1 : decide ((0 : Int) < ((m + 1 : Nat) : Int)) = true := decide_eq_true (by omega)
                  have HBE := Lib.hid hbel
                  have HBR := Lib.hid hBr
                  have c5 : ∀ n : Held wr, n.V.cell? ⟨b, off + (m + 1), none⟩ = some (.int .i64 x) := fun n => n.cell hcell
                  have c6 : ∀ n : Held wr, n.V.cell? ⟨b, off + m, none⟩ = some (.int .i64 y) := fun n => n.cell hcell2
                  clear hq hgr hsr hcs hy
                  by_cases hle : x ≤ y
                  · have HY := Lib.hid (shuts_no (fl := fl) (s := ⟨tick, rs, ts, bl⟩) HKN.out (fun h => by
                      have h1 := h.2 (by omega)
                      rw [Nat.add_sub_cancel] at h1
                      simp only [] at h1
                      rw [HX.out, HYY.out] at h1
                      omega))
                    clear hBr s0 s1 s2 hbel
                    go_wp2_with fail
                    refine wp_region_class k0 (by kernel_rfl) (by kernel_rfl) ?_
                    repeat (go_big_quiet_step ((go_at_call 28; exact HF.out _)))
                    refine wpQuiet_nil ?_
                    rintro _ ⟨⟨V, hV⟩, rfl⟩
                    go_wp2_with fail
                    go_ret
                    exact ⟨ret_bool HY.out.symm, HBR.out.trans (Below.mono hV HBR.out.size)⟩
                  · have HP : Hid (ShutP fl bl (m + 1)) := by
                      unfold Hid ShutP
                      rw [HX.out, Nat.add_sub_cancel, HYY.out]
                      exact ⟨HFX.out, fun _ => by omega⟩
                    clear hBr s0 s1 s2 hbel
                    go_wp2_with fail
                    refine wp_region_class k0 (by kernel_rfl) (by kernel_rfl) ?_
                    repeat (go_big_quiet_step ((go_at_call 28; exact HF.out _)))
                    refine wpQuiet_nil ?_
                    rintro _ ⟨⟨V, hV⟩, rfl⟩
                    go_wp2_with fail
                    go_roundw
                    case rel => exact ⟨m + 1 + 1, by omega, by go_num, HBE.out.trans (Below.mono hV HBE.out.size), upto_more HA.out HP.out⟩
                    case measure => simp [intOf]; omega
            · have hkn : k = n3 := by omega
              rw [hkn] at HA
              have HY : Hid (rightB fl ⟨tick, rs, ts, bl⟩ = true) := yes_true (rightP_ref.2 ⟨HHEAD.out, HAR.out, HAT.out, by show ∀ i, i < bl.length → ShutP fl bl i; rw [HBL.out]; exact HA.out⟩)
              clear HA
              go_wp2_with fail
              go_ret
              exact ⟨ret_bool HY.out.symm, hBr⟩
end Go.Proofs.Ytopgboepkckkjaa.Vm
