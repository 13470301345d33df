/- The walk of the law GateFree, over what is said of the package's Gate, Clash and of awake (premises). -/
import Derived.Test.YtccdblbnphmpjaaGateTellsWalk
namespace Go.Proofs.Ytccdblbnphmpjaa.Vm
open Go Go.RowKit

set_option maxRecDepth 100000 in
set_option maxHeartbeats 8000000 in
theorem gateFree_says (HA : SaysAwake 6) (HG : SaysGate 8) (HC : SaysClash 10)
    (a1 : Option Addr) (n1 c1 : Nat) (a2 : Option Addr) (n2 c2 : Nat) (a3 : Option Addr) (n3 c3 : Nat) (z1 z2 z3 : List Int) (w : World)
    (r1 : RowZ .i64 w w.heap.size a1 n1 c1 z1) (r2 : RowZ .i64 w w.heap.size a2 n2 c2 z2) (r3 : RowZ .i64 w w.heap.size a3 n3 c3 z3) (y1 : WfZ z1) (y2 : WfZ z2) (y3 : WfZ z3) :
    Calls Try.prog 5 #[.agg #[.slice a1 n1 c1, .slice a2 n2 c2, .slice a3 n3 c3]] w fun e w' => e = .returned (.bool true) ∧ Below w.heap.size w w' := by
  obtain ⟨w1, hw1, hB1, hz1, hT1⟩ := three_head w (.slice a1 n1 c1) (.slice a2 n2 c2) (.slice a3 n3 c3) 23
  have HW1 := Lib.hid hw1
  have HR1 := Lib.hid r1
  have HR2 := Lib.hid r2
  have HR3 := Lib.hid r3
  have HY1 := Lib.hid y1
  have HY2 := Lib.hid y2
  have HY3 := Lib.hid y3
  have HLI := Lib.hid fun w => light8_any a1 a2 a3 n1 c1 n2 c2 n3 c3 w (Nat.le_trans r1.2.1 r1.2.2.1) (Nat.le_trans r2.2.1 r2.2.2.1) (Nat.le_trans r3.2.1 r3.2.2.1)
  clear hw1 r1 r2 r3 y1 y2 y3
  go_enter Try.func5, Try.ntmps5
  go_wp2_with fail
  rw [← HW1.out]
  refine (HA w1).mono ?_
  rintro e w2 ⟨rfl, hb2⟩
  have hB2 := hB1.trans (hb2.mono hB1.size)
  have hT2 := hT1.below hb2 (by omega)
  have hz2 := hb2.size
  obtain ⟨g1, g2, g3⟩ := id hT2
  have HT2 := Lib.hid hT2
  clear hT1 hT2 hb2 HW1
  cases hlg : lightG n1 n2 n3
  · have hli := HLI.out w2
    rw [hlg] at hli
    have HLI2 := Lib.hid hli
    clear hli hlg HLI
    go_wp2_with fail
    refine HLI2.out.mono ?_
    rintro e w3 ⟨rfl, hb3⟩
    have hB3 := hB2.trans (hb3.mono hB2.size)
    go_wp2_with fail
    go_ret
    exact ⟨rfl, hB3⟩
  have hli := HLI.out w2
  rw [hlg] at hli
  have HLI2 := Lib.hid hli
  obtain ⟨k1, k2, k3⟩ := lightG_in hlg
  clear hli hlg HLI
  go_wp2_with fail
  refine HLI2.out.mono ?_
  rintro e w3 ⟨rfl, hb3⟩
  have hB3 := hB2.trans (hb3.mono hB2.size)
  have hT3 := HT2.out.below hb3 (by omega)
  have hz3 := hb3.size
  obtain ⟨g1, g2, g3⟩ := id hT3
  have HT3 := Lib.hid hT3
  have HB3 := Lib.hid hB3
  have hG3 := Lib.hid (HG a1 a2 a3 n1 c1 n2 c2 n3 c3 w.heap.size z1 z2 z3 w3 (HR1.out.below hB3) (HR2.out.below hB3) (HR3.out.below hB3) hB3.size (by omega) (by omega) (by omega) HY1.out HY2.out HY3.out)
  clear hT3 hb3 HT2 HLI2 hB2
  go_wp2_with fail
  refine hG3.out.mono ?_
  rintro e w4 ⟨b1, m1, d1, x1, o1, rfl, ho1, rb1, hb4⟩
  have hB4 := HB3.out.trans (hb4.mono HB3.out.size)
  have hT4 := HT3.out.below hb4 (by omega)
  have hz4 := hb4.size
  obtain ⟨g1, g2, g3⟩ := id hT4
  have HT4 := Lib.hid hT4
  have HB4 := Lib.hid hB4
  have HRB1 := Lib.hid rb1
  have HO1 := Lib.hid ho1
  have HWO := Lib.hid (ho1.wf HY1.out HY2.out)
  clear hT4 hb4 HT3 hG3 hB3 hB4 rb1 ho1
  have hml := HRB1.out.1
  have hz1 := HR1.out.1
  rcases HO1.out with ⟨_, rfl, rfl⟩ | ⟨_, _, rfl, rfl⟩ | ⟨hle, htw, ho, rfl⟩
  · obtain rfl : 0 = m1 := hml
    go_wp2_with fail
    go_ret
    exact ⟨rfl, HB4.out⟩
  · obtain rfl : 0 = m1 := hml
    go_wp2_with fail
    go_ret
    exact ⟨rfl, HB4.out⟩
  have hgo := gateG_goes z1 z2 z3
  rw [← ho] at hgo
  have hln : o1.length = z1.length := goesTo_len hgo hle.symm
  have hmn : m1 = n1 := by omega
  subst hmn
  have HFR : Hid (∀ i, i < m1 → (∀ k, k < m1 → z1.getD k 0 ≠ z2.getD i 0 ∧ (k = i ∨ z2.getD k 0 ≠ z2.getD i 0)) → z2.getD i 0 ∉ z3 → o1.getD i 0 = z2.getD i 0) := fun i hi h1 h2 => goesTo_free (by omega) (fun k hk => (h1 k (by omega)).1) (fun k hk hne => (h1 k (by omega)).2.resolve_left hne) h2 hgo rfl (fun k _ => .inr rfl)
  have HAG : Hid (∀ out x, GateOut z1 o1 z3 out x → out = o1 ∧ x = 0) := fun out x h => h.one (.inr (.inr ⟨hln.symm, htw, by rw [ho]; exact gateG_again.symm, rfl⟩))
  have HEQ : Hid (n2 = m1) := by have := HR2.out.1; show n2 = m1; omega
  have heq := HEQ.out
  subst heq
  clear hgo ho htw hle hln hml hz1 HO1
  have HC1 := Lib.hid ((HR1.out.below HB4.out).cells)
  have HC2 := Lib.hid ((HR2.out.below HB4.out).cells)
  have HC3 := Lib.hid ((HR3.out.below HB4.out).cells)
  have HC4 := Lib.hid (HRB1.out.cells)
  have HL3 := Lib.hid HR3.out.1
  go_wp2_with fail
  go_loopw [7] (fun v wr => ∃ i d : Nat, i ≤ n2 ∧ v = .int .i64 i ∧ wr = w4.drewN d) (fun v _ => n2 - (intOf v).toNat)
  case atStart => exact ⟨0, 0, Nat.zero_le _, rfl, rfl⟩
  case round =>
    obtain ⟨i, d, hi, rfl, rfl⟩ := hrel
    by_cases hil : i < n2
    · obtain ⟨p1, f1, rfl, _, hs1⟩ := HC1.out (by omega)
      obtain ⟨p2, f2, rfl, _, hs2⟩ := HC2.out (by omega)
      obtain ⟨p4, f4, rfl, _, hs4⟩ := HC4.out (by omega)
      have hwi := hs2 i hil
      have hai := hs4 i hil
      have HS1 := Lib.hid hs1
      have HS2 := Lib.hid hs2
      have hfr := HFR.out i hil
      clear hs1 hs2 hs4
      generalize z2.getD i 0 = wi at hwi hfr
      generalize o1.getD i 0 = ai at hai hfr
      have HF := Lib.hid hfr
      clear hfr
      go_wp2_with fail
      go_loopw [8, 9] (fun vf v wr => ∃ (k d : Nat) (fr : Bool), k ≤ n2 ∧ v = .int .i64 k ∧ wr = w4.drewN d ∧ vf = .bool fr ∧ Hid (fr = true → ∀ j, j < k → z1.getD j 0 ≠ wi ∧ (j = i ∨ z2.getD j 0 ≠ wi))) (fun _ v _ => n2 - (intOf v).toNat)
      case atStart => exact ⟨0, _, true, Nat.zero_le _, rfl, rfl, rfl, fun _ j hj => absurd hj (Nat.not_lt_zero _)⟩
      case round =>
        obtain ⟨k, d, fr, hk, rfl, rfl, rfl, HK⟩ := hrel
        by_cases hkl : k < n2
        · have hck := HS1.out k hkl
          have hwk := HS2.out k hkl
          generalize ec : z1.getD k 0 = ck at hck
          generalize ew : z2.getD k 0 = wk at hwk
          have EC := Lib.hid ec
          have EW := Lib.hid ew
          clear ec ew
          cases fr
          · go_wp2_with fail
            go_quiet (fail)
            go_wp2_with fail
            go_roundw
            case rel => exact ⟨k + 1, _, false, by omega, by go_num, rfl, rfl, fun h => by cases h⟩
            case measure => simp [intOf]; omega
          · by_cases y1 : ck = wi
            · have q1 : (ck != wi) = false := by simpa using y1
              clear y1
              go_wp2_with fail
              go_quiet (fail)
              go_wp2_with fail
              go_roundw
              case rel => exact ⟨k + 1, _, false, by omega, by go_num, rfl, rfl, fun h => by cases h⟩
              case measure => simp [intOf]; omega
            · have q1 : (ck != wi) = true := by simpa using y1
              have Y1 := Lib.hid y1
              clear y1
              by_cases y2 : k = i
              · have q2 : ((k : Int) == (i : Int)) = true := by rw [beq_iff_eq]; omega
                have HK2 : Hid (∀ j, j < k + 1 → z1.getD j 0 ≠ wi ∧ (j = i ∨ z2.getD j 0 ≠ wi)) := fun j hj => by
                  by_cases e : j = k
                  · subst e; exact ⟨by rw [EC.out]; exact Y1.out, .inl y2⟩
                  · exact HK.out rfl j (by omega)
                clear y2
                go_wp2_with fail
                go_quiet (fail)
                go_wp2_with fail
                go_roundw
                case rel => exact ⟨k + 1, _, true, by omega, by go_num, rfl, rfl, fun _ => HK2.out⟩
                case measure => simp [intOf]; omega
              · have q2 : ((k : Int) == (i : Int)) = false := by rw [beq_eq_false_iff_ne]; omega
                clear y2
                by_cases y3 : wk = wi
                · have q3 : (wk != wi) = false := by simpa using y3
                  clear y3
                  go_wp2_with fail
                  go_quiet (fail)
                  go_wp2_with fail
                  go_roundw
                  case rel => exact ⟨k + 1, _, false, by omega, by go_num, rfl, rfl, fun h => by cases h⟩
                  case measure => simp [intOf]; omega
                · have q3 : (wk != wi) = true := by simpa using y3
                  have HK2 : Hid (∀ j, j < k + 1 → z1.getD j 0 ≠ wi ∧ (j = i ∨ z2.getD j 0 ≠ wi)) := fun j hj => by
                    by_cases e : j = k
                    · subst e; exact ⟨by rw [EC.out]; exact Y1.out, .inr (by rw [EW.out]; exact y3)⟩
                    · exact HK.out rfl j (by omega)
                  clear y3
                  go_wp2_with fail
                  go_quiet (fail)
                  go_wp2_with fail
                  go_roundw
                  case rel => exact ⟨k + 1, _, true, by omega, by go_num, rfl, rfl, fun _ => HK2.out⟩
                  case measure => simp [intOf]; omega
        · obtain rfl : n2 = k := by omega
          go_wp2_with fail
          go_loopw [8, 10] (fun vf v wr => ∃ (k d : Nat) (fr : Bool), k ≤ n3 ∧ v = .int .i64 k ∧ wr = w4.drewN d ∧ vf = .bool fr ∧ Hid (fr = true → (∀ j, j < n2 → z1.getD j 0 ≠ wi ∧ (j = i ∨ z2.getD j 0 ≠ wi)) ∧ wi ∉ z3.take k)) (fun _ v _ => n3 - (intOf v).toNat)
          case atStart => exact ⟨0, _, fr, Nat.zero_le _, rfl, rfl, rfl, fun h => ⟨HK.out h, by simp⟩⟩
          case round =>
            obtain ⟨k, d, fr, hk, rfl, rfl, rfl, HK⟩ := hrel
            by_cases hkl : k < n3
            · obtain ⟨p3, f3, rfl, _, hs3⟩ := HC3.out (by omega)
              have hbk := hs3 k hkl
              clear hs3
              generalize eb : z3.getD k 0 = bk at hbk
              have EB := Lib.hid eb
              clear eb
              cases fr
              · go_wp2_with fail
                go_quiet (fail)
                go_wp2_with fail
                go_roundw
                case rel => exact ⟨k + 1, _, false, by omega, by go_num, rfl, rfl, fun h => by cases h⟩
                case measure => simp [intOf]; omega
              · by_cases y1 : bk = wi
                · have q1 : (bk != wi) = false := by simpa using y1
                  clear y1
                  go_wp2_with fail
                  go_quiet (fail)
                  go_wp2_with fail
                  go_roundw
                  case rel => exact ⟨k + 1, _, false, by omega, by go_num, rfl, rfl, fun h => by cases h⟩
                  case measure => simp [intOf]; omega
                · have q1 : (bk != wi) = true := by simpa using y1
                  have HK2 := Lib.hid (mem_more8 (by rw [HL3.out]; exact hkl) EB.out (fun e => y1 e.symm) (HK.out rfl).2)
                  have HK3 := Lib.hid (HK.out rfl).1
                  clear y1
                  go_wp2_with fail
                  go_quiet (fail)
                  go_wp2_with fail
                  go_roundw
                  case rel => exact ⟨k + 1, _, true, by omega, by go_num, rfl, rfl, fun _ => ⟨HK3.out, HK2.out⟩⟩
                  case measure => simp [intOf]; omega
            · obtain rfl : n3 = k := by omega
              cases fr
              · go_wp2_with fail
                go_quiet (fail)
                go_wp2_with fail
                go_roundw
                case rel => exact ⟨i + 1, _, by omega, by go_num, rfl⟩
                case measure => simp [intOf]; omega
              · have q1 : (ai != wi) = false := by
                  have := HK.out rfl
                  simpa using HF.out this.1 (by have h := this.2; rwa [List.take_of_length_le (by rw [HL3.out]; omega)] at h)
                go_wp2_with fail
                go_quiet (fail)
                go_wp2_with fail
                go_roundw
                case rel => exact ⟨i + 1, _, by omega, by go_num, rfl⟩
                case measure => simp [intOf]; omega
    · obtain rfl : n2 = i := by omega
      have HB5 := Lib.hid (below_drewN HB4.out d)
      have hG5 := Lib.hid (HG a1 b1 a3 n2 c1 n2 d1 n3 c3 w4.heap.size z1 o1 z3 (w4.drewN d) ((HR1.out.below HB5.out).mono HB4.out.size) (HRB1.out.below (below_drewN (Below.refl _ _) d)) ((HR3.out.below HB5.out).mono HB4.out.size) (Nat.le_refl _) (by omega) (by omega) (by omega) HY1.out HWO.out HY3.out)
      have hrb := HRB1.out.below (below_drewN (Below.refl _ _) d)
      have HRB := Lib.hid hrb
      clear hrb
      go_wp2_with fail
      refine hG5.out.mono ?_
      rintro e w5 ⟨b2, m2, d2, x2, o2, rfl, ho2, rb2, hb5⟩
      obtain ⟨rfl, rfl⟩ := HAG.out o2 x2 ho2
      have HB6 := Lib.hid (HB5.out.trans (hb5.mono HB5.out.size))
      have hI : Hid (Calls Try.prog 12 #[.slice b1 n2 d1, .slice b2 m2 d2] w5 fun e w' => e = .returned (.bool true) ∧ ∃ m, w' = w5.drewN m) :=
        (ints_anyZ b1 b2 n2 d1 m2 d2 w5.heap.size o2 o2 w5 ((HRB.out.below hb5).mono hb5.size) rb2).mono fun _ _ h => ⟨h.1.trans (by rw [decide_eq_true rfl]), h.2⟩
      clear hb5 ho2 rb2
      go_wp2_with fail
      refine hI.out.mono ?_
      rintro e w6 ⟨rfl, d6, rfl⟩
      have HB7 := Lib.hid (below_drewN HB6.out d6)
      go_wp2_with fail
      go_ret
      exact ⟨rfl, HB7.out⟩
end Go.Proofs.Ytccdblbnphmpjaa.Vm
