/- The walk of the law GateSafe, over what is said of the package's Gate, Clash and of awake (premises). -/
import Derived.Test.YtccdblbnphmpjaaGateTellsWalk
namespace Go.Proofs.Ytccdblbnphmpjaa.Vm
open Go Go.RowKit

theorem distinct_of {cells : List Int} (h : ¬ TwiceP cells) : ∀ i k, i < cells.length → k < cells.length → i ≠ k → cells.getD i 0 ≠ cells.getD k 0 := by
  have key : ∀ i k, i < k → k < cells.length → cells.getD i 0 ≠ cells.getD k 0 := fun i k hik hk e => h ⟨k, hk, by
    rw [← e]
    exact List.mem_iff_getElem.2 ⟨i, by simp; omega, by simp [List.getD, show i < cells.length by omega]⟩⟩
  intro i k hi hk hne
  rcases Nat.lt_or_gt_of_ne hne with hl | hl
  · exact key i k hl hk
  · exact fun e => key k i hl hi e.symm

set_option maxRecDepth 100000 in
set_option maxHeartbeats 8000000 in
theorem gateSafe_says (HA : SaysAwake 6) (HG : SaysGate 8) (HC : SaysClash 10)
    (a1 : Option Addr) (n1 c1 : Nat) (a2 : Option Addr) (n2 c2 : Nat) (a3 : Option Addr) (n3 c3 : Nat) (z1 z2 z3 : List Int) (w : World)
    (r1 : RowZ .i64 w w.heap.size a1 n1 c1 z1) (r2 : RowZ .i64 w w.heap.size a2 n2 c2 z2) (r3 : RowZ .i64 w w.heap.size a3 n3 c3 z3) (y1 : WfZ z1) (y2 : WfZ z2) (y3 : WfZ z3) :
    Calls Try.prog 4 #[.agg #[.slice a1 n1 c1, .slice a2 n2 c2, .slice a3 n3 c3]] w fun e w' => e = .returned (.bool true) ∧ Below w.heap.size w w' := by
  obtain ⟨w1, hw1, hB1, hz1, hT1⟩ := three_head w (.slice a1 n1 c1) (.slice a2 n2 c2) (.slice a3 n3 c3) 23
  have HW1 := Lib.hid hw1
  have HR1 := Lib.hid r1
  have HR2 := Lib.hid r2
  have HR3 := Lib.hid r3
  have HY1 := Lib.hid y1
  have HY2 := Lib.hid y2
  have HY3 := Lib.hid y3
  have HLI := Lib.hid fun w => light8_any a1 a2 a3 n1 c1 n2 c2 n3 c3 w (Nat.le_trans r1.2.1 r1.2.2.1) (Nat.le_trans r2.2.1 r2.2.2.1) (Nat.le_trans r3.2.1 r3.2.2.1)
  clear hw1 r1 r2 r3 y1 y2 y3
  go_enter Try.func4, Try.ntmps4
  go_wp2_with fail
  rw [← HW1.out]
  refine (HA w1).mono ?_
  rintro e w2 ⟨rfl, hb2⟩
  have hB2 := hB1.trans (hb2.mono hB1.size)
  have hT2 := hT1.below hb2 (by omega)
  have hz2 := hb2.size
  obtain ⟨g1, g2, g3⟩ := id hT2
  have HT2 := Lib.hid hT2
  clear hT1 hT2 hb2 HW1
  cases hlg : lightG n1 n2 n3
  · have hli := HLI.out w2
    rw [hlg] at hli
    have HLI2 := Lib.hid hli
    clear hli hlg HLI
    go_wp2_with fail
    refine HLI2.out.mono ?_
    rintro e w3 ⟨rfl, hb3⟩
    have hB3 := hB2.trans (hb3.mono hB2.size)
    go_wp2_with fail
    go_ret
    exact ⟨rfl, hB3⟩
  have hli := HLI.out w2
  rw [hlg] at hli
  have HLI2 := Lib.hid hli
  obtain ⟨k1, k2, k3⟩ := lightG_in hlg
  clear hli hlg HLI
  go_wp2_with fail
  refine HLI2.out.mono ?_
  rintro e w3 ⟨rfl, hb3⟩
  have hB3 := hB2.trans (hb3.mono hB2.size)
  have hT3 := HT2.out.below hb3 (by omega)
  have hz3 := hb3.size
  obtain ⟨g1, g2, g3⟩ := id hT3
  have HT3 := Lib.hid hT3
  have HB3 := Lib.hid hB3
  have hG3 := Lib.hid (HG a1 a2 a3 n1 c1 n2 c2 n3 c3 w.heap.size z1 z2 z3 w3 (HR1.out.below hB3) (HR2.out.below hB3) (HR3.out.below hB3) hB3.size (by omega) (by omega) (by omega) HY1.out HY2.out HY3.out)
  clear hT3 hb3 HT2 HLI2 hB2
  go_wp2_with fail
  refine hG3.out.mono ?_
  rintro e w4 ⟨b1, m1, d1, x1, o1, rfl, ho1, rb1, hb4⟩
  have hB4 := HB3.out.trans (hb4.mono HB3.out.size)
  have hT4 := HT3.out.below hb4 (by omega)
  have hz4 := hb4.size
  obtain ⟨g1, g2, g3⟩ := id hT4
  have HT4 := Lib.hid hT4
  have HB4 := Lib.hid hB4
  have HRB1 := Lib.hid rb1
  have HO1 := Lib.hid ho1
  have HWO := Lib.hid (ho1.wf HY1.out HY2.out)
  clear hT4 hb4 HT3 hG3 hB3 hB4 rb1 ho1
  have hml := HRB1.out.1
  have hz1 := HR1.out.1
  rcases HO1.out with ⟨_, rfl, rfl⟩ | ⟨_, _, rfl, rfl⟩ | ⟨hle, htw, ho, rfl⟩
  · obtain rfl : 0 = m1 := hml
    go_wp2_with fail
    go_ret
    exact ⟨rfl, HB4.out⟩
  · obtain rfl : 0 = m1 := hml
    go_wp2_with fail
    go_ret
    exact ⟨rfl, HB4.out⟩
  have hgo := gateG_goes z1 z2 z3
  rw [← ho] at hgo
  have HD := Lib.hid (distinct_of htw)
  have hln : o1.length = z1.length := goesTo_len hgo hle.symm
  have hmn : m1 = n1 := by omega
  subst hmn
  have HSAFE : Hid (∀ i k, i < m1 → k < i → o1.getD i 0 ≠ o1.getD k 0 ∧ ¬ (o1.getD i 0 = z1.getD k 0 ∧ o1.getD k 0 = z1.getD i 0)) := fun i k hi hk => still_safe hgo.still HD.out (by omega) (by omega) hk
  have HFREE : Hid (∀ i, i < m1 → o1.getD i 0 ∈ z3 → o1.getD i 0 = z1.getD i 0) := fun i hi hb => still_free hgo.still (by omega) hb
  have HOR : Hid (∀ i, i < m1 → o1.getD i 0 = z1.getD i 0 ∨ o1.getD i 0 = z2.getD i 0) := fun i hi => goesTo_or hgo i (by omega)
  have HEQ : Hid (n2 = m1) := by have := HR2.out.1; show n2 = m1; omega
  have heq := HEQ.out
  subst heq
  clear HD hgo ho htw hle hln hml hz1 HO1
  have e0 : ((n2 : Int) != (n2 : Int)) = false := by simp
  have HC1 := Lib.hid ((HR1.out.below HB4.out).cells)
  have HC2 := Lib.hid ((HR2.out.below HB4.out).cells)
  have HC3 := Lib.hid ((HR3.out.below HB4.out).cells)
  have HC4 := Lib.hid (HRB1.out.cells)
  have HL3 := Lib.hid HR3.out.1
  go_wp2_with fail
  go_loopw [7] (fun v wr => ∃ i d : Nat, i ≤ n2 ∧ v = .int .i64 i ∧ wr = w4.drewN d) (fun v _ => n2 - (intOf v).toNat)
  case atStart => exact ⟨0, 0, Nat.zero_le _, rfl, rfl⟩
  case round =>
    obtain ⟨i, d, hi, rfl, rfl⟩ := hrel
    by_cases hil : i < n2
    · obtain ⟨p1, f1, rfl, _, hs1⟩ := HC1.out (by omega)
      obtain ⟨p2, f2, rfl, _, hs2⟩ := HC2.out (by omega)
      obtain ⟨p4, f4, rfl, _, hs4⟩ := HC4.out (by omega)
      have hci := hs1 i hil
      have hwi := hs2 i hil
      have hai := hs4 i hil
      have HS1 := Lib.hid hs1
      have HS4 := Lib.hid hs4
      have hsf := HSAFE.out i
      have hfr := HFREE.out i hil
      have hor := HOR.out i hil
      clear hs1 hs2 hs4
      generalize z1.getD i 0 = ci at hci hsf hfr hor
      generalize z2.getD i 0 = wi at hwi hor
      generalize o1.getD i 0 = ai at hai hsf hfr hor
      have HSF := Lib.hid hsf
      have HFR := Lib.hid hfr
      have HR := Lib.hid hor
      clear hsf hfr hor
      go_wp2_with fail
      go_loopw [8] (fun v wr => ∃ k d : Nat, k ≤ i ∧ v = .int .i64 k ∧ wr = w4.drewN d) (fun v _ => i - (intOf v).toNat)
      case atStart => exact ⟨0, _, Nat.zero_le _, rfl, rfl⟩
      case round =>
        obtain ⟨k, d, hk, rfl, rfl⟩ := hrel
        by_cases hkl : k < i
        · have hck := HS1.out k (by omega)
          have hak := HS4.out k (by omega)
          obtain ⟨y1, y2⟩ := HSF.out k hil hkl
          generalize z1.getD k 0 = ck at hck y2
          generalize o1.getD k 0 = ak at hak y1 y2
          have q1 : (ai == ak) = false := by simpa using y1
          by_cases y3 : ai = ck
          · have q2 : (ai == ck) = true := by simpa using y3
            have q3 : (ak == ci) = false := by simpa using fun e => y2 ⟨y3, e⟩
            clear y1 y2 y3
            go_wp2_with fail
            go_quiet (fail)
            go_wp2_with fail
            go_roundw
            case rel => exact ⟨k + 1, _, by omega, by go_num, rfl⟩
            case measure => simp [intOf]; omega
          · have q2 : (ai == ck) = false := by simpa using y3
            clear y1 y2 y3
            go_wp2_with fail
            go_quiet (fail)
            go_wp2_with fail
            go_roundw
            case rel => exact ⟨k + 1, _, by omega, by go_num, rfl⟩
            case measure => simp [intOf]; omega
        · obtain rfl : i = k := by omega
          go_wp2_with fail
          go_loopw [9] (fun v wr => ∃ k d : Nat, k ≤ n3 ∧ v = .int .i64 k ∧ wr = w4.drewN d) (fun v _ => n3 - (intOf v).toNat)
          case atStart => exact ⟨0, _, Nat.zero_le _, rfl, rfl⟩
          case round =>
            obtain ⟨k, d, hk, rfl, rfl⟩ := hrel
            by_cases hkl : k < n3
            · obtain ⟨p3, f3, rfl, _, hs3⟩ := HC3.out (by omega)
              have hbk := hs3 k hkl
              have hmem : z3.getD k 0 ∈ z3 := mem_at8 (by rw [HL3.out]; exact hkl) rfl
              clear hs3
              generalize z3.getD k 0 = bk at hbk hmem
              by_cases y3 : ai = bk
              · have q2 : (ai == bk) = true := by simpa using y3
                have q3 : (ai != ci) = false := by simpa using HFR.out (by rw [y3]; exact hmem)
                clear y3 hmem
                go_wp2_with fail
                go_quiet (fail)
                go_wp2_with fail
                go_roundw
                case rel => exact ⟨k + 1, _, by omega, by go_num, rfl⟩
                case measure => simp [intOf]; omega
              · have q2 : (ai == bk) = false := by simpa using y3
                clear y3 hmem
                go_wp2_with fail
                go_quiet (fail)
                go_wp2_with fail
                go_roundw
                case rel => exact ⟨k + 1, _, by omega, by go_num, rfl⟩
                case measure => simp [intOf]; omega
            · obtain rfl : n3 = k := by omega
              by_cases y3 : ai = ci
              · have q2 : (ai != ci) = false := by simpa using y3
                clear y3
                go_wp2_with fail
                go_quiet (fail)
                go_wp2_with fail
                go_roundw
                case rel => exact ⟨i + 1, _, by omega, by go_num, rfl⟩
                case measure => simp [intOf]; omega
              · have q2 : (ai != ci) = true := by simpa using y3
                have q3 : (ai != wi) = false := by simpa using HR.out.resolve_left y3
                clear y3
                go_wp2_with fail
                go_quiet (fail)
                go_wp2_with fail
                go_roundw
                case rel => exact ⟨i + 1, _, by omega, by go_num, rfl⟩
                case measure => simp [intOf]; omega
    · obtain rfl : n2 = i := by omega
      have HB5 := Lib.hid (below_drewN HB4.out d)
      have hC5 := Lib.hid (HC a1 b1 n2 c1 n2 d1 w4.heap.size z1 o1 (w4.drewN d) ((HR1.out.below HB5.out).mono HB4.out.size) (HRB1.out.below (below_drewN (Below.refl _ _) d)) (Nat.le_refl _) (by omega) (by omega) HY1.out HWO.out)
      have HNO : Hid (∀ x y, ClashIs z1 o1 (min n2 n2) x y → x = -1 ∧ y = -1) := fun x y h => h.one (.inl ⟨rfl, rfl, fun i k h1 h2 hm => by
        rw [Nat.min_self] at h2
        obtain ⟨y1, y2⟩ := HSAFE.out k i h2 h1
        rcases hm with hm | ⟨m1, m2⟩
        · exact y1 hm.symm
        · exact y2 ⟨m2, m1⟩⟩)
      go_wp2_with fail
      refine hC5.out.mono ?_
      rintro e w5 ⟨x, y, rfl, hcl, hb5⟩
      obtain ⟨rfl, rfl⟩ := HNO.out x y hcl
      have HB6 := Lib.hid (HB5.out.trans (hb5.mono HB5.out.size))
      clear hb5 hcl
      go_wp2_with fail
      go_ret
      exact ⟨rfl, HB6.out⟩
end Go.Proofs.Ytccdblbnphmpjaa.Vm
