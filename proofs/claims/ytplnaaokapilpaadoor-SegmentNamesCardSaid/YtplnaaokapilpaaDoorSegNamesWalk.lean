/- The law SegmentNames, walked: of a program whose segment does what it should, and whose switch is on. -/
import Derived.Test.YtplnaaokapilpaaDoorAwake14
import Derived.Test.YtplnaaokapilpaaDoorSegDoes
import Derived.Test.YtplnaaokapilpaaDoorSames
namespace Go.Proofs.YtplnaaokapilpaaDoor.Vm
open Go Go.RowKit
set_option maxRecDepth 100000

theorem less_str {a b : List Nat} (ha : ∀ x ∈ a, x < 256) (hb : ∀ x ∈ b, x < 256) : Op.bytesLess (strOf a).toList (strOf b).toList = lessN a b := by
  rw [ByteArray.toList_eq, ByteArray.toList_eq]
  unfold strOf
  exact bytesLess_lessN a b ha hb
set_option maxHeartbeats 4000000 in
theorem segmentNames_of (D : SegDoes) (U : ∀ w : World, Laid14 w → Calls Tryd.prog 5 #[] w fun e w' => e = .returned (.bool true) ∧ Below w.heap.size w w')
    (x y : Int) (w : World) (hL : Laid14 w) (_ : (Lit.int .i64 x).wf = true) (_ : (Lit.int .i64 y).wf = true) :
    Calls Tryd.prog 3 #[.int .i64 x, .int .i64 y] w fun e w' => e = .returned (.bool true) ∧ Below w.heap.size w w' := by
  have HAW := Lib.hid (U w hL)
  have HLD := Lib.hid (fun V (hV : Below w.heap.size w V) => hL.below hV)
  clear hL
  have HD := Lib.hid D
  clear U D
  go_enter Tryd.func3, Tryd.ntmps3
  go_wp2_with fail
  refine HAW.out.mono ?_
  rintro e w2 ⟨rfl, hb2⟩
  have HB2 := Lib.hid hb2
  clear hb2 HAW
  by_cases h1 : x < 0
  · have d1 : decide (x < 0) = true := decide_eq_true h1
    go_wp2_with fail
    go_ret
    exact ⟨rfl, HB2.out⟩
  · have d1 : decide (x < 0) = false := decide_eq_false h1
    by_cases h2 : y < 0
    · have d2 : decide (y < 0) = true := decide_eq_true h2
      go_wp2_with fail
      go_ret
      exact ⟨rfl, HB2.out⟩
    · have d2 : decide (y < 0) = false := decide_eq_false h2
      by_cases h3 : 2147483647 < x
      · have d3 : decide (2147483647 < x) = true := decide_eq_true h3
        go_wp2_with fail
        go_ret
        exact ⟨rfl, HB2.out⟩
      · have d3 : decide (2147483647 < x) = false := decide_eq_false h3
        by_cases h4 : 2147483647 < y
        · have d4 : decide (2147483647 < y) = true := decide_eq_true h4
          go_wp2_with fail
          go_ret
          exact ⟨rfl, HB2.out⟩
        · have d4 : decide (2147483647 < y) = false := decide_eq_false h4
          obtain ⟨a, rfl⟩ := Int.eq_ofNat_of_zero_le (show 0 ≤ x by omega)
          obtain ⟨b, rfl⟩ := Int.eq_ofNat_of_zero_le (show 0 ≤ y by omega)
          have HA : Hid (a ≤ 2147483647) := by unfold Hid; omega
          have HBB : Hid (b ≤ 2147483647) := by unfold Hid; omega
          have HS1 := Lib.hid (HD.out.seg a w2 HA.out (HLD.out w2 HB2.out))
          go_wp2_with fail
          refine HS1.out.mono ?_
          rintro e w3 ⟨rfl, hb3⟩
          have HB3 := Lib.hid (HB2.out.trans (hb3.mono HB2.out.size))
          have HS2 := Lib.hid (HD.out.snap a w3 HA.out (HLD.out w3 HB3.out))
          clear hb3 HS1
          go_wp2_with fail
          refine HS2.out.mono ?_
          rintro e w4 ⟨rfl, hb4⟩
          have HB4 := Lib.hid (HB3.out.trans (hb4.mono HB3.out.size))
          have HT1 := Lib.hid (HD.out.tick (strOf (segS a)) w4 (by rw [strOf_size]; simp [segS, segB, tenF_len]) (HLD.out w4 HB4.out))
          rw [bytesOf_strOf (segS_lt a), tickN_seg HA.out] at HT1
          have HX : Hid (∀ V, Laid14 V → Calls Tryd.prog 8 #[.string (strOf (snapS a))] V fun e w' => e = .returned (.tuple #[.int .i64 2, .int .i64 (a : Int)]) ∧ Below V.heap.size V w') := fun V hV => by
            have := HD.out.tick (strOf (snapS a)) V (by rw [strOf_size]; simp [snapS, snapB, tenF_len]) hV
            rwa [bytesOf_strOf (snapS_lt a), tickN_snap HA.out] at this
          have HL1 : Hid (Op.bytesLess (strOf (segS a)).toList (strOf (segS b)).toList = decide (a < b)) := (less_str (segS_lt a) (segS_lt b)).trans (segS_less HA.out HBB.out)
          have HL2 : Hid (Op.bytesLess (strOf (snapS a)).toList (strOf (snapS b)).toList = decide (a < b)) := (less_str (snapS_lt a) (snapS_lt b)).trans (snapS_less HA.out HBB.out)
          have HSB := Lib.hid (fun V hV => HD.out.seg b V HBB.out hV)
          have HNB := Lib.hid (fun V hV => HD.out.snap b V HBB.out hV)
          clear hb4 HS2
          generalize strOf (segS a) = s1 at *
          generalize strOf (snapS a) = s2 at *
          generalize strOf (segS b) = s3 at *
          generalize strOf (snapS b) = s4 at *
          simp only [] at HT1
          go_wp2_with fail
          refine HT1.out.mono ?_
          rintro e w5 ⟨rfl, hb5⟩
          have HB5 := Lib.hid (HB4.out.trans (hb5.mono HB4.out.size))
          have HT2 := Lib.hid (HX.out w5 (HLD.out w5 HB5.out))
          clear hb5 HT1
          go_wp2_with fail
          refine HT2.out.mono ?_
          rintro e w6 ⟨rfl, hb6⟩
          have HB6 := Lib.hid (HB5.out.trans (hb6.mono HB5.out.size))
          have HH1 := Lib.hid (HD.out.head a w6 HA.out)
          clear hb6 HT2
          go_wp2_with fail
          refine HH1.out.mono ?_
          rintro e w7 ⟨v7, rfl, ho7, hb7⟩
          have HB7 := Lib.hid (HB6.out.trans (hb7.mono HB6.out.size))
          have HO7 := Lib.hid ho7
          have HH2 := Lib.hid (rhead14_any a w7 HA.out)
          clear hb7 ho7 HH1
          go_wp2_with fail
          refine HH2.out.mono ?_
          rintro e w8 ⟨v8, rfl, ho8, hb8⟩
          have HB8 := Lib.hid (HB7.out.trans (hb8.mono HB7.out.size))
          obtain ⟨a7, c7, rfl, hr7⟩ := (HO7.out.calls hb8).slice
          obtain ⟨a8, c8, rfl, hr8⟩ := ho8.slice
          have HSM := Lib.hid (same_any a7 a8 _ c7 _ c8 w8.heap.size (headF a) (headF a) w8 hr7 hr8)
          rw [show sameB (headF a) (headF a) = true from by unfold sameB; exact decide_eq_true rfl] at HSM
          clear hb8 ho8 hr7 hr8 HO7 HH2
          generalize (headF a).length = N at *
          go_wp2_with fail
          refine HSM.out.mono ?_
          rintro e w9 ⟨rfl, m9, hw9⟩
          have hb9 : Below w8.heap.size w8 w9 := by rw [hw9]; exact below_drewN (Below.refl _ _) _
          have HB9 := Lib.hid (HB8.out.trans (hb9.mono HB8.out.size))
          have HS3 := Lib.hid (HSB.out w9 (HLD.out w9 HB9.out))
          clear hb9 hw9 HSM
          go_wp2_with fail
          refine HS3.out.mono ?_
          rintro e w10 ⟨rfl, hb10⟩
          have HB10 := Lib.hid (HB9.out.trans (hb10.mono HB9.out.size))
          have HS4 := Lib.hid (HNB.out w10 (HLD.out w10 HB10.out))
          have l1 := HL1.out
          have l2 := HL2.out
          clear hb10 HS3
          by_cases hab : a < b
          · have i1 : (a : Int) < (b : Int) := by omega
            have i2 : decide ((a : Int) < (b : Int)) = true := decide_eq_true i1
            rw [decide_eq_true hab] at l1 l2
            go_wp2_with fail
            refine HS4.out.mono ?_
            rintro e w11 ⟨rfl, hb11⟩
            have HB11 := Lib.hid (HB10.out.trans (hb11.mono HB10.out.size))
            clear hb11
            go_wp2_with fail
            go_ret
            exact ⟨rfl, HB11.out⟩
          · have i1 : ¬ (a : Int) < (b : Int) := by omega
            have i2 : decide ((a : Int) < (b : Int)) = false := decide_eq_false i1
            rw [decide_eq_false hab] at l1 l2
            go_wp2_with fail
            refine HS4.out.mono ?_
            rintro e w11 ⟨rfl, hb11⟩
            have HB11 := Lib.hid (HB10.out.trans (hb11.mono HB10.out.size))
            clear hb11
            go_wp2_with fail
            go_ret
            exact ⟨rfl, HB11.out⟩
theorem segmentNames_walk (x y : Int) (w : World) (hL : Laid14 w) (h1 : (Lit.int .i64 x).wf = true) (h2 : (Lit.int .i64 y).wf = true) :
    Calls Tryd.prog 3 #[.int .i64 x, .int .i64 y] w fun e w' => e = .returned (.bool true) ∧ Below w.heap.size w w' := segmentNames_of segDoes awake14_any x y w hL h1 h2
end Go.Proofs.YtplnaaokapilpaaDoor.Vm
