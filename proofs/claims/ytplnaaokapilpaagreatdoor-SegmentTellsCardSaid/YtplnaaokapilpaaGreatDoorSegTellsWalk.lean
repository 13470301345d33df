/- The law SegmentTells, walked: of a program whose segment does what it should, and whose switch is on. -/
import Derived.Test.YtplnaaokapilpaaGreatDoorAwake14
import Derived.Test.YtplnaaokapilpaaGreatDoorSegDoes
import Derived.Test.YtplnaaokapilpaaGreatDoorSames
set_option linter.unusedVariables false
set_option linter.unusedSimpArgs false
namespace Go.Proofs.YtplnaaokapilpaaGreatDoor.Vm
open Go Go.RowKit
set_option maxRecDepth 100000

set_option maxHeartbeats 4000000 in
theorem segmentTells_of (D : SegDoes) (U : ∀ w : World, Laid14 w → Calls Tryz.prog 4 #[] w fun e w' => e = .returned (.bool true) ∧ Below w.heap.size w w')
    (a : Option Addr) (n c : Nat) (z : List Int) (s : ByteArray) (a1 : Option Addr) (n1 c1 : Nat) (l1 : List Int) (a2 : Option Addr) (n2 c2 : Nat) (l2 : List Int) (w : World) (hL : Laid14 w) (w0 : IsRow .u8 w a n c z) (_ : s.size ≤ maxLen) (hr1 : RowZ .i64 w w.heap.size a1 n1 c1 l1) (hr2 : RowZ .i64 w w.heap.size a2 n2 c2 l2) :
    Calls Tryz.prog 3 #[.slice a n c, .string s, .agg #[.slice a1 n1 c1, .slice a2 n2 c2]] w fun e w' => e = .returned (.bool true) ∧ Below w.heap.size w w' := by
  have hr := Row.of_isRow w0 (fun n hn => (bounds_u8 (w0.wf n hn)).1)
  have hz : ∀ x ∈ (z.take n).map Int.toNat, x < 256 := by
    intro x hx
    obtain ⟨n, hn, rfl⟩ := List.mem_map.1 hx
    have := bounds_u8 (w0.wf n (List.mem_of_mem_take hn))
    omega
  clear w0
  generalize (z.take n).map Int.toNat = zs at hr hz
  obtain ⟨w1, hw1⟩ : ∃ w1, w1 = w.alloc (.cells #[.slice a1 n1 c1, .slice a2 n2 c2] 25) := ⟨_, rfl⟩
  have hb1 : Below w.heap.size w w1 := by rw [hw1]; exact (Below.refl _ _).alloc (Nat.le_refl _) _
  have hm1 : ManB w1 w.heap.size 25 a1 n1 c1 a2 n2 c2 := by rw [hw1]; exact ManB.new w
  have hs1 : w.heap.size < w1.heap.size := by rw [hw1]; simp
  have HAW := Lib.hid (U w1 (hL.below hb1))
  have HLD := Lib.hid (fun V (hV : Below w.heap.size w V) => hL.below hV)
  clear hL
  have HM := Lib.hid (fun V (hV : Below w1.heap.size w1 V) => (hm1.below hV hs1).cells)
  have HR := Lib.hid (fun V (hV : Below w.heap.size w V) => (hr.below hV).mono hV.size)
  have HR1 := Lib.hid (fun V (hV : Below w.heap.size w V) => (hr1.below hV).mono hV.size)
  have HR2 := Lib.hid (fun V (hV : Below w.heap.size w V) => (hr2.below hV).mono hV.size)
  have hzl := hr.1
  have hc0 := hr.2.1
  have hm0 := hr.2.2.1
  have hc1 := hr1.2.1
  have hmx1 := hr1.2.2.1
  have hc2 := hr2.2.1
  have hmx2 := hr2.2.2.1
  unfold maxLen at hm0 hmx1 hmx2
  have HB1 := Lib.hid hb1
  have HW1 := Lib.hid hw1
  have HD := Lib.hid D
  clear U D hr hr1 hr2 hb1 hw1 hm1 hs1
  go_enter Tryz.func3, Tryz.ntmps3
  go_wp2_with fail
  rw [← HW1.out]
  refine HAW.out.mono ?_
  rintro e w2 ⟨rfl, hb2⟩
  have HB2 := Lib.hid (HB1.out.trans (hb2.mono HB1.out.size))
  have HC2 := Lib.hid hb2
  obtain ⟨q0, q1, _, _⟩ := HM.out w2 hb2
  clear hb2 HAW
  by_cases g1 : 1500 < n
  · have g1' : (1500 : Int) < (n : Int) := by omega
    go_wp2_with fail
    go_ret
    exact ⟨rfl, HB2.out⟩
  have g1' : ¬ (1500 : Int) < (n : Int) := by omega
  by_cases g2 : 100 < s.size
  · have g2' : (100 : Int) < (s.size : Int) := by omega
    go_wp2_with fail
    go_ret
    exact ⟨rfl, HB2.out⟩
  have g2' : ¬ (100 : Int) < (s.size : Int) := by omega
  by_cases g3 : 60 < n1
  · have g3' : (60 : Int) < (n1 : Int) := by omega
    go_wp2_with fail
    go_ret
    exact ⟨rfl, HB2.out⟩
  have g3' : ¬ (60 : Int) < (n1 : Int) := by omega
  by_cases g4 : 60 < n2
  · have g4' : (60 : Int) < (n2 : Int) := by omega
    go_wp2_with fail
    go_ret
    exact ⟨rfl, HB2.out⟩
  have g4' : ¬ (60 : Int) < (n2 : Int) := by omega
  have HPA := Lib.hid (HD.out.parse a n c zs w2 (HR.out w2 HB2.out) hz (by omega) (fun x hx => Nat.le_trans (scan_sub zs.length zs (Nat.le_refl _) x hx).1 (by omega)))
  have HPB := Lib.hid (fun V (hV : Below w.heap.size w V) => rparse14_any a n c zs V (HR.out V hV) hz (by omega))
  have HRA := Lib.hid (fun V (hV : Below w.heap.size w V) => (HD.out.read a n c zs V (HR.out V hV) hz (by omega)).mono fun e w' h => saysRM_read h (by omega))
  have HRB := Lib.hid (fun V (hV : Below w.heap.size w V) => (rmread14_any a n c zs V (HR.out V hV) hz (by omega)).mono fun e w' h => saysRM_read h (by omega))
  have HUA := Lib.hid (fun V (hV : Below w.heap.size w V) => (HD.out.put a1 n1 c1 l1 a2 n2 c2 l2 V (HR1.out V hV) (HR2.out V hV) (by omega) (by omega)).mono fun e w' h => saysM_put h)
  have HUB := Lib.hid (fun V (hV : Below w.heap.size w V) => (rmput14_any a1 n1 c1 l1 a2 n2 c2 l2 V (HR1.out V hV) (HR2.out V hV) (by omega) (by omega)).mono fun e w' h => saysM_put h)
  have HTA := Lib.hid (fun V hV => HD.out.tick s V (by omega) hV)
  have HTB := Lib.hid (fun V => rtick14_any s V (by omega))
  clear hz hzl HR HR1 HR2 HD
  generalize parseG zs = P at *
  generalize readMG zs = R at *
  generalize putB l1 l2 = U1 at *
  generalize putE l1 l2 = U2 at *
  generalize tickN (bytesOf s) = T at *
  obtain ⟨per, pfi, prc, pn, pbe⟩ := P
  obtain ⟨rer, rl1, rl2⟩ := R
  obtain ⟨tk1, tk2⟩ := T
  go_wp2_with fail
  refine HPA.out.mono ?_
  rintro e w3 ⟨a3, c3, hs3, rfl, ho3, hb3⟩
  have HB3 := Lib.hid (HB2.out.trans (hb3.mono HB2.out.size))
  have HC3 := Lib.hid (HC2.out.trans (hb3.mono HC2.out.size))
  have HO3 := Lib.hid ho3
  have HPX := Lib.hid (HPB.out w3 HB3.out)
  clear hb3 ho3 HPA q0 q1
  go_wp2_with fail
  refine HPX.out.mono ?_
  rintro e w4 ⟨a4, c4, hs4, rfl, ho4, hb4⟩
  have HB4 := Lib.hid (HB3.out.trans (hb4.mono HB3.out.size))
  have HC4 := Lib.hid (HC3.out.trans (hb4.mono HC3.out.size))
  have HRC := Lib.hid (rrecords14_any a3 a4 prc.length c3 prc.length c4 w4.heap.size hs3 hs4 prc prc w4 ((HO3.out.calls hb4).rowAt rfl) (ho4.rowAt rfl) (Nat.le_refl _))
  clear hb4 ho4 HPX HPB HO3
  generalize prc.length = N at *
  go_wp2_with fail
  refine HRC.out.mono ?_
  rintro e w5 ⟨bl, rfl, hbl, hb5⟩
  obtain rfl : bl = true := hbl.2 (by first | rfl | trivial)
  have HB5 := Lib.hid (HB4.out.trans (hb5.mono HB4.out.size))
  have HC5 := Lib.hid (HC4.out.trans (hb5.mono HC4.out.size))
  have HRX := Lib.hid (HRA.out w5 HB5.out)
  have e1 : (pfi != pfi) = false := by simp
  have e2 : ((pn : Int) != (pn : Int)) = false := by simp
  have e3 : ((pbe : Int) != (pbe : Int)) = false := by simp
  have e4 : (per != per) = false := by simp
  clear hb5 hbl HRC HRA
  go_wp2_with fail
  refine HRX.out.mono ?_
  rintro e w6 ⟨a6, n6, c6, b6, m6, d6, rfl, hx6, hy6, hb6⟩
  have HB6 := Lib.hid (HB5.out.trans (hb6.mono HB5.out.size))
  have HC6 := Lib.hid (HC5.out.trans (hb6.mono HC5.out.size))
  obtain ⟨w7, hw7⟩ : ∃ w7, w7 = w6.alloc (.cells #[.slice a6 n6 c6, .slice b6 m6 d6] 25) := ⟨_, rfl⟩
  have hb7 : Below w6.heap.size w6 w7 := by rw [hw7]; exact (Below.refl _ _).alloc (Nat.le_refl _) _
  have hm7 : ManB w7 w6.heap.size 25 a6 n6 c6 b6 m6 d6 := by rw [hw7]; exact ManB.new w6
  have hs7 : w6.heap.size < w7.heap.size := by rw [hw7]; simp
  have HB7 := Lib.hid (HB6.out.trans (hb7.mono HB6.out.size))
  have HC7 := Lib.hid (HC6.out.trans (hb7.mono HC6.out.size))
  have HX7 := Lib.hid (fun V (hV : Below w7.heap.size w7 V) => (((hx6.below hb7).mono hb7.size).below hV).mono hV.size)
  have HY7 := Lib.hid (fun V (hV : Below w7.heap.size w7 V) => (((hy6.below hb7).mono hb7.size).below hV).mono hV.size)
  have HM7 := Lib.hid (fun V (hV : Below w7.heap.size w7 V) => (hm7.below hV hs7).cells)
  have HW7 : Hid (w6.alloc (.cells #[.slice a6 n6 c6, .slice b6 m6 d6] 25) = w7) := hw7.symm
  have HRY := Lib.hid (HRB.out w7 HB7.out)
  clear hb6 hb7 hm7 hs7 hw7 hx6 hy6 HRX HRB
  go_wp2_with fail
  rw [HW7.out]
  refine HRY.out.mono ?_
  rintro e w8 ⟨a8, n8, c8, b8, m8, d8, rfl, hx8, hy8, hb8⟩
  have HB8 := Lib.hid (HB7.out.trans (hb8.mono HB7.out.size))
  have HC8 := Lib.hid (HC7.out.trans (hb8.mono HC7.out.size))
  obtain ⟨w9, hw9⟩ : ∃ w9, w9 = w8.alloc (.cells #[.slice a8 n8 c8, .slice b8 m8 d8] 34) := ⟨_, rfl⟩
  have hb9 : Below w8.heap.size w8 w9 := by rw [hw9]; exact (Below.refl _ _).alloc (Nat.le_refl _) _
  have hm9 : ManB w9 w8.heap.size 34 a8 n8 c8 b8 m8 d8 := by rw [hw9]; exact ManB.new w8
  have hs9 : w8.heap.size < w9.heap.size := by rw [hw9]; simp
  have HB9 := Lib.hid (HB8.out.trans (hb9.mono HB8.out.size))
  have HC9 := Lib.hid (HC8.out.trans (hb9.mono HC8.out.size))
  have HD9 := Lib.hid (hb8.trans (hb9.mono hb8.size))
  have HI1 := Lib.hid (ints_anyZ a6 a8 n6 c6 n8 c8 w9.heap.size rl1 rl1 w9 (HX7.out w9 HD9.out) ((hx8.below hb9).mono hb9.size))
  have HY9 := Lib.hid (fun V (hV : Below w9.heap.size w9 V) => (((hy8.below hb9).mono hb9.size).below hV).mono hV.size)
  have HM9 := Lib.hid (fun V (hV : Below w9.heap.size w9 V) => (hm9.below hV hs9).cells)
  have HW9 : Hid (w8.alloc (.cells #[.slice a8 n8 c8, .slice b8 m8 d8] 34) = w9) := hw9.symm
  obtain ⟨u0, u1, _, _⟩ := HM7.out w9 HD9.out
  obtain ⟨v0, v1, _, _⟩ := HM9.out w9 (Below.refl _ _)
  rw [decide_eq_true rfl] at HI1
  rw [← HW9.out] at u0 u1 v0 v1
  clear hb8 hb9 hm9 hs9 hw9 hx8 hy8 HRY
  go_wp2_with fail
  rw [HW9.out]
  refine HI1.out.mono ?_
  rintro e w10 ⟨rfl, m10, hw10⟩
  have hb10 : Below w9.heap.size w9 w10 := by rw [hw10]; exact below_drewN (Below.refl _ _) _
  have HB10 := Lib.hid (HB9.out.trans (hb10.mono HB9.out.size))
  have HC10 := Lib.hid (HC9.out.trans (hb10.mono HC9.out.size))
  have HD10 := Lib.hid (HD9.out.trans (hb10.mono HD9.out.size))
  clear u0 u1 v0 v1
  obtain ⟨u0, u1, _, _⟩ := HM7.out w10 HD10.out
  obtain ⟨v0, v1, _, _⟩ := HM9.out w10 hb10
  have HI2 := Lib.hid (ints_anyZ b6 b8 m6 d6 m8 d8 w10.heap.size rl2 rl2 w10 (HY7.out w10 HD10.out) (HY9.out w10 hb10))
  rw [decide_eq_true rfl] at HI2
  clear hw10 hb10 HI1
  go_wp2_with fail
  refine HI2.out.mono ?_
  rintro e w11 ⟨rfl, m11, hw11⟩
  have hb11 : Below w10.heap.size w10 w11 := by rw [hw11]; exact below_drewN (Below.refl _ _) _
  have HB11 := Lib.hid (HB10.out.trans (hb11.mono HB10.out.size))
  have HC11 := Lib.hid (HC10.out.trans (hb11.mono HC10.out.size))
  have HUX := Lib.hid (HUA.out w11 HB11.out)
  clear u0 u1 v0 v1 hw11 hb11 HI2 HX7 HY7 HM7 HY9 HM9
  obtain ⟨q0, q1, _, _⟩ := HM.out w11 HC11.out
  go_wp2_with fail
  refine HUX.out.mono ?_
  rintro e w12 ⟨v12, rfl, ho12, hb12⟩
  have HB12 := Lib.hid (HB11.out.trans (hb12.mono HB11.out.size))
  have HC12 := Lib.hid (HC11.out.trans (hb12.mono HC11.out.size))
  have HO12 := Lib.hid ho12
  have HUY := Lib.hid (HUB.out w12 HB12.out)
  clear ho12 hb12 HUX q0 q1
  obtain ⟨q0, q1, _, _⟩ := HM.out w12 HC12.out
  go_wp2_with fail
  refine HUY.out.mono ?_
  rintro e w13 ⟨v13, rfl, ho13, hb13⟩
  have HB13 := Lib.hid (HB12.out.trans (hb13.mono HB12.out.size))
  obtain ⟨a12, c12, rfl, hr12⟩ := (HO12.out.calls hb13).slice
  obtain ⟨a13, c13, rfl, hr13⟩ := ho13.slice
  have HSM := Lib.hid (same_any a12 a13 _ c12 _ c13 w13.heap.size U1 U1 w13 hr12 hr13)
  rw [show sameB U1 U1 = true from by unfold sameB; exact decide_eq_true rfl] at HSM
  clear hb13 ho13 hr12 hr13 HO12 HUY q0 q1
  generalize U1.length = N1 at *
  go_wp2_with fail
  refine HSM.out.mono ?_
  rintro e w14 ⟨rfl, m14, hw14⟩
  have hb14 : Below w13.heap.size w13 w14 := by rw [hw14]; exact below_drewN (Below.refl _ _) _
  have HB14 := Lib.hid (HB13.out.trans (hb14.mono HB13.out.size))
  have HTX := Lib.hid (HTA.out w14 (HLD.out w14 HB14.out))
  clear hb14 hw14 HSM
  go_wp2_with fail
  refine HTX.out.mono ?_
  rintro e w15 ⟨rfl, hb15⟩
  have HB15 := Lib.hid (HB14.out.trans (hb15.mono HB14.out.size))
  have HTY := Lib.hid (HTB.out w15)
  clear hb15 HTX
  go_wp2_with fail
  refine HTY.out.mono ?_
  rintro e w16 ⟨rfl, rfl⟩
  go_wp2_with fail
  go_ret
  exact ⟨rfl, HB15.out⟩
theorem segmentTells_walk (a : Option Addr) (n c : Nat) (z : List Int) (s : ByteArray) (a1 : Option Addr) (n1 c1 : Nat) (l1 : List Int) (a2 : Option Addr) (n2 c2 : Nat) (l2 : List Int) (w : World) (hL : Laid14 w) (w0 : IsRow .u8 w a n c z) (hs : s.size ≤ maxLen) (hr1 : RowZ .i64 w w.heap.size a1 n1 c1 l1) (hr2 : RowZ .i64 w w.heap.size a2 n2 c2 l2) :
    Calls Tryz.prog 3 #[.slice a n c, .string s, .agg #[.slice a1 n1 c1, .slice a2 n2 c2]] w fun e w' => e = .returned (.bool true) ∧ Below w.heap.size w w' := segmentTells_of segDoes awake14_any a n c z s a1 n1 c1 l1 a2 n2 c2 l2 w hL w0 hs hr1 hr2
end Go.Proofs.YtplnaaokapilpaaGreatDoor.Vm
