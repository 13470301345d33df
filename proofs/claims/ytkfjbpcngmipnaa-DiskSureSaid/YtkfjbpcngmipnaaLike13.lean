/- Both disks, as far as they tell, are one. -/
import Derived.Test.YtkfjbpcngmipnaaDone13
import Derived.Test.YtkfjbpcngmipnaaSames
import Derived.Test.YtkfjbpcngmipnaaDiskNames
namespace Go.Proofs.Ytkfjbpcngmipnaa.Vm
open Go Go.RowKit
set_option maxRecDepth 100000

theorem sameB_self (l : List Nat) : sameB l l = true := by simp [sameB]
set_option maxHeartbeats 2000000 in
theorem like13_any (bd rd : Nat) (P O : Nat → Prop) (d e : DiskS) (w : World) (h : PrgD w P bd d) (hr : RefD w O rd e) (hd : OkD d) (he : OkD e) (hF : d.F.length ≤ 900000) (eF : e.F = d.F) (em : e.most = d.most) :
    Calls Try.prog 12 #[.pointer (some ⟨bd, 0, none⟩), .pointer (some ⟨rd, 0, none⟩)] w fun x w' => x = .returned (.bool true) ∧ Below w.heap.size w w' := by
  obtain ⟨mb, g, fu, h, hP, hl⟩ := h
  obtain ⟨v, l, hr⟩ := hr
  have HP := Lib.hid (fun V (hV : Below w.heap.size w V) => h.alt (S := fun _ => False) (Alt.ofBelow hV) (fun _ _ h => h))
  have HR := Lib.hid (fun V (hV : Below w.heap.size w V) => hr.alt (S := fun _ => False) (Alt.ofBelow hV) (fun _ _ h => h))
  have HLP := Lib.hid (pList13_any bd mb g fu d w h hd (Nat.le_trans hF (by omega)))
  have HOK := Lib.hid hd
  have HOE := Lib.hid he
  have HEF := Lib.hid eF
  have HLL : Hid (leftS e = leftS d) := by unfold Hid leftS; rw [eF, em]
  generalize hN : d.F.length = N at *
  have HN := Lib.hid hN
  clear h hr hP hl hd he eF em hN
  go_enter Try.func12, Try.ntmps12
  go_wp2_with fail
  refine HLP.out.mono ?_
  rintro x w1 hs1
  obtain ⟨a, c, rfl, hrow, hb1⟩ := hs1.says
  have HB1 := Lib.hid hb1
  have HROW := Lib.hid hrow
  have hnc := hrow.2.1
  have hcm := hrow.2.2.1
  unfold maxLen at hcm
  have HNM : Hid (∀ i, i < N → ∃ b o, a = some ⟨b, o, none⟩ ∧ b < w1.heap.size ∧ w1.cell? ⟨b, o + i, none⟩ = some (.string (d.F.getD i zfile).name)) := fun i hi => by
    obtain ⟨b, o, e, hlt, hc⟩ := hrow.2.2.2 (by rw [HN.out]; omega)
    refine ⟨b, o, e, hlt, ?_⟩
    rw [hc i (by rw [HN.out]; exact hi)]
    simp [namesS, List.getD, show i < d.F.length by rw [HN.out]; exact hi]
  have HLR := Lib.hid (rList13_any rd v l e O w1 (HR.out w1 hb1) (by rw [HEF.out, HN.out]; omega))
  clear hs1 hb1 hrow
  rw [HN.out] at hnc ⊢
  go_wp2_with fail
  refine HLR.out.mono ?_
  rintro x w2 ⟨a2, c2, rfl, hrow2, hb2⟩
  have hrow1 := (HROW.out.below hb2).mono hb2.size
  have HNA := Lib.hid (rNames13_any a a2 d.F.length c e.F.length c2 _ _ _ w2 hrow1 hrow2)
  have HB2 := Lib.hid (HB1.out.trans (hb2.mono HB1.out.size))
  have HB12 := Lib.hid hb2
  clear hrow1 hrow2 hb2
  rw [HN.out, HEF.out, HN.out] at HNA
  rw [HEF.out, HN.out]
  go_wp2_with fail
  refine HNA.out.mono ?_
  rintro x w3 ⟨rfl, m3, hw3⟩
  try rw [decide_eq_true rfl]
  have hb3 : Below w2.heap.size w2 w3 := by rw [hw3]; exact below_drewN (Below.refl _ _) _
  have HB3 : Hid (Below w.heap.size w w3) := HB2.out.trans (hb3.mono HB2.out.size)
  have HB13 : Hid (Below w1.heap.size w1 w3) := HB12.out.trans (hb3.mono HB12.out.size)
  have HLF := Lib.hid (pLeft13_any bd mb g fu d w3 (HP.out w3 HB3.out) HOK.out)
  clear hw3 hb3 HLP HLR HNA
  go_wp2_with fail
  refine HLF.out.mono ?_
  rintro x w4 ⟨rfl, m4, hw4⟩
  have hb4 : Below w3.heap.size w3 w4 := by rw [hw4]; exact below_drewN (Below.refl _ _) _
  have HB4 : Hid (Below w.heap.size w w4) := HB3.out.trans (hb4.mono HB3.out.size)
  have HB14 : Hid (Below w1.heap.size w1 w4) := HB13.out.trans (hb4.mono HB13.out.size)
  have HLG := Lib.hid (rLeft13_any rd v l e O w4 (HR.out w4 HB4.out) (by rw [HEF.out, HN.out]; omega) HOE.out)
  clear hw4 hb4 HLF
  go_wp2_with fail
  refine HLG.out.mono ?_
  rintro x w5 ⟨rfl, rfl⟩
  rw [HLL.out]
  have d0 : (leftS d != leftS d) = false := by simp
  generalize leftS d = lf at *
  go_wp2_with fail
  go_loopg [7] N (fun gg v7 wr => ∃ i : Nat, i + gg = N ∧ v7 = .int .i64 i ∧ Hid (Below w.heap.size w wr) ∧ Hid (Below w1.heap.size w1 wr))
  case atStart => exact ⟨0, by omega, rfl, HB4.out, HB14.out⟩
  case round =>
    obtain ⟨i, hig, rfl, HB, HBO⟩ := hrel
    by_cases hi : i < N
    · have hii : (i : Int) < (N : Int) := by omega
      have d1 : decide ((i : Int) < (N : Int)) = true := by rw [decide_eq_true_eq]; exact hii
      obtain ⟨b, o, rfl, hlt, hc⟩ := HNM.out i hi
      have hc2 := (HBO.out.cell (p := ⟨b, o + i, none⟩) hlt).trans hc
      have HBLT := Lib.hid hlt
      have HC1 := Lib.hid hc
      have hnm := HOK.out.wf13 _ (getD_mem (F := d.F) (i := i) (by rw [HN.out]; exact hi))
      have HRP := Lib.hid (pRead13_any bd mb g fu d (d.F.getD i zfile).name wr (HP.out wr HB.out) HOK.out hnm)
      have HRR := Lib.hid (fun V hV => rRead13_any rd v l e O (d.F.getD i zfile).name V (HR.out V hV) HOE.out (by rw [HEF.out, HN.out]; omega))
      rw [HEF.out] at HRR
      clear hc hlt hnm
      generalize (d.F.getD i zfile).name = nm at *
      generalize hbb : (if atS d.F nm < d.F.length then (d.F.getD (atS d.F nm) zfile).b else []) = bb at *
      generalize hxx : (if atS d.F nm < d.F.length then (0 : Int) else 5) = xx at *
      go_wp2_with fail
      refine HRP.out.mono ?_
      rintro x w6 hs6
      obtain ⟨a6, m6, c6, x6, rfl, hr6, hx6, hb6⟩ := hs6.says
      rw [hbb] at hr6
      rw [hxx] at hx6
      have HB6 : Hid (Below w.heap.size w w6) := HB.out.trans (hb6.mono HB.out.size)
      have HBO6 : Hid (Below w1.heap.size w1 w6) := HBO.out.trans (hb6.mono HBO.out.size)
      have hc6 := (HBO6.out.cell (p := ⟨b, o + i, none⟩) HBLT.out).trans HC1.out
      have HR6 := Lib.hid hr6
      have HX6 := Lib.hid hx6
      have HRR6 := Lib.hid (HRR.out w6 HB6.out)
      clear hs6 hr6 hx6 hb6
      go_wp2_with fail
      refine HRR6.out.mono ?_
      rintro x w7 ⟨a7, m7, c7, x7, rfl, hr7, hx7, hb7⟩
      rw [hbb] at hr7
      rw [hxx] at hx7
      have HB7 : Hid (Below w.heap.size w w7) := HB6.out.trans (hb7.mono HB6.out.size)
      have HBO7 : Hid (Below w1.heap.size w1 w7) := HBO6.out.trans (hb7.mono HBO6.out.size)
      have HSA := Lib.hid (same_any a6 a7 m6 c6 m7 c7 w7.heap.size bb bb w7 ((HR6.out.below hb7).mono hb7.size) hr7)
      obtain rfl : x7 = x6 := hx7.trans HX6.out.symm
      clear hr7 hx7 hb7
      go_wp2_with fail
      refine HSA.out.mono ?_
      rintro x w8 ⟨rfl, m8, hw8⟩
      rw [sameB_self]
      have hb8 : Below w7.heap.size w7 w8 := by rw [hw8]; exact below_drewN (Below.refl _ _) _
      have HB8 : Hid (Below w.heap.size w w8) := HB7.out.trans (hb8.mono HB7.out.size)
      have HBO8 : Hid (Below w1.heap.size w1 w8) := HBO7.out.trans (hb8.mono HBO7.out.size)
      have d2 : (x7 != x7) = false := by simp
      clear hw8 hb8
      go_wp2_with fail
      go_roundg (gk - 1)
      case rel => exact ⟨i + 1, by omega, by first | rfl | go_num, HB8, HBO8⟩
      case measure => omega
    · obtain rfl : i = N := by omega
      have d1 : decide ((i : Int) < (i : Int)) = false := by simp
      go_wp2_with fail
      go_ret
      exact ⟨rfl, HB.out⟩
end Go.Proofs.Ytkfjbpcngmipnaa.Vm
