/- tuggerlaw13.DiskDown returns true at any operations, and any more of these without power. -/
import Derived.Test.YtkfjbpcngmipnaaDiskDoesWalk
namespace Go.Proofs.Ytkfjbpcngmipnaa.Vm
open Go Go.RowKit
set_option maxRecDepth 100000

theorem OkD.fused {d : DiskS} (h : OkD d) : OkD (fuseS d 0) := ⟨h.asc, h.sure, h.most, h.all, h.names, by show -1 ≤ max (0 : Int) (-1) ∧ max (0 : Int) (-1) ≤ 9223372036854775807; omega⟩
theorem down_fused (d : DiskS) : DownS d (fuseS d 0) := ⟨rfl, rfl, .inr (by show max (0 : Int) (-1) = 0; omega)⟩

set_option maxHeartbeats 4000000 in
theorem diskDown_walk (a : Option Addr) (n c : Nat) (l : List (OpS × OpV)) (a' : Option Addr) (n' c' : Nat) (l' : List (OpS × OpV)) (w : World) (hl : RowO w w.heap.size a n c l ∧ ∀ p ∈ l, p.1.n ≤ 9223372036854775807) (hl' : RowO w w.heap.size a' n' c' l' ∧ ∀ p ∈ l', p.1.n ≤ 9223372036854775807) :
    Calls Try.prog 5 #[.slice a n c, .slice a' n' c'] w fun e w' => e = .returned (.bool true) ∧ Below w.heap.size w w' := by
  have HAW := Lib.hid (awake13_any w)
  have HL := Lib.hid hl.1
  have HL' := Lib.hid hl'.1
  have hnc := hl.1.2.1
  have hcm := hl.1.2.2.1
  have hnc' := hl'.1.2.1
  have hcm' := hl'.1.2.2.1
  unfold maxLen at hcm hcm'
  clear hl hl'
  go_enter Try.func5, Try.ntmps5
  go_wp2_with fail
  refine HAW.out.mono ?_
  rintro e w1 ⟨rfl, hb1⟩
  have HB1 := Lib.hid hb1
  have HLI := Lib.hid (light13_any a n c w.heap.size l w1 (HL.out.below hb1))
  clear hb1 HAW
  go_wp2_with fail
  refine HLI.out.mono ?_
  rintro e w2 ⟨ok, rfl, hok, m, hw2⟩
  have HB2 : Hid (Below w.heap.size w w2) := by rw [hw2]; exact below_drewN HB1.out m
  have HLI' := Lib.hid (light13_any a' n' c' w.heap.size l' w2 (HL'.out.below HB2.out))
  have HOK := Lib.hid hok
  clear hw2 HLI hok
  go_wp2_with fail
  refine HLI'.out.mono ?_
  rintro e w3 ⟨ok', rfl, hok', m', hw3⟩
  have HB3 : Hid (Below w.heap.size w w3) := by rw [hw3]; exact below_drewN HB2.out m'
  have HOK' := Lib.hid hok'
  clear hw3 HLI' hok'
  cases ok with
  | false =>
    clear HOK HOK'
    go_wp2_with fail
    go_ret
    exact ⟨rfl, HB3.out⟩
  | true =>
    have hn40 := HOK.out rfl
    cases ok' with
    | false =>
      clear HOK HOK'
      go_wp2_with fail
      go_ret
      exact ⟨rfl, HB3.out⟩
    | true =>
      have hn40' := HOK'.out rfl
      clear HOK HOK'
      have HN1 := Lib.hid (newBoth (A := w) 1048576 w3 HB3.out (by decide))
      go_wp2_with fail
      refine HN1.out.mono ?_
      rintro e w4 ⟨bd, rfl, hp4, _⟩
      have HN2 := Lib.hid (newRef 1048576 hp4 (by decide))
      clear hp4 HN1
      go_wp2_with fail
      refine HN2.out.mono ?_
      rintro e w5 ⟨rd, rfl, hb5⟩
      have HB5 := Lib.hid hb5
      clear hb5 HN2
      go_wp2_with fail
      go_loopg [12] n (fun gg v12 wr => ∃ i : Nat, i + gg = n ∧ v12 = .int .i64 i ∧ Hid (∃ d, OkD d ∧ d.F.length ≤ i ∧ BothN w bd rd d d wr))
      case atStart => exact ⟨0, by omega, rfl, newDk 1048576, okD_new (by decide), Nat.le_refl _, HB5.out⟩
      case round =>
        obtain ⟨i, hig, rfl, HI⟩ := hrel
        obtain ⟨d, hd, hF, hB⟩ := HI.out
        by_cases hi : i < n
        · have hii : (i : Int) < (n : Int) := by omega
          have d1 : decide ((i : Int) < (n : Int)) = true := by rw [decide_eq_true_eq]; exact hii
          obtain ⟨b, off, x, v, rfl, hbl, _, hop, p0, p1, p2, p3, p4, p5⟩ := HL.out.at hi
          have HC := Lib.hid (op_cells hbl p0 p1 p2 p3 p4 p5)
          have HOP := Lib.hid hop
          have HD := Lib.hid hd
          have HF : Hid (d.F.length ≤ 900000) := Nat.le_trans hF (by omega)
          have HE := Lib.hid (hd.does x hop.wn.2)
          have HL2 : Hid ((doS d x).2.F.length ≤ i + 1) := Nat.le_trans (doS_len d x) (by omega)
          obtain ⟨r0, r1, r2, r3, r4, r5⟩ := HC.out wr hB.below
          have HDO := Lib.hid (hB.done hd HF.out hop)
          clear hF hd hop hbl p0 p1 p2 p3 p4 p5 hB HI
          go_wp2_with fail
          refine HDO.out.mono ?_
          rintro e w6 ⟨rfl, hb6⟩
          obtain ⟨s0, s1, s2, s3, s4, s5⟩ := HC.out w6 hb6.below
          have HTO := Lib.hid (hb6.told HD.out HF.out HOP.out)
          clear hb6 HDO
          go_wp2_with fail
          refine HTO.out.mono ?_
          rintro e w7 ⟨rfl, hb7⟩
          have HB7 : Hid (∃ d, OkD d ∧ d.F.length ≤ i + 1 ∧ BothN w bd rd d d w7) := ⟨_, HE.out, HL2.out, hb7⟩
          clear hb7 HTO HE HL2
          generalize (doS d x).1 = code at *
          go_wp2_with fail
          go_roundg (gk - 1)
          case rel => exact ⟨i + 1, by omega, by first | rfl | go_num, HB7⟩
          case measure => omega
        · obtain rfl : i = n := by omega
          have d1 : decide ((i : Int) < (i : Int)) = false := by simp
          have HF : Hid (d.F.length ≤ 900000) := Nat.le_trans hF (by omega)
          have HD := Lib.hid hd
          have HLK := Lib.hid (hB.like hd hd HF.out rfl rfl)
          clear hB hF hd HI
          go_wp2_with fail
          refine HLK.out.mono ?_
          rintro e w6 ⟨rfl, hb6⟩
          have HFU := Lib.hid (hb6.fuse (n := 0) (by decide))
          clear hb6 HLK
          go_wp2_with fail
          refine HFU.out.mono ?_
          rintro e w7 ⟨rfl, hb7⟩
          have HB7 := Lib.hid hb7
          clear hb7 HFU
          go_wp2_with fail
          go_loopg [14] n' (fun gg v14 wq => ∃ j : Nat, j + gg = n' ∧ v14 = .int .i64 j ∧ Hid (∃ q, OkD q ∧ DownS d q ∧ BothN w bd rd q d wq))
          case atStart => exact ⟨0, by omega, rfl, fuseS d 0, HD.out.fused, down_fused d, HB7.out⟩
          case round =>
            obtain ⟨j, hjg, rfl, HJ⟩ := hrel
            obtain ⟨q, hq, hdn, hB⟩ := HJ.out
            by_cases hj : j < n'
            · have hjj : (j : Int) < (n' : Int) := by omega
              have d2 : decide ((j : Int) < (n' : Int)) = true := by rw [decide_eq_true_eq]; exact hjj
              obtain ⟨b, off, x, v, rfl, hbl, _, hop, p0, p1, p2, p3, p4, p5⟩ := HL'.out.at hj
              have HC := Lib.hid (op_cells hbl p0 p1 p2 p3 p4 p5)
              obtain ⟨r0, r1, r2, r3, r4, r5⟩ := HC.out wr hB.below
              clear hbl p0 p1 p2 p3 p4 p5
              by_cases h0 : x.act < 0
              · have e1 : decide (x.act < 0) = true := by rw [decide_eq_true_eq]; exact h0
                clear hq hdn hB
                generalize x.act = act at *
                go_wp2_with fail
                go_roundg (gk - 1)
                case rel => exact ⟨j + 1, by omega, by first | rfl | go_num, HJ⟩
                case measure => omega
              · have e1 : decide (x.act < 0) = false := by rw [decide_eq_false_iff_not]; exact h0
                by_cases h3 : 3 < x.act
                · have e2 : decide (3 < x.act) = true := by rw [decide_eq_true_eq]; exact h3
                  clear hq hdn hB
                  generalize x.act = act at *
                  go_wp2_with fail
                  go_roundg (gk - 1)
                  case rel => exact ⟨j + 1, by omega, by first | rfl | go_num, HJ⟩
                  case measure => omega
                · have e2 : decide (3 < x.act) = false := by rw [decide_eq_false_iff_not]; exact h3
                  have hdd := hdn.does (x := x) ⟨by omega, by omega⟩
                  have HQ := Lib.hid (hq.does x hop.wn.2)
                  have HDD := Lib.hid hdd.2
                  have HC1 := Lib.hid hdd.1
                  have HDO := Lib.hid (hB.done hq (by rw [hdn.F]; exact HF.out) hop)
                  clear hq hdn hB hdd HJ
                  generalize hcode : (doS q x).1 = code at *
                  clear h0 h3
                  go_wp2_with fail
                  refine HDO.out.mono ?_
                  rintro e w8 ⟨rfl, hb8⟩
                  have HB8 : Hid (∃ q, OkD q ∧ DownS d q ∧ BothN w bd rd q d w8) := ⟨_, HQ.out, HDD.out, hb8⟩
                  clear hb8 HDO HQ HDD hcode
                  rcases HC1.out with h9 | h9
                  · subst h9
                    go_wp2_with fail
                    go_roundg (gk - 1)
                    case rel => exact ⟨j + 1, by omega, by first | rfl | go_num, HB8⟩
                    case measure => omega
                  · subst h9
                    go_wp2_with fail
                    go_roundg (gk - 1)
                    case rel => exact ⟨j + 1, by omega, by first | rfl | go_num, HB8⟩
                    case measure => omega
            · obtain rfl : j = n' := by omega
              have d2 : decide ((j : Int) < (j : Int)) = false := by simp
              have HLK := Lib.hid (hB.like hq HD.out (by rw [hdn.F]; exact HF.out) hdn.F.symm hdn.most.symm)
              clear hB hq hdn HJ
              go_wp2_with fail
              refine HLK.out.mono ?_
              rintro e w8 ⟨rfl, hb8⟩
              have HB8 := Lib.hid hb8.below
              clear hb8
              go_wp2_with fail
              go_ret
              exact ⟨rfl, HB8.out⟩
end Go.Proofs.Ytkfjbpcngmipnaa.Vm
