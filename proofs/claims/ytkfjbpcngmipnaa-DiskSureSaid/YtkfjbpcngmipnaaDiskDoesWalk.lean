/- tuggerlaw13.DiskDoes returns true at any room and any operations. -/
import Derived.Test.YtkfjbpcngmipnaaAwake13
import Derived.Test.YtkfjbpcngmipnaaLight13
namespace Go.Proofs.Ytkfjbpcngmipnaa.Vm
open Go Go.RowKit
set_option maxRecDepth 100000

theorem op_cells {w : World} {b off i : Nat} {x : OpS} {v : OpV} (hb : b < w.heap.size) (p0 : w.cell? ⟨b, off + i * 6, none⟩ = some (.int .i64 x.act)) (p1 : w.cell? ⟨b, off + i * 6 + 1, none⟩ = some (.string x.A)) (p2 : w.cell? ⟨b, off + i * 6 + 2, none⟩ = some (.string x.B)) (p3 : w.cell? ⟨b, off + i * 6 + 3, none⟩ = some (.slice v.da v.dn v.dc)) (p4 : w.cell? ⟨b, off + i * 6 + 4, none⟩ = some (.int .i64 x.n)) (p5 : w.cell? ⟨b, off + i * 6 + 5, none⟩ = some (.slice v.ka v.kn v.kc)) :
    ∀ V, Below w.heap.size w V → V.cell? ⟨b, off + i * 6, none⟩ = some (.int .i64 x.act) ∧ V.cell? ⟨b, off + i * 6 + 1, none⟩ = some (.string x.A) ∧ V.cell? ⟨b, off + i * 6 + 2, none⟩ = some (.string x.B) ∧ V.cell? ⟨b, off + i * 6 + 3, none⟩ = some (.slice v.da v.dn v.dc) ∧ V.cell? ⟨b, off + i * 6 + 4, none⟩ = some (.int .i64 x.n) ∧ V.cell? ⟨b, off + i * 6 + 5, none⟩ = some (.slice v.ka v.kn v.kc) := fun V hV =>
  ⟨(hV.cell (p := ⟨b, off + i * 6, none⟩) hb).trans p0, (hV.cell (p := ⟨b, off + i * 6 + 1, none⟩) hb).trans p1, (hV.cell (p := ⟨b, off + i * 6 + 2, none⟩) hb).trans p2, (hV.cell (p := ⟨b, off + i * 6 + 3, none⟩) hb).trans p3, (hV.cell (p := ⟨b, off + i * 6 + 4, none⟩) hb).trans p4, (hV.cell (p := ⟨b, off + i * 6 + 5, none⟩) hb).trans p5⟩
set_option maxHeartbeats 4000000 in
theorem diskDoes_walk (room : Int) (a : Option Addr) (n c : Nat) (l : List (OpS × OpV)) (w : World) (_ : (Lit.int .i64 room).wf = true) (hl : RowO w w.heap.size a n c l ∧ ∀ p ∈ l, p.1.n ≤ 9223372036854775807) :
    Calls Try.prog 3 #[.int .i64 room, .slice a n c] w fun e w' => e = .returned (.bool true) ∧ Below w.heap.size w w' := by
  have HAW := Lib.hid (awake13_any w)
  have HL := Lib.hid hl.1
  have hnc := hl.1.2.1
  have hcm := hl.1.2.2.1
  unfold maxLen at hcm
  clear hl
  go_enter Try.func3, Try.ntmps3
  go_wp2_with fail
  refine HAW.out.mono ?_
  rintro e w1 ⟨rfl, hb1⟩
  have HB1 := Lib.hid hb1
  have HLI := Lib.hid (light13_any a n c w.heap.size l w1 (HL.out.below hb1))
  clear hb1 HAW
  go_wp2_with fail
  refine HLI.out.mono ?_
  rintro e w2 ⟨ok, rfl, hok, m, hw2⟩
  have HB2 : Hid (Below w.heap.size w w2) := by rw [hw2]; exact below_drewN HB1.out m
  clear hw2 HLI
  cases ok with
  | false =>
    clear hok
    go_wp2_with fail
    go_ret
    exact ⟨rfl, HB2.out⟩
  | true =>
    have hn40 := hok rfl
    clear hok
    by_cases hr : room < 0 ∨ 16777216 < room
    · have HN1 := Lib.hid (pNew13_any room w2)
      have HN2 := Lib.hid (fun V => rNew13_any room V)
      unfold Hid at HN1 HN2
      simp only [if_pos hr] at HN1 HN2
      have HN1 := Lib.hid HN1
      have HN2 := Lib.hid HN2
      clear hr
      go_wp2_with fail
      refine HN1.out.mono ?_
      rintro e w3 ⟨rfl, rfl⟩
      go_wp2_with fail
      refine (HN2.out _).mono ?_
      rintro e w4 ⟨rfl, rfl⟩
      go_wp2_with fail
      go_ret
      exact ⟨rfl, HB2.out⟩
    · have hr0 : 0 ≤ room ∧ room ≤ 16777216 := by omega
      have HN1 := Lib.hid (newBoth (A := w) room w2 HB2.out hr0)
      have HR0 := Lib.hid hr0
      clear hr hr0
      go_wp2_with fail
      refine HN1.out.mono ?_
      rintro e w3 ⟨bd, rfl, hp3, _⟩
      have HN2 := Lib.hid (newRef room hp3 HR0.out)
      clear hp3 HN1
      go_wp2_with fail
      refine HN2.out.mono ?_
      rintro e w4 ⟨rd, rfl, hb4⟩
      have HB4 := Lib.hid hb4
      clear hb4 HN2
      go_wp2_with fail
      go_loopg [11] n (fun gg v11 wr => ∃ i : Nat, i + gg = n ∧ v11 = .int .i64 i ∧ Hid (∃ d, OkD d ∧ d.F.length ≤ i ∧ BothN w bd rd d d wr))
      case atStart => exact ⟨0, by omega, rfl, newDk room, okD_new HR0.out, Nat.le_refl _, HB4.out⟩
      case round =>
        obtain ⟨i, hig, rfl, HI⟩ := hrel
        obtain ⟨d, hd, hF, hB⟩ := HI.out
        by_cases hi : i < n
        · have hii : (i : Int) < (n : Int) := by omega
          have d1 : decide ((i : Int) < (n : Int)) = true := by rw [decide_eq_true_eq]; exact hii
          obtain ⟨b, off, x, v, rfl, hbl, _, hop, p0, p1, p2, p3, p4, p5⟩ := HL.out.at hi
          have HC := Lib.hid (op_cells hbl p0 p1 p2 p3 p4 p5)
          have HOP := Lib.hid hop
          have HD := Lib.hid hd
          have HF : Hid (d.F.length ≤ 900000) := Nat.le_trans hF (by omega)
          have HE := Lib.hid (hd.does x hop.wn.2)
          have HL2 : Hid ((doS d x).2.F.length ≤ i + 1) := Nat.le_trans (doS_len d x) (by omega)
          have HL3 : Hid ((doS d x).2.F.length ≤ 900000) := Nat.le_trans HL2.out (by omega)
          obtain ⟨r0, r1, r2, r3, r4, r5⟩ := HC.out wr hB.below
          have HDO := Lib.hid (hB.done hd HF.out hop)
          clear hF hd hop hbl p0 p1 p2 p3 p4 p5 hB HI
          go_wp2_with fail
          refine HDO.out.mono ?_
          rintro e w5 ⟨rfl, hb5⟩
          obtain ⟨s0, s1, s2, s3, s4, s5⟩ := HC.out w5 hb5.below
          have HTO := Lib.hid (hb5.told HD.out HF.out HOP.out)
          clear hb5 HDO
          go_wp2_with fail
          refine HTO.out.mono ?_
          rintro e w6 ⟨rfl, hb6⟩
          have HLK := Lib.hid (hb6.like HE.out HE.out HL3.out rfl rfl)
          clear hb6 HTO
          go_wp2_with fail
          refine HLK.out.mono ?_
          rintro e w7 ⟨rfl, hb7⟩
          obtain ⟨t0, t1, t2, t3, t4, t5⟩ := HC.out w7 hb7.below
          have HRE := Lib.hid (hb7.read HE.out HOP.out.lB)
          clear hb7 HLK
          go_wp2_with fail
          refine HRE.out.mono ?_
          rintro e w8 ⟨⟨a8, m8, c8, x8, rfl, _, hx8, _⟩, hb8⟩
          obtain ⟨u0, u1, u2, u3, u4, u5⟩ := HC.out w8 hb8.below
          have HRR := Lib.hid (hb8.rread HE.out (Nat.le_trans HL3.out (by omega)) x.B)
          have HX8 := Lib.hid hx8
          clear hb8 HRE hx8
          go_wp2_with fail
          refine HRR.out.mono ?_
          rintro e w9 ⟨⟨a9, m9, c9, x9, rfl, _, hx9, _⟩, hb9⟩
          obtain rfl : x9 = x8 := hx9.trans HX8.out.symm
          have HB9 : Hid (∃ d, OkD d ∧ d.F.length ≤ i + 1 ∧ BothN w bd rd d d w9) := ⟨_, HE.out, HL2.out, hb9⟩
          have g1 : ((doS d x).1 != (doS d x).1) = false := by simp
          have g2 : (x9 != x9) = false := by simp
          clear hx9 hb9 HRR HX8 HE HL2 HL3
          generalize (doS d x).1 = code at *
          go_wp2_with fail
          go_roundg (gk - 1)
          case rel => exact ⟨i + 1, by omega, by first | rfl | go_num, HB9⟩
          case measure => omega
        · obtain rfl : i = n := by omega
          have d1 : decide ((i : Int) < (i : Int)) = false := by simp
          go_wp2_with fail
          go_ret
          exact ⟨rfl, hB.below⟩
end Go.Proofs.Ytkfjbpcngmipnaa.Vm
