/- The walk of the law DispatchOnce, over what is said of awake, Dispatch and Best (premises); with their contracts. -/
import Derived.Test.YtopgboepkckkjaaLightTen
import Derived.Test.YtopgboepkckkjaaRefDisps
import Derived.Test.YtopgboepkckkjaaStSames
import Derived.Test.YtopgboepkckkjaaIters
import Derived.Test.YtopgboepkckkjaaAwakeTen
import Derived.Deep.QuietTactic
import Derived.BigQuiet
namespace Go.Proofs.Ytopgboepkckkjaa.Vm
open Go Go.RowKit
set_option maxRecDepth 100000

theorem make_bools10 (w : World) (N : Nat) (hN : N ≤ 1000000) : (Instr.makeSlice 43 (.int .i64 (N : Int)) (.int .i64 (N : Int))).run Try.prog w = .ok (.slice (some ⟨w.heap.size, 0, none⟩) N N) (w.alloc (.cells ⟨bools (List.replicate N false)⟩ 4)) := by
  obtain ⟨j0, hj0, hy0, hy1, hy2⟩ := info_parts info_bool
  have hmk := run_make (P := Try.prog) w 43 4 j0 (.bool false) Try.underlying43 hj0 hy0 .i64 .i64 N N (by omega) (Int.le_refl _) (by rw [hy2]; omega) (by omega)
  simp only [Int.toNat_natCast] at hmk
  rw [hy1] at hmk
  have hmc : (madeCells (Value.bool false).cells (N * 1)) = ⟨bools (List.replicate N false)⟩ := by
    apply Array.ext'
    simp only [Value.cells]
    rw [Nat.mul_one, toList_madeCells_one]
    simp [bools]
  rw [hmc] at hmk
  exact hmk
theorem marks_made10 (w : World) (N : Nat) (hN : N ≤ 1000000) : Marks (w.alloc (.cells ⟨bools (List.replicate N false)⟩ 4)) w.heap.size w.heap.size (List.replicate N false) := by
  have := World.ownsRow_lit (base := w.heap.size) (e := 4) (size := 1) w ⟨bools (List.replicate N false)⟩ N (Nat.le_refl _) (by unfold maxLen; omega) (by simp [bools])
  unfold Marks
  rw [List.length_replicate]
  exact this
/-- Who is marked behind the first k pairs. -/
def GivenD (ps : List (Nat × Nat)) (n k : Nat) (mk : List Bool) : Prop := mk.length = n ∧ ∀ i, i < n → (mk.getD i false = true ↔ i ∈ (ps.take k).map Prod.snd)
theorem GivenD.zero (ps : List (Nat × Nat)) (n : Nat) : GivenD ps n 0 (List.replicate n false) := ⟨by simp, fun i hi => by simp [List.getD, hi]⟩
theorem GivenD.succ {ps : List (Nat × Nat)} {n k : Nat} {mk : List Bool} (h : GivenD ps n k mk) (hk : k < ps.length) (hq : (ps.getD k (0, 0)).2 < n) : GivenD ps n (k + 1) (mk.set (ps.getD k (0, 0)).2 true) := by
  have e : ps.getD k (0, 0) = ps[k] := by simp [List.getD, hk]
  rw [e] at hq ⊢
  generalize hqq : ps[k].2 = q at hq
  refine ⟨by rw [List.length_set]; exact h.1, fun i hi => ?_⟩
  rw [List.take_succ_eq_append_getElem hk, List.map_append, List.mem_append]
  by_cases hc : i = q
  · subst hc
    refine ⟨fun _ => .inr (by simp [hqq]), fun _ => ?_⟩
    simp [List.getD, List.getElem?_set, h.1, hq]
  · have : (mk.set q true).getD i false = mk.getD i false := by
      simp [List.getD, List.getElem?_set_ne (fun h => hc h.symm)]
    rw [this, h.2 i hi]
    refine ⟨.inl, fun hh => hh.elim id (fun hm => absurd ?_ hc)⟩
    rw [← hqq]
    simpa using hm
theorem GivenD.no {ps : List (Nat × Nat)} {n k : Nat} {mk : List Bool} (h : GivenD ps n k mk) (hk : k < ps.length) (hq : (ps.getD k (0, 0)).2 < n) (hnd : (ps.map Prod.snd).Nodup) : mk.getD (ps.getD k (0, 0)).2 false = false := by
  cases hb : mk.getD (ps.getD k (0, 0)).2 false with
  | false => rfl
  | true =>
    have hm := (h.2 _ hq).1 hb
    have e : ps.getD k (0, 0) = ps[k] := by simp [List.getD, hk]
    rw [e] at hm
    obtain ⟨p, hp, hpe⟩ := List.mem_map.1 hm
    obtain ⟨j, hj, hje⟩ := List.getElem_of_mem hp
    rw [List.length_take] at hj
    rw [List.getElem_take] at hje
    have h1 : (ps.map Prod.snd)[j]'(by rw [List.length_map]; omega) = (ps.map Prod.snd)[k]'(by rw [List.length_map]; exact hk) := by
      rw [List.getElem_map, List.getElem_map, hje, hpe]
    exact absurd h1 (List.pairwise_iff_getElem.1 hnd j k (by rw [List.length_map]; omega) (by rw [List.length_map]; exact hk) (by omega))

set_option maxHeartbeats 4000000 in
theorem dispatchOnce_says (HA : ∀ w : World, Calls Try.prog 6 #[] w fun e w' => e = .returned (.bool true) ∧ Below w.heap.size w w') (HD : SaysDisp 8) (HBS : SaysBest 11)
    (W H : Int) (g : ByteArray) (h : Sh) (s : St) (w : World) (hg : g.size ≤ maxLen) (hi : StIn w w.heap.size h s) :
    Calls Try.prog 4 #[gridV W H g, shV h] w fun e w' => e = .returned (.bool true) ∧ Below w.heap.size w w' := by
  obtain ⟨w2, hw2, hB2, hz2, hg2, hs2⟩ := gs_head w W H g h
  have HAW := Lib.hid (HA w2)
  have HW2 := Lib.hid hw2
  have HG2 := Lib.hid hg2
  have HS2 := Lib.hid hs2
  have HB2 := Lib.hid hB2
  have HLI := Lib.hid fun V (hV : Below w.heap.size w V) => light10_any W H g h s w.heap.size V hg (hi.below hV) hV.size
  have HNB := Lib.hid hi.bl.1
  have HNR := Lib.hid hi.rs.1
  have HNT := Lib.hid hi.ts.1
  have HGS := Lib.hid hg
  have HI0 := Lib.hid hi
  have HDC := Lib.hid fun (hok : Okay W H g) (hrp : RightP (floorS (bytesOf g)) s) (hn3 : h.n3 ≤ 100000) V (hV : Below w.heap.size w V) => HD W H g h s w.heap.size V hok (hi.below hV) hV.size hrp hn3
  have HIN := Lib.hid fun (hl : light10 W H g h s = true) => light10_in hl
  generalize light10 W H g h s = L at HLI HIN
  obtain ⟨t, a1, n1, c1, a2, n2, c2, a3, n3, c3⟩ := h
  simp only [] at HLI HDC HIN HNB HNR HNT HI0
  clear hw2 hg2 hs2 hB2 hi hg
  go_enter Try.func4, Try.ntmps4
  go_wp2_with fail
  rw [← HW2.out]
  refine HAW.out.mono ?_
  rintro e w3 ⟨rfl, hb3⟩
  have HB3 := Lib.hid (HB2.out.trans (hb3.mono HB2.out.size))
  have HG3 := Lib.hid (HG2.out.below hb3 (by omega))
  have HS3 := Lib.hid (HS2.out.below hb3 (by omega))
  have hz3 : w.heap.size + 2 ≤ w3.heap.size := by have := hb3.size; omega
  clear hb3 hz2
  obtain ⟨g0, g1, g2⟩ := id HG3.out
  obtain ⟨s0, s1, s2, s3⟩ := id HS3.out
  simp only [] at s0 s1 s2 s3
  go_wp2_with fail
  refine (HLI.out w3 HB3.out).mono ?_
  rintro e w4 ⟨rfl, hb4⟩
  have HB4 := Lib.hid (HB3.out.trans (hb4.mono HB3.out.size))
  have HG4 := Lib.hid (HG3.out.below hb4 (by omega))
  have HS4 := Lib.hid (HS3.out.below hb4 (by omega))
  have hz4 : w.heap.size + 2 ≤ w4.heap.size := by have := hb4.size; omega
  clear hb4 g0 g1 g2 s0 s1 s2 s3
  cases L with
  | false =>
    go_wp2_with fail
    go_ret
    exact ⟨rfl, HB4.out⟩
  | true =>
    obtain ⟨⟨_, hk1, _, hk3⟩, hrp, hrs⟩ := HIN.out rfl
    have HOK := Lib.hid (Okay.of hrs)
    have HDI := Lib.hid (dispG_is (W := W) (H := H) (l := bytesOf g) hrp)
    have HAG := Lib.hid (dispG_again (W := W) (H := H) (l := bytesOf g) hrp)
    have HCA := Lib.hid (HDC.out HOK.out hrp (by omega) w4 HB4.out)
    generalize dispG W H (bytesOf g) s = D at HDI HCA HAG
    obtain ⟨st, ps⟩ := D
    simp only [] at HDI HCA HAG
    obtain ⟨g0, g1, g2⟩ := id HG4.out
    obtain ⟨s0, s1, s2, s3⟩ := id HS4.out
    simp only [] at s0 s1 s2 s3
    clear hrp hrs
    go_wp2_with fail
    refine HCA.out.mono ?_
    rintro e w5 ⟨h', ap, np, cp, rfl, hst5, hrow5, hb5⟩
    obtain ⟨w6, hw6⟩ : ∃ w6, w6 = w5.alloc (shO h') := ⟨_, rfl⟩
    have hb56 : Below w5.heap.size w5 w6 := by rw [hw6]; exact (Below.refl _ _).alloc (Nat.le_refl _) _
    have hz56 : w6.heap.size = w5.heap.size + 1 := by rw [hw6]; simp
    have HX6 : Hid (StAt w6 w5.heap.size h') := by unfold Hid; rw [hw6]; exact stAt_new w5 h'
    have hz5 : w.heap.size + 2 ≤ w5.heap.size := by have := hb5.size; omega
    have HB6 := Lib.hid ((HB4.out.trans (hb5.mono HB4.out.size)).trans (hb56.mono (by omega)))
    have HG6 := Lib.hid ((HG4.out.below hb5 (by omega)).below hb56 (by omega))
    have HS6 := Lib.hid ((HS4.out.below hb5 (by omega)).below hb56 (by omega))
    have HST6 := Lib.hid (hst5.below hb56)
    have HR6 := Lib.hid (hrow5.below hb56)
    have HW6 := Lib.hid hw6
    have HRR := Lib.hid fun V (hV : Kept w6 V) => rstRight_any W H g h' st w5.heap.size V HGS.out (HST6.out.below (Below.mono hV (by omega))) (Nat.le_trans (by omega) (Below.size hV))
    rw [show rightB (floorS (bytesOf g)) st = true from yes_true HDI.out.right] at HRR
    have hm1 : h'.n1 = n1 := by rw [← hst5.rs.1, HDI.out.rl]; exact HNR.out
    have hm2 : h'.n2 = n2 := by rw [← hst5.ts.1, HDI.out.tl]; exact HNT.out
    have hm3 : h'.n3 = n3 := by rw [← hst5.bl.1, HDI.out.bl]; exact HNB.out
    obtain ⟨t', a1', n1', c1', a2', n2', c2', a3', n3', c3'⟩ := h'
    simp only [] at hm1 hm2 hm3
    subst hm1 hm2 hm3
    clear hst5 hrow5 hb5 hb56 hw6 g0 g1 g2 s0 s1 s2 s3 HCA
    obtain ⟨g0, g1, g2⟩ := id HG6.out
    obtain ⟨x0, x1, x2, x3⟩ := id HX6.out
    simp only [] at x0 x1 x2 x3
    rw [HW6.out] at g0 g1 g2 x0 x1 x2 x3
    go_wp2_with fail
    rw [← HW6.out]
    refine (HRR.out w6 (Kept.refl _)).mono ?_
    rintro e w7 ⟨rfl, hb7⟩
    have hz7 := hb7.size
    have HB67 := Lib.hid hb7
    have HK7 := Lib.hid (HB6.out.trans (hb7.mono HB6.out.size))
    obtain ⟨v0, v1, v2, v3⟩ := HS6.out.below hb7 (by omega)
    obtain ⟨y0, y1, y2, y3⟩ := HX6.out.below hb7 (by omega)
    simp only [] at v0 v1 v2 v3 y0 y1 y2 y3
    have e1 : ((n1' : Int) != (n1' : Int)) = false := by simp
    have e2 : ((n2' : Int) != (n2' : Int)) = false := by simp
    have hmk := make_bools10 w7 n1' (by omega)
    have HM0 := Lib.hid (marks_made10 w7 n1' (by omega))
    have HB0 : Hid (Below w7.heap.size w7 (w7.alloc (.cells ⟨bools (List.replicate n1' false)⟩ 4))) := (Below.refl _ _).alloc (Nat.le_refl _) _
    clear hb7 g0 g1 g2 x0 x1 x2 x3
    obtain ⟨w8, hw8⟩ : ∃ w8, w8 = w7.alloc (.cells ⟨bools (List.replicate n1' false)⟩ 4) := ⟨_, rfl⟩
    rw [← hw8] at HM0 HB0
    have HW8 := Lib.hid hw8
    have HPL := Lib.hid HR6.out.1
    have hpc := HR6.out.2.1
    have hpm := HR6.out.2.2.1
    unfold maxLen at hpm
    have HNR2 := Lib.hid HNR.out
    have hsl1 := HI0.out.rs.2.1
    have hsl2 := HI0.out.rs.2.2.1
    have hal1 := HST6.out.rs.2.1
    have hal2 := HST6.out.rs.2.2.1
    unfold maxLen at hsl2 hal2
    simp only [] at hsl1 hsl2 hal1 hal2
    clear hw8
    go_wp2_with fail
    rw [← HW8.out]
    clear hmk
    go_loopw [10] (fun v wr => ∃ (k : Nat) (mk : List Bool), k ≤ np ∧ v = .int .i64 k ∧ Hid (Marks wr w7.heap.size w7.heap.size mk) ∧ Hid (GivenD ps n1' k mk) ∧ Hid (Below w7.heap.size w7 wr)) (fun v _ => np - (intOf v).toNat)
    case atStart => exact ⟨0, _, Nat.zero_le _, rfl, HM0, GivenD.zero ps n1', HB0⟩
    case round =>
      obtain ⟨k, mk, hk, rfl, HM, HGD, HB⟩ := hrel
      have hz8 := HB.out.size
      obtain ⟨v0, v1, v2, v3⟩ := HS6.out.below (HB67.out.trans (HB.out.mono hz7)) (by omega)
      obtain ⟨y0, y1, y2, y3⟩ := HX6.out.below (HB67.out.trans (HB.out.mono hz7)) (by omega)
      simp only [] at v0 v1 v2 v3 y0 y1 y2 y3
      have HBF := Lib.hid (HK7.out.trans (HB.out.mono HK7.out.size))
      have HSR := Lib.hid (HI0.out.below HBF.out)
      have HAR := Lib.hid (HST6.out.below ((HB67.out.trans (HB.out.mono hz7)).mono (by omega)))
      by_cases hlt : k < np
      · have hkn : (k : Int) < (np : Int) := by omega
        have hkl : k < ps.length := by rw [HPL.out]; exact hlt
        have hon := HDI.out.on (ps.getD k (0, 0)) (by simp [List.getD, hkl])
        obtain ⟨hq, hb0, hd0, hb1⟩ := hon
        have hq : (ps.getD k (0, 0)).2 < n1' := by have := HNR.out; omega
        have hno := HGD.out.no hkl hq HDI.out.one
        have HGD2 := Lib.hid (HGD.out.succ hkl hq)
        obtain ⟨pb, po, rfl, hpb, hpcs⟩ := (HR6.out.below ((HB67.out.trans (HB.out.mono hz7)).mono (by omega))).cells (by omega)
        have hpq := (hpcs k hlt).2
        obtain ⟨b1, o1, rfl, hbb1, hcs1⟩ := HSR.out.rs.cells (by show 0 < n1'; omega)
        obtain ⟨b2, o2, rfl, hbb2, hcs2⟩ := HAR.out.rs.cells (by show 0 < n1'; omega)
        generalize (ps.getD k (0, 0)).2 = q at hpq hq hb0 hd0 hb1 hno HGD2
        have f1 := (hcs1 q hq).2.1
        have f3 := (hcs1 q hq).2.2.2.1
        have f2 := (hcs2 q hq).2.1
        rw [hb0] at f1
        rw [hb1] at f2
        generalize (s.rs.getD q zr).d = dq at f3 hd0
        have hmc := HM.out.cell (i := q) (by rw [HGD.out.1]; exact hq)
        rw [hno] at hmc
        have hmf := HM.out.frozen q
        have HM2 := Lib.hid (HM.out.set q)
        have HB2M := Lib.hid (HB.out.setCell (p := ⟨w7.heap.size, q, none⟩) (Nat.le_refl _) (.bool true))
        have hq0 : ¬ (q : Int) < 0 := by omega
        have hqn : (q : Int) < (n1' : Int) := by omega
        have e3 : decide ((q : Int) ≥ (n1' : Int)) = false := by rw [decide_eq_false_iff_not]; omega
        have e4 : decide (dq < 100) = false := by rw [decide_eq_false_iff_not]; omega
        clear hpcs hcs1 hcs2 hno hb0 hb1 hd0
        go_wp2_with fail
        go_roundw
        case rel => exact ⟨k + 1, _, by omega, by go_num, HM2, HGD2, HB2M⟩
        case measure => simp [intOf]; omega
      · obtain rfl : k = np := by omega
        have hgf := HGD.out
        rw [GivenD, List.take_of_length_le (by rw [HPL.out]; exact Nat.le_refl _)] at hgf
        have HGF := Lib.hid hgf
        have HMK := Lib.hid HM.out
        have HBK := Lib.hid HB.out
        clear hgf HGD HM HB v0 v1 v2 v3 y0 y1 y2 y3 HBF HSR HAR
        go_wp2_with fail
        go_loopw [12] (fun v wr => ∃ j : Nat, j ≤ n1' ∧ v = .int .i64 j ∧ Hid (Marks wr w7.heap.size w7.heap.size mk) ∧ Hid (Below w7.heap.size w7 wr)) (fun v _ => n1' - (intOf v).toNat)
        case atStart => exact ⟨0, Nat.zero_le _, rfl, HMK, HBK⟩
        case round =>
          clear HMK HBK hz8
          obtain ⟨j, hj, rfl, HM, HB⟩ := hrel
          have hz8 := HB.out.size
          have HKB : Hid (Below w6.heap.size w6 wr) := HB67.out.trans (HB.out.mono hz7)
          obtain ⟨g0, g1, g2⟩ := HG6.out.below HKB.out (by omega)
          obtain ⟨v0, v1, v2, v3⟩ := HS6.out.below HKB.out (by omega)
          obtain ⟨y0, y1, y2, y3⟩ := HX6.out.below HKB.out (by omega)
          simp only [] at v0 v1 v2 v3 y0 y1 y2 y3
          have HBF := Lib.hid (HK7.out.trans (HB.out.mono HK7.out.size))
          by_cases hlt : j < n1'
          · have hjn : (j : Int) < (n1' : Int) := by omega
            obtain ⟨b1, o1, rfl, hbb1, hcs1⟩ := (HI0.out.below HBF.out).rs.cells (by show 0 < n1'; omega)
            obtain ⟨b2, o2, rfl, hbb2, hcs2⟩ := (HST6.out.below (HKB.out.mono (by omega))).rs.cells (by show 0 < n1'; omega)
            obtain ⟨p0, p1, p2, p3, p4⟩ := hcs1 j hlt
            obtain ⟨q0, q1, q2, q3, q4⟩ := hcs2 j hlt
            have hmc := HM.out.cell (i := j) (by rw [HGF.out.1]; exact hlt)
            have hcell := HDI.out.cell j (by have := HNR.out; omega)
            have hoff := HDI.out.off j (by have := HNR.out; omega)
            have hgv := HGF.out.2 j hlt
            have hgon : j ∈ ps.map Prod.snd → (s.rs.getD j zr).b = 0 ∧ (st.rs.getD j zr).b = 1 := fun hm => by
              obtain ⟨pr, hpr, hpe⟩ := List.mem_map.1 hm
              have hon := HDI.out.on pr hpr
              rw [hpe] at hon
              exact ⟨hon.2.1, hon.2.2.2⟩
            generalize st.rs.getD j zr = r at q0 q1 q2 q3 q4 hcell hoff hgon
            generalize s.rs.getD j zr = u at p0 p1 p2 p3 p4 hcell hoff hgon
            generalize mk.getD j false = gv at hmc hgv
            have HOF := Lib.hid hoff
            have HGV := Lib.hid hgv
            have HGN := Lib.hid hgon
            obtain ⟨ra, rb, rc, rd, re⟩ := r
            obtain ⟨ua, ub, uc, ud, ue⟩ := u
            simp only [] at p0 p1 p2 p3 p4 q0 q1 q2 q3 q4 hcell
            obtain rfl : ra = ua := hcell
            clear hcs1 hcs2 hoff hgv hgon
            have k0 : Kept wr wr := Kept.refl _
            have n0 : (ra != ra) = false := by simp
            cases gv with
            | false =>
              rcases HOF.out (fun hm => by have := HGV.out.2 hm; cases this) with he | ⟨h0, h3⟩
              · injection he with _ he1 he2 he3 he4
                subst he1 he2 he3 he4
                have m0 : (ra == ra) = true := by simp
                have m1 : (rb == rb) = true := by simp
                have m2 : (rc == rc) = true := by simp
                have m3 : (rd == rd) = true := by simp
                have m4 : (re == re) = true := by simp
                go_wp2_with fail
                go_quiet (fail)
                go_wp2_with fail
                go_quiet (fail)
                go_wp2_with fail
                go_roundw
                case rel => exact ⟨j + 1, by omega, by go_num, HM, below_drewN HB.out _⟩
                case measure => simp [intOf]; omega
              · have h0 : ub = 0 := h0
                have h3 : rb = 3 := h3
                subst h0 h3
                have m0 : (ra == ra) = true := by simp
                go_wp2_with fail
                go_quiet (fail)
                go_wp2_with fail
                go_quiet (fail)
                go_wp2_with fail
                go_roundw
                case rel => exact ⟨j + 1, by omega, by go_num, HM, below_drewN HB.out _⟩
                case measure => simp [intOf]; omega
            | true =>
              obtain ⟨h0, h3⟩ := HGN.out (HGV.out.1 rfl)
              have h0 : ub = 0 := h0
              have h3 : rb = 1 := h3
              subst h0 h3
              have m0 : (ra == ra) = true := by simp
              go_wp2_with fail
              go_quiet (fail)
              go_wp2_with fail
              go_quiet (fail)
              go_wp2_with fail
              go_roundw
              case rel => exact ⟨j + 1, by omega, by go_num, HM, below_drewN HB.out _⟩
              case measure => simp [intOf]; omega
          · obtain rfl : j = n1' := by omega
            have HST7 := Lib.hid (HST6.out.below (HKB.out.mono (by omega)))
            have HC2 := Lib.hid (HD W H g ⟨t', a1', j, c1', a2', n2', c2', a3', n3', c3'⟩ st w5.heap.size wr HOK.out HST7.out (by omega) HDI.out.right (by show n3' ≤ 100000; omega))
            rw [HAG.out] at HC2
            have hz9a := Below.size HKB.out
            go_wp2_with fail
            refine HC2.out.mono ?_
            rintro e w9 ⟨h'', ap2, np2, cp2, rfl, hst9, hrow9, hb9⟩
            obtain rfl : np2 = 0 := hrow9.1.symm
            obtain ⟨w10, hw10⟩ : ∃ w10, w10 = w9.alloc (shO h'') := ⟨_, rfl⟩
            have hz9 := hb9.size
            have hb910 : Below w9.heap.size w9 w10 := by rw [hw10]; exact (Below.refl _ _).alloc (Nat.le_refl _) _
            have hx10 : StAt w10 w9.heap.size h'' := by rw [hw10]; exact stAt_new w9 h''
            have hbr : Below wr.heap.size wr w10 := hb9.trans (hb910.mono hb9.size)
            have HSM := Lib.hid (rstSame_any ⟨t', a1', j, c1', a2', n2', c2', a3', n3', c3'⟩ h'' st st w10.heap.size w10 (((HST7.out.below (hbr.mono (by omega))).mono (by have := hbr.size; omega))) ((hst9.below hb910).mono hb910.size) (Nat.le_refl _))
            rw [sameSt_all rfl rfl rfl rfl] at HSM
            have HB10 := Lib.hid (HBF.out.trans (hbr.mono HBF.out.size))
            obtain ⟨x0, x1, x2, x3⟩ := HX6.out.below (HKB.out.trans (hbr.mono hz9a)) (by omega)
            simp only [] at x0 x1 x2 x3
            obtain ⟨t2, a12, n12, c12, a22, n22, c22, a32, n32, c32⟩ := h''
            obtain ⟨k0, k1, k2, k3⟩ := hx10
            simp only [] at k0 k1 k2 k3
            have HW10 := Lib.hid hw10
            rw [hw10] at x0 x1 x2 x3 k0 k1 k2 k3
            clear hst9 hrow9 hb9 hb910 hbr hw10 g0 g1 g2 y0 y1 y2 y3
            go_wp2_with fail
            rw [← HW10.out]
            refine HSM.out.mono ?_
            rintro e w11 ⟨rfl, hb11⟩
            have HB11 := Lib.hid (HB10.out.trans (hb11.mono HB10.out.size))
            clear hb11
            go_wp2_with fail
            go_ret
            exact ⟨rfl, HB11.out⟩

theorem dispatchOnce_say (W H : Int) (g : ByteArray) (h : Sh) (s : St) (w : World) (_ : (Lit.int .i64 W).wf = true) (_ : (Lit.int .i64 H).wf = true) (hg : g.size ≤ maxLen) (hi : StIn w w.heap.size h s) :
    Calls Try.prog 4 #[gridV W H g, shV h] w fun e w' => e = .returned (.bool true) ∧ Below w.heap.size w w' :=
  dispatchOnce_says awake10_any pdisp_any pbest_any W H g h s w hg hi
end Go.Proofs.Ytopgboepkckkjaa.Vm
