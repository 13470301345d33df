/- tuggerlaw13.DiskSure returns true at any operations and any list of what is kept. -/
import Derived.Test.YtkfjbpcngmipnaaDiskDoesWalk
import Derived.Test.YtkfjbpcngmipnaaGuard13
namespace Go.Proofs.Ytkfjbpcngmipnaa.Vm
open Go Go.RowKit
set_option maxRecDepth 100000

def rowsF (F : List FileS) (i : Nat) : List (List Nat) := (F.take i).map (·.b)
def rowsS (F : List FileS) (kept : List Int) (i : Nat) : List (List Nat) := (stepF F kept i).map (·.b)
section
variable {F : List FileS} {kept : List Int} {i : Nat}
theorem rowsF_next (hi : i < F.length) : rowsF F (i + 1) = rowsF F i ++ [(F.getD i zfile).b] := by
  unfold rowsF
  rw [List.take_add_one, List.getElem?_eq_getElem hi, List.map_append]
  simp [List.getD, hi]
theorem rowsF_len (hi : i ≤ F.length) : (rowsF F i).length = i := by simp [rowsF]; omega
theorem rowsF_all (hi : F.length ≤ i) : rowsF F i = rowsS F kept 0 := by
  unfold rowsF rowsS
  rw [List.take_of_length_le hi, stepF_zero]
theorem rowsS_len : (rowsS F kept i).length = F.length := by simp [rowsS, stepF_len]
theorem rowsS_at (hi : i < F.length) : (rowsS F kept i).getD i [] = (F.getD i zfile).b := by
  have h1 := stepF_at (kept := kept) hi
  have hl : i < (stepF F kept i).length := by rw [stepF_len]; exact hi
  unfold rowsS
  simp only [List.getD, List.getElem?_map, List.getElem?_eq_getElem hl, Option.map_some, Option.getD_some] at h1 ⊢
  rw [h1]
theorem rowsS_next (hi : i < F.length) : rowsS F kept (i + 1) = (rowsS F kept i).set i (cutF (F.getD i zfile) (kept.getD i 0)).b := by
  unfold rowsS
  rw [stepF_next hi, List.map_set]
theorem rowsS_end (hi : F.length ≤ i) : rowsS F kept i = (crashF F kept).map (·.b) := by
  unfold rowsS
  rw [stepF_all hi]
theorem rowsC_at (hi : i < F.length) : ((crashF F kept).map (·.b)).getD i [] = (cutF (F.getD i zfile) (kept.getD i 0)).b := by
  have h1 := crashF_at (kept := kept) hi
  have hl : i < (crashF F kept).length := by rw [crashF_len]; exact hi
  simp only [List.getD, List.getElem?_map, List.getElem?_eq_getElem hl, Option.map_some, Option.getD_some] at h1 ⊢
  rw [h1]
theorem namesS_crash : namesS (crashF F kept) = namesS F := crashF_names F kept
theorem namesS_at (hi : i < F.length) : (namesS F).getD i ⟨#[]⟩ = (F.getD i zfile).name := by simp [namesS, List.getD, hi]
end

set_option maxHeartbeats 8000000 in
theorem diskSure_walk (a : Option Addr) (n c : Nat) (l : List (OpS × OpV)) (ao : Option Addr) (mo co : Nat) (z : List Int) (w : World) (hl : RowO w w.heap.size a n c l ∧ ∀ p ∈ l, p.1.n ≤ 9223372036854775807) (hz : IsRow .i64 w ao mo co z) :
    Calls Try.prog 4 #[.slice a n c, .slice ao mo co] w fun e w' => e = .returned (.bool true) ∧ Below w.heap.size w w' := by
  have HAW := Lib.hid (awake13_any w)
  have HL := Lib.hid hl.1
  have HZ := Lib.hid (RowZ.of_isRow hz)
  have HZW : Hid (∀ k ∈ z.take mo, k ≤ 9223372036854775807) := fun k hk => (bounds_i64 (hz.wf k (List.mem_of_mem_take hk))).2
  have hnc := hl.1.2.1
  have hcm := hl.1.2.2.1
  have hmc := HZ.out.2.1
  have hmm := HZ.out.2.2.1
  obtain ⟨i1, hi1, hy0, hy1, hy2⟩ := info_parts info_rows
  unfold maxLen at hcm hmm
  clear hl hz
  generalize z.take mo = kept at *
  go_enter Try.func4, Try.ntmps4
  go_wp2_with fail
  refine HAW.out.mono ?_
  rintro e w1 ⟨rfl, hb1⟩
  have HB1 := Lib.hid hb1
  have HLI := Lib.hid (light13_any a n c w.heap.size l w1 (HL.out.below hb1))
  clear hb1 HAW
  go_wp2_with fail
  refine HLI.out.mono ?_
  rintro e w2 ⟨ok, rfl, hok, m, hw2⟩
  have HB2 : Hid (Below w.heap.size w w2) := by rw [hw2]; exact below_drewN HB1.out m
  have HOK := Lib.hid hok
  clear hw2 HLI hok
  cases ok with
  | false =>
    clear HOK
    go_wp2_with fail
    go_ret
    exact ⟨rfl, HB2.out⟩
  | true =>
    have hn40 := HOK.out rfl
    by_cases hm60 : 60 < mo
    · have d6 : decide ((60 : Int) < (mo : Int)) = true := by rw [decide_eq_true_eq]; omega
      clear HOK
      go_wp2_with fail
      go_ret
      exact ⟨rfl, HB2.out⟩
    · have d6 : decide ((60 : Int) < (mo : Int)) = false := by rw [decide_eq_false_iff_not]; omega
      clear HOK
      have HN1 := Lib.hid (newBoth (A := w) 1048576 w2 HB2.out (by decide))
      go_wp2_with fail
      refine HN1.out.mono ?_
      rintro e w4 ⟨bd, rfl, hp4, _⟩
      have HN2 := Lib.hid (newRef 1048576 hp4 (by decide))
      clear hp4 HN1
      go_wp2_with fail
      refine HN2.out.mono ?_
      rintro e w5 ⟨rd, rfl, hb5⟩
      have HB5 := Lib.hid hb5
      clear hb5 HN2
      go_wp2_with fail
      go_loopg [11] n (fun gg v11 wr => ∃ i : Nat, i + gg = n ∧ v11 = .int .i64 i ∧ Hid (∃ d, OkD d ∧ d.F.length ≤ i ∧ BothN w bd rd d d wr))
      case atStart => exact ⟨0, by omega, rfl, newDk 1048576, okD_new (by decide), Nat.le_refl _, HB5.out⟩
      case round =>
        obtain ⟨i, hig, rfl, HI⟩ := hrel
        obtain ⟨d, hd, hF, hB⟩ := HI.out
        by_cases hi : i < n
        · have hii : (i : Int) < (n : Int) := by omega
          have d1 : decide ((i : Int) < (n : Int)) = true := by rw [decide_eq_true_eq]; exact hii
          obtain ⟨b, off, x, v, rfl, hbl, _, hop, p0, p1, p2, p3, p4, p5⟩ := HL.out.at hi
          have HC := Lib.hid (op_cells hbl p0 p1 p2 p3 p4 p5)
          have HOP := Lib.hid hop
          have HD := Lib.hid hd
          have HF : Hid (d.F.length ≤ 900000) := Nat.le_trans hF (by omega)
          have HE := Lib.hid (hd.does x hop.wn.2)
          have HL2 : Hid ((doS d x).2.F.length ≤ i + 1) := Nat.le_trans (doS_len d x) (by omega)
          obtain ⟨r0, r1, r2, r3, r4, r5⟩ := HC.out wr hB.below
          have HDO := Lib.hid (hB.done hd HF.out hop)
          clear hF hd hop hbl p0 p1 p2 p3 p4 p5 hB HI
          go_wp2_with fail
          refine HDO.out.mono ?_
          rintro e w6 ⟨rfl, hb6⟩
          obtain ⟨s0, s1, s2, s3, s4, s5⟩ := HC.out w6 hb6.below
          have HTO := Lib.hid (hb6.told HD.out HF.out HOP.out)
          clear hb6 HDO
          go_wp2_with fail
          refine HTO.out.mono ?_
          rintro e w7 ⟨rfl, hb7⟩
          have HB7 : Hid (∃ d, OkD d ∧ d.F.length ≤ i + 1 ∧ BothN w bd rd d d w7) := ⟨_, HE.out, HL2.out, hb7⟩
          clear hb7 HTO HE HL2
          generalize (doS d x).1 = code at *
          go_wp2_with fail
          go_roundg (gk - 1)
          case rel => exact ⟨i + 1, by omega, by first | rfl | go_num, HB7⟩
          case measure => omega
        · obtain rfl : i = n := by omega
          have d1 : decide ((i : Int) < (i : Int)) = false := by simp
          have HF : Hid (d.F.length ≤ 40) := Nat.le_trans hF hn40
          have HD := Lib.hid hd
          have HLS := Lib.hid (hB.guard.list hd (Nat.le_trans hF (by omega)))
          clear hB hF hd HI
          generalize hN : d.F.length = N at *
          have HN := Lib.hid hN
          clear hN
          go_wp2_with fail
          refine HLS.out.mono ?_
          rintro e w6 ⟨a1, c1, rfl, hnm6, hb6, _⟩
          have hN40 : N ≤ 40 := HF.out
          have HBG6 := Lib.hid hb6
          have HNM6 := Lib.hid hnm6
          clear hb6 hnm6 HLS
          go_wp2_with fail
          go_loopg [13, 14] N (fun gg v13 v14 wq => ∃ (j : Nat) (G : Nat → Prop), j + gg = N ∧ v14 = .int .i64 j ∧ Hid (BothG w G bd rd d d wq) ∧ Hid (NamesG wq G (.slice a1 N c1) (namesS d.F)) ∧ Hid (RowsG wq G v13 (rowsF d.F j)))
          case atStart => exact ⟨0, _, by omega, rfl, HBG6.out, HNM6.out, RowsG.nil _ _⟩
          case round =>
            obtain ⟨j, G, hjg, rfl, HBG, HNM, HRW⟩ := hrel
            by_cases hj : j < N
            · have hjj : (j : Int) < (N : Int) := by omega
              have d2 : decide ((j : Int) < (N : Int)) = true := by rw [decide_eq_true_eq]; exact hjj
              have hjF : j < d.F.length := by rw [HN.out]; exact hj
              obtain ⟨b, rfl, hcn, hxx, hnc1, hcm1⟩ := HNM.out.at hj
              clear hxx
              rw [namesS_at hjF] at hcn
              unfold maxLen at hcm1
              have HRD := Lib.hid (HBG.out.read HD.out hjF)
              have HNX : Hid (rowsF d.F (j + 1) = rowsF d.F j ++ [(d.F.getD j zfile).b]) := rowsF_next hjF
              have HLE : Hid ((rowsF d.F j).length = j) := rowsF_len (by rw [HN.out]; omega)
              generalize (d.F.getD j zfile).name = nm at *
              generalize (d.F.getD j zfile).b = fb at *
              clear hjF
              go_wp2_with fail
              refine HRD.out.mono ?_
              rintro e w8 ⟨a8, c8, rfl, hown8, hlt8, hbg8, hb8⟩
              have hrw8 := (HRW.out.alt (S := fun _ => False) (Alt.ofBelow hb8) (fun _ _ h => h)).mono (G' := fun k => G k ∨ (wr.heap.size ≤ k ∧ k < w8.heap.size)) (fun k hk => .inl hk)
              have hnm8 := (HNM.out.alt (S := fun _ => False) (Alt.ofBelow hb8) (fun _ _ h => h)).mono (G' := fun k => G k ∨ (wr.heap.size ≤ k ∧ k < w8.heap.size)) (fun k hk => .inl hk)
              obtain ⟨xs, x1, x2, x3⟩ := hrw8
              have HNM8 := Lib.hid hnm8
              have HBG8 := Lib.hid hbg8
              have HOW8 := Lib.hid hown8
              have HLT8 : Hid (∀ k, (Value.slice a8 fb.length c8).ownBlock = some k → G k ∨ (wr.heap.size ≤ k ∧ k < w8.heap.size)) := fun k hk => .inr (hlt8 k hk)
              have HX1 := Lib.hid x1
              have HX2 := Lib.hid x2
              have HX3 := Lib.hid x3
              clear hown8 hlt8 hbg8 hb8 hnm8 x1 x2 x3 HRD
              go_wp2_with (at_builtin; refine wpList_append_own_at _ rfl (.tmp 86) (.tmp 88) 44 rfl 0 33 i1 (.slice none 0 0) 1 24 Try.underlying44 hi1 hy0 hy1 hy2 rfl (by decide) _ _ _ rfl (World.ownsRow.alloc HX1.out _) ⟨w8.heap.size, 0, none⟩ 1 1 [.slice a8 fb.length c8] rfl rfl (one_cell _ _ _) (by simp [Value.oneCell']) (by have := HLE.out; simp only [maxLen]; omega) (by have := HLE.out; omega) (Nat.zero_le _) ?_; intro v9 w9 hown9 hgrow9 _ hat9)
              have hpush := RowsG.push HX1.out HX2.out HX3.out HOW8.out HLT8.out hown9 hgrow9 hat9 (fun k hk => (World.ownsRow.lt hown9 k hk).2)
              rw [← HNX.out] at hpush
              have HR9 := Lib.hid hpush.1
              have HN9 := Lib.hid ((HNM8.out.alt hpush.2 (fun k hk => HNM8.out.ne_rows HX1.out hk)).mono (G' := fun k => (G k ∨ (wr.heap.size ≤ k ∧ k < w8.heap.size)) ∨ (w8.heap.size ≤ k ∧ k < w9.heap.size)) (fun k hk => .inl hk))
              have HB9 := Lib.hid (HBG8.out.step (hpush.2.mono (S' := fun k => G k ∨ (wr.heap.size ≤ k ∧ k < w8.heap.size)) (fun k hk _ => HX2.out k hk)))
              clear hpush hown9 hgrow9 hat9 HX1 HX2 HX3
              go_wp2_with fail
              go_roundg (gk - 1)
              case rel => exact ⟨j + 1, _, by omega, by first | rfl | go_num, HB9.out, HN9.out, HR9.out⟩
              case measure => omega
            · obtain rfl : j = N := by omega
              have d2 : decide ((j : Int) < (j : Int)) = false := by simp
              obtain ⟨a3, c3, e3⟩ := HRW.out.slice
              rw [rowsF_len (by rw [HN.out]; omega)] at e3
              subst e3
              have HRS : Hid (RowsG wr G (.slice a3 j c3) (rowsS d.F kept 0)) := by
                have := HRW.out
                rwa [rowsF_all (kept := kept) (by rw [HN.out]; omega)] at this
              have hl3 := HRS.out.len.2
              unfold maxLen at hl3
              have HCR := Lib.hid (HBG.out.crash HD.out (by rw [HN.out]; omega) HZ.out HZW.out)
              have HDC := Lib.hid (HD.out.crash kept)
              clear HRW
              go_wp2_with fail
              refine HCR.out.mono ?_
              rintro e w7 ⟨rfl, hb7, hA7⟩
              have HN7 := Lib.hid (HNM.out.alt hA7 (fun k hk h => h (HNM.out.2 k hk)))
              have HR7 := Lib.hid (HRS.out.alt hA7 (fun k hk h => h hk))
              have HLT := Lib.hid (hb7.list HDC.out (by show (crashF d.F kept).length ≤ _; rw [crashF_len, HN.out]; omega))
              clear hb7 hA7 HCR HRS HNM HBG
              go_wp2_with fail
              refine HLT.out.mono ?_
              rintro e w8 ⟨a2, c2, rfl, hnm8, hb8, hbel8⟩
              have HN8 := Lib.hid ((HN7.out.alt (S := fun _ => False) (Alt.ofBelow hbel8) (fun _ _ h => h)).mono (G' := fun k => G k ∨ (w7.heap.size ≤ k ∧ k < w8.heap.size)) (fun k hk => .inl hk))
              have HR8 := Lib.hid ((HR7.out.alt (S := fun _ => False) (Alt.ofBelow hbel8) (fun _ _ h => h)).mono (G' := fun k => G k ∨ (w7.heap.size ≤ k ∧ k < w8.heap.size)) (fun k hk => .inl hk))
              have HB8 := Lib.hid hb8
              have HNA := Lib.hid (rNames13_any a2 a1 _ c2 j c1 _ _ _ w8 hnm8.row HN8.out.row)
              have HEQ : Hid (decide (namesS (crashS d kept).F = namesS d.F) = true) := decide_eq_true namesS_crash
              rw [HEQ.out] at HNA
              clear hnm8 hb8 hbel8 HLT
              go_wp2_with fail
              refine HNA.out.mono ?_
              rintro e w9 ⟨rfl, m9, hw9⟩
              have hbel9 : Below w8.heap.size w8 w9 := by rw [hw9]; exact below_drewN (Below.refl _ _) _
              have HN9 := Lib.hid ((HN8.out.alt (S := fun _ => False) (Alt.ofBelow hbel9) (fun _ _ h => h)).mono (G' := fun k => (G k ∨ (w7.heap.size ≤ k ∧ k < w8.heap.size)) ∨ (w8.heap.size ≤ k ∧ k < w9.heap.size)) (fun k hk => .inl hk))
              have HR9 := Lib.hid ((HR8.out.alt (S := fun _ => False) (Alt.ofBelow hbel9) (fun _ _ h => h)).mono (G' := fun k => (G k ∨ (w7.heap.size ≤ k ∧ k < w8.heap.size)) ∨ (w8.heap.size ≤ k ∧ k < w9.heap.size)) (fun k hk => .inl hk))
              have HB9 := Lib.hid (HB8.out.step (Alt.ofBelow hbel9 : Alt _ w8 w9))
              obtain ⟨ra, rc, hrc0, hrc1, hrc2⟩ := HB9.out.refLen
              rw [HN.out] at hrc0 hrc1
              have hjj : ((j : Int) != (j : Int)) = false := by simp
              unfold maxLen at hrc2
              clear hw9 hbel9 HNA HEQ
              go_wp2_with fail
              go_loopg [18] j (fun gg v18 wq => ∃ (q : Nat) (G : Nat → Prop), q + gg = j ∧ v18 = .int .i64 q ∧ Hid (BothG w G bd rd (crashS d kept) d wq) ∧ Hid (NamesG wq G (.slice a1 j c1) (namesS d.F)) ∧ Hid (RowsG wq G (.slice a3 j c3) (rowsS d.F kept q)))
              case atStart => exact ⟨0, _, by omega, rfl, HB9.out, HN9.out, HR9.out⟩
              case round =>
                clear HB9 HN9 HR9 HB8 HN8 HR8 HN7 HR7 hrc0 hrc1 hrc2
                obtain ⟨q, G, hqg, rfl, HBG, HNM, HRW⟩ := hrel
                by_cases hq : q < j
                · have hqq : (q : Int) < (j : Int) := by omega
                  have d3 : decide ((q : Int) < (j : Int)) = true := by rw [decide_eq_true_eq]; exact hqq
                  have hqF : q < d.F.length := by rw [HN.out]; exact hq
                  have hqC : q < (crashS d kept).F.length := by show q < (crashF d.F kept).length; rw [crashF_len]; exact hqF
                  obtain ⟨b, rfl, hcn, hxx, hnc1, hcm1⟩ := HNM.out.at hq
                  clear hxx
                  rw [namesS_at hqF] at hcn
                  unfold maxLen at hcm1
                  have hrd := HBG.out.read HDC.out hqC
                  have hca := crashF_at (kept := kept) hqF
                  have e1 : (crashS d kept).F.getD q zfile = cutF (d.F.getD q zfile) (kept.getD q 0) := hca
                  rw [e1, cutF_name] at hrd
                  have hle := cutF_le (d.F.getD q zfile) (kept.getD q 0) (HD.out.sure _ (getD_mem hqF))
                  have HNX : Hid (rowsS d.F kept (q + 1) = (rowsS d.F kept q).set q (cutF (d.F.getD q zfile) (kept.getD q 0)).b) := rowsS_next hqF
                  have HAT : Hid ((rowsS d.F kept q).getD q [] = (d.F.getD q zfile).b) := rowsS_at hqF
                  have HQF := Lib.hid hqF
                  have HRD := Lib.hid hrd
                  clear hqC hca e1 hrd hqF
                  have HSU : Hid (∀ G V, BothG w G bd rd (crashS d kept) d V → ∃ lb c, V.cell? ⟨rd, 0, none⟩ = some (.slice (some ⟨lb, 0, none⟩) j c) ∧ j ≤ c ∧ c ≤ maxLen ∧ V.cell? ⟨lb, q * 3 + 2, none⟩ = some (.int .i64 (d.F.getD q zfile).sure)) := fun G V h => by
                    have := h.refSure HQF.out
                    rwa [HN.out] at this
                  generalize (d.F.getD q zfile).name = nm at *
                  generalize (cutF (d.F.getD q zfile) (kept.getD q 0)).b = cb at *
                  generalize (d.F.getD q zfile).b = fb at *
                  generalize (d.F.getD q zfile).sure = su at *
                  have HTK := Lib.hid hle.2.2
                  have hle1 := hle.1
                  have hle2 := hle.2.1
                  clear hle
                  go_wp2_with fail
                  refine HRD.out.mono ?_
                  rintro e w10 ⟨a8, c8, rfl, hown8, hlt8, hbg8, hb8⟩
                  have HRW8 := Lib.hid ((HRW.out.alt (S := fun _ => False) (Alt.ofBelow hb8) (fun _ _ h => h)).mono (G' := fun k => G k ∨ (wr.heap.size ≤ k ∧ k < w10.heap.size)) (fun k hk => .inl hk))
                  have HNM8 := Lib.hid ((HNM.out.alt (S := fun _ => False) (Alt.ofBelow hb8) (fun _ _ h => h)).mono (G' := fun k => G k ∨ (wr.heap.size ≤ k ∧ k < w10.heap.size)) (fun k hk => .inl hk))
                  have HBG8 := Lib.hid hbg8
                  have HOW8 := Lib.hid hown8
                  have HLT8 : Hid (∀ k, (Value.slice a8 cb.length c8).ownBlock = some k → G k ∨ (wr.heap.size ≤ k ∧ k < w10.heap.size)) := fun k hk => .inr (hlt8 k hk)
                  obtain ⟨lb, rc2, k0, k1, k2, k3⟩ := HSU.out _ _ hbg8
                  unfold maxLen at k2
                  obtain ⟨g, a', c', rfl, hGg, hcell, hrow, hfz, cs, hgt⟩ := HRW8.out.at hq
                  rw [HAT.out] at hcell hrow
                  have HROW := Lib.hid hrow
                  have hr1 := hrow.2.1
                  have hr2 := hrow.2.2.1
                  unfold maxLen at hr2
                  have ho1 := HOW8.out.row.2.1
                  have ho2 := HOW8.out.row.2.2.1
                  unfold maxLen at ho2
                  have HGG := Lib.hid hGg
                  have HGT := Lib.hid hgt
                  have HFZ := Lib.hid hfz
                  have hsa := same_any a8 a' cb.length c8 cb.length c' _ cb (fb.take cb.length) w10 HOW8.out.row (hrow.take13 hle1)
                  rw [← HTK.out, sameB_self] at hsa
                  have HSA := Lib.hid hsa
                  have g1 : decide ((fb.length : Int) < (cb.length : Int)) = false := by rw [decide_eq_false_iff_not]; omega
                  have g2 : decide ((cb.length : Int) < (su : Int)) = false := by rw [decide_eq_false_iff_not]; omega
                  have g3 : ¬ (fb.length : Int) < (cb.length : Int) := by omega
                  have g4 : (0 : Int) ≤ (cb.length : Int) := by omega
                  have g5 : (cb.length : Int) ≤ (c' : Int) := by omega
                  have g6 : cb.length ≤ c' := by omega
                  clear hown8 hlt8 hbg8 hb8 hrow hGg hgt hfz hsa HRD
                  generalize hM : cb.length = M at *
                  generalize hL : fb.length = L at *
                  have HM := Lib.hid hM
                  clear hM hL
                  go_wp2_with fail
                  refine HSA.out.mono ?_
                  rintro e w11 ⟨rfl, m11, hw11⟩
                  have hbel11 : Below w10.heap.size w10 w11 := by rw [hw11]; exact below_drewN (Below.refl _ _) _
                  have hA11 : Alt (fun _ => False) w10 w11 := Alt.ofBelow hbel11
                  have hglt := (Array.getElem?_eq_some_iff.1 HGT.out).1
                  have HS : Hid (∃ G2, BothG w G2 bd rd (crashS d kept) d (w11.setCell ⟨g, q, none⟩ (.slice a8 M c8)) ∧ NamesG (w11.setCell ⟨g, q, none⟩ (.slice a8 M c8)) G2 (.slice (some ⟨b, 0, none⟩) j c1) (namesS d.F) ∧ RowsG (w11.setCell ⟨g, q, none⟩ (.slice a8 M c8)) G2 (.slice (some ⟨g, 0, none⟩) j c3) (rowsS d.F kept (q + 1))) := by
                    have hA12 := setCell_alt w11 g q (.slice a8 M c8)
                    have hs12 : (w11.setCell ⟨g, q, none⟩ (.slice a8 M c8)).heap.size = w11.heap.size := by simp [World.setCell]
                    have hr11 := HRW8.out.alt hA11 (fun _ _ h => h)
                    have hn11 := HNM8.out.alt hA11 (fun _ _ h => h)
                    have ho11 := HOW8.out.alt hA11 (fun _ _ h => h)
                    have hst := hr11.store hq ho11 HLT8.out
                    rw [← HNX.out] at hst
                    have hgt11 : w11.heap[g]? = some (.cells cs 33 (0, 0)) := by rw [hA11.block g hglt (fun h => h)]; exact HGT.out
                    exact ⟨_, HBG8.out.step ((hA11.mono (S' := fun k => G k ∨ (wr.heap.size ≤ k ∧ k < w10.heap.size)) (fun _ h _ => absurd h id)).trans hA12 (fun k hk _ => by rw [hk]; exact HGG.out)), (hn11.alt hA12 (fun k hk => hn11.ne_block hgt11 hk)).mono (fun k hk => .inl hk), hst.mono (fun k hk => .inl hk)⟩
                  have hce := (hbel11.cell (p := ⟨g, q, none⟩) hglt).trans hcell
                  have hfr := (hbel11.frozen (p := ⟨g, q, none⟩) hglt).trans HFZ.out
                  obtain ⟨G2, hs1, hs2, hs3⟩ := HS.out
                  have HS1 := Lib.hid hs1
                  have HS2 := Lib.hid hs2
                  have HS3 := Lib.hid hs3
                  clear hw11 hbel11 hA11 hglt HSA HS hs1 hs2 hs3
                  go_wp2_with fail
                  go_roundg (gk - 1)
                  case rel => exact ⟨q + 1, _, by omega, by first | rfl | go_num, HS1.out, HS2.out, HS3.out⟩
                  case measure => omega
                · obtain rfl : q = j := by omega
                  have d3 : decide ((q : Int) < (q : Int)) = false := by simp
                  have HRE : Hid (RowsG wr G (.slice a3 q c3) ((crashF d.F kept).map (·.b))) := by
                    have := HRW.out
                    rwa [rowsS_end (by rw [HN.out]; omega)] at this
                  have HCR := Lib.hid (HBG.out.crash HDC.out (by show (crashF d.F kept).length ≤ _; rw [crashF_len, HN.out]; omega) (⟨rfl, Nat.le_refl _, by simp [maxLen], fun h => absurd h (by omega)⟩ : RowZ .i64 w w.heap.size none 0 0 []) (by simp))
                  have HD2 := Lib.hid (HDC.out.crash [])
                  clear HRW
                  go_wp2_with fail
                  refine HCR.out.mono ?_
                  rintro e w10 ⟨rfl, hb10, hA10⟩
                  have HN10 := Lib.hid (HNM.out.alt hA10 (fun k hk h => h (HNM.out.2 k hk)))
                  have HR10 := Lib.hid (HRE.out.alt hA10 (fun k hk h => h hk))
                  have HB10 := Lib.hid hb10
                  clear hb10 hA10 HCR HRE HNM HBG
                  go_wp2_with fail
                  go_loopg [22] q (fun gg v22 wq => ∃ (p : Nat) (G : Nat → Prop), p + gg = q ∧ v22 = .int .i64 p ∧ Hid (BothG w G bd rd (crashS (crashS d kept) []) d wq) ∧ Hid (NamesG wq G (.slice a1 q c1) (namesS d.F)) ∧ Hid (RowsG wq G (.slice a3 q c3) ((crashF d.F kept).map (·.b))))
                  case atStart => exact ⟨0, _, by omega, rfl, HB10.out, HN10.out, HR10.out⟩
                  case round =>
                    clear HB10 HN10 HR10
                    obtain ⟨p, G', hpg, rfl, HBG, HNM, HRW⟩ := hrel
                    by_cases hp : p < q
                    · have hpp : (p : Int) < (q : Int) := by omega
                      have d4 : decide ((p : Int) < (q : Int)) = true := by rw [decide_eq_true_eq]; exact hpp
                      have hpF : p < d.F.length := by rw [HN.out]; exact hp
                      have e0 : (crashS (crashS d kept) []).F = crashF d.F kept := crashF_again d.F kept []
                      have hpC : p < (crashS (crashS d kept) []).F.length := by rw [e0, crashF_len]; exact hpF
                      obtain ⟨b, rfl, hcn, hxx, hnc1, hcm1⟩ := HNM.out.at hp
                      clear hxx
                      rw [namesS_at hpF] at hcn
                      unfold maxLen at hcm1
                      have hrd := HBG.out.read HD2.out hpC
                      rw [e0, crashF_at hpF, cutF_name] at hrd
                      have HAT : Hid (((crashF d.F kept).map (·.b)).getD p [] = (cutF (d.F.getD p zfile) (kept.getD p 0)).b) := rowsC_at hpF
                      have HRD := Lib.hid hrd
                      clear hpC hrd e0 hpF
                      generalize (d.F.getD p zfile).name = nm at *
                      generalize (cutF (d.F.getD p zfile) (kept.getD p 0)).b = cb at *
                      go_wp2_with fail
                      refine HRD.out.mono ?_
                      rintro e w11 ⟨a8, c8, rfl, hown8, hlt8, hbg8, hb8⟩
                      have HRW8 := Lib.hid ((HRW.out.alt (S := fun _ => False) (Alt.ofBelow hb8) (fun _ _ h => h)).mono (G' := fun k => G' k ∨ (wr.heap.size ≤ k ∧ k < w11.heap.size)) (fun k hk => .inl hk))
                      have HNM8 := Lib.hid ((HNM.out.alt (S := fun _ => False) (Alt.ofBelow hb8) (fun _ _ h => h)).mono (G' := fun k => G' k ∨ (wr.heap.size ≤ k ∧ k < w11.heap.size)) (fun k hk => .inl hk))
                      have HBG8 := Lib.hid hbg8
                      obtain ⟨g, a', c', rfl, hGg, hcell, hrow, hfz, cs, hgt⟩ := HRW8.out.at hp
                      rw [HAT.out] at hcell hrow
                      have hsa := same_any a8 a' cb.length c8 cb.length c' _ cb cb w11 hown8.row hrow
                      rw [sameB_self] at hsa
                      have HSA := Lib.hid hsa
                      clear hown8 hlt8 hbg8 hb8 hrow hGg hgt hfz hsa HRD
                      go_wp2_with fail
                      refine HSA.out.mono ?_
                      rintro e w12 ⟨rfl, m12, hw12⟩
                      have hbel12 : Below w11.heap.size w11 w12 := by rw [hw12]; exact below_drewN (Below.refl _ _) _
                      have hA12 : Alt (fun _ => False) w11 w12 := Alt.ofBelow hbel12
                      have HS1 := Lib.hid (HBG8.out.step (hA12.mono (S' := fun k => G' k ∨ (wr.heap.size ≤ k ∧ k < w11.heap.size)) (fun _ h _ => absurd h id)))
                      have HS2 := Lib.hid ((HNM8.out.alt hA12 (fun _ _ h => h)).mono (G' := fun k => (G' k ∨ (wr.heap.size ≤ k ∧ k < w11.heap.size)) ∨ (w11.heap.size ≤ k ∧ k < w12.heap.size)) (fun k hk => .inl hk))
                      have HS3 := Lib.hid ((HRW8.out.alt hA12 (fun _ _ h => h)).mono (G' := fun k => (G' k ∨ (wr.heap.size ≤ k ∧ k < w11.heap.size)) ∨ (w11.heap.size ≤ k ∧ k < w12.heap.size)) (fun k hk => .inl hk))
                      clear hw12 hbel12 hA12 HSA
                      go_wp2_with fail
                      go_roundg (gk - 1)
                      case rel => exact ⟨p + 1, _, by omega, by first | rfl | go_num, HS1.out, HS2.out, HS3.out⟩
                      case measure => omega
                    · obtain rfl : p = q := by omega
                      have d4 : decide ((p : Int) < (p : Int)) = false := by simp
                      have HFIN := Lib.hid HBG.out.below
                      clear HBG HNM HRW
                      go_wp2_with fail
                      go_ret
                      exact ⟨rfl, HFIN.out⟩
end Go.Proofs.Ytkfjbpcngmipnaa.Vm
