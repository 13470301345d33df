/- The program's disk: Crash. -/
import Derived.Test.YtkfjbpcngmipnaaDkCut
import Derived.Test.YtkfjbpcngmipnaaDkList
namespace Go.Proofs.Ytkfjbpcngmipnaa.Vm
open Go Go.RowKit Go.Maps
set_option maxRecDepth 100000

theorem RowZ.off13 {k : IntKind} {w : World} {B : Nat} {a : Option Addr} {n c : Nat} {l : List Int} (h : RowZ k w B a n c l) : ∀ b o, a = some ⟨b, o, none⟩ → 0 < n → b < B := fun b o e hn => by
  obtain ⟨b', o', e', hb, _⟩ := h.2.2.2 hn
  rw [e'] at e
  injection e with e
  injection e with e _
  omega
theorem CutPost.below {w w' : World} {bd mb B : Nat} {g : ByteArray → Option PF} {fu : Int} {d' : DiskS} (h : CutPost w bd mb g fu d' w') (hB : ∀ k, Dk bd mb g k → B ≤ k) (hw : B ≤ w.heap.size) : Below B w w' := by
  obtain ⟨g', h1, hA, h2⟩ := h
  exact hA.below hB hw
set_option maxHeartbeats 2000000 in
theorem pCrash13_any (bd : Nat) (d : DiskS) (P : Nat → Prop) (ao : Option Addr) (mo co : Nat) (kept : List Int) (w : World) (h : PrgD w P bd d) (hd : OkD d) (hF : d.F.length ≤ 900000) (hk : RowZ .i64 w w.heap.size ao mo co kept) (hw : ∀ k ∈ kept, k ≤ 9223372036854775807) (hB : ∀ b o, ao = some ⟨b, o, none⟩ → 0 < mo → ¬ P b) :
    Calls Try.prog 16 #[.pointer (some ⟨bd, 0, none⟩), .slice ao mo co] w fun e w' => e = .returned (.tuple #[]) ∧ PrgPost w P bd (crashS d kept) w' := by
  obtain ⟨mb, g, fu, h, hP, hlt⟩ := h
  have HLI := Lib.hid (pList13_any bd mb g fu d w h hd (Nat.le_trans hF (by omega)))
  have HR := Lib.hid h
  have HOK := Lib.hid hd
  have HPP := Lib.hid hP
  have hbd := h.box.lt
  have HBB : Hid (∀ b o, ao = some ⟨b, o, none⟩ → 0 < mo → ¬ Dk bd mb g b) := fun b o e hn hk => hB b o e hn (hP b hk)
  have HKR := Lib.hid hk
  have HKW : Hid (∀ i, kept.getD i 0 ≤ 9223372036854775807) := fun i => by
    by_cases hi : i < kept.length
    · exact hw _ (by simp [List.getD, hi])
    · simp [List.getD, List.getElem?_eq_none (show kept.length ≤ i by omega)]
  have HKL : Hid (kept.length = mo) := hk.1
  have hmc := hk.2.1
  have hcm := hk.2.2.1
  unfold maxLen at hcm
  clear hk hd hB h hP hlt hw
  go_enter Try.func16, Try.ntmps16
  go_wp2_with fail
  refine HLI.out.mono ?_
  rintro e w1 ⟨a, c, rfl, hown, hb1⟩
  generalize hN : d.F.length = N at *
  have HN := Lib.hid hN
  have HB1 := Lib.hid hb1
  obtain ⟨a', c', e2, hrow⟩ := hown.row
  have hln : (namesS d.F).length = N := by rw [← hN]; simp [namesS]
  rw [hln] at e2 hrow
  injection e2 with e3 _ e4
  subst e3 e4
  have HNR : Hid (∀ i, i < N → ∃ b o, a = some ⟨b, o, none⟩ ∧ w.heap.size ≤ b ∧ b < w1.heap.size ∧ w1.cell? ⟨b, o + i, none⟩ = some (.string (d.F.getD i zfile).name)) := fun i hi => by
    obtain ⟨b, o, e, hlt, hc⟩ := hrow.2.2.2 (by omega)
    refine ⟨b, o, e, ?_, hlt, ?_⟩
    · rcases hown.2 with ⟨hv, _⟩ | ⟨g', cap, cur, hv, hb, _⟩
      · injection hv with h1 h2 h3
        rw [h1] at e; cases e
      · injection hv with h1 h2 h3
        rw [h1] at e
        injection e with e
        injection e with e _
        omega
    · rw [hc i hi]
      have : i < d.F.length := by omega
      simp [namesS, List.getD, this]
  have hcn := hrow.2.1
  have hcx := hrow.2.2.1
  unfold maxLen at hcx
  have HR1 : Hid (PrgAt w1 bd mb g fu d) := HR.out.alt (S := fun _ => False) (Alt.ofBelow hb1) (fun _ _ h => h)
  have HK1 : Hid (RowZ .i64 w1 w.heap.size ao mo co kept) := HKR.out.below hb1
  have hs1 := hb1.size
  clear hN hb1 hown hrow hln
  go_wp2_with fail
  go_loopg [10] N (fun gg v10 wr => ∃ i : Nat, i + gg = N ∧ v10 = .int .i64 i ∧ Hid (∃ gr, PrgAt wr bd mb gr fu { d with F := stepF d.F kept i } ∧ OkD { d with F := stepF d.F kept i } ∧ Alt (fun k => Dk bd mb g k) w1 wr ∧ ∀ k, Dk bd mb gr k → Dk bd mb g k))
  case atStart => exact ⟨0, by omega, rfl, g, by rw [stepF_zero]; exact HR1.out, by rw [stepF_zero]; exact HOK.out, Alt.refl _ _, fun _ h => h⟩
  case round =>
    obtain ⟨i, hig, rfl, HI⟩ := hrel
    obtain ⟨gr, hr, hok, hA, hD⟩ := HI.out
    by_cases hi : i < N
    · have hii : (i : Int) < (N : Int) := by omega
      have d1 : decide ((i : Int) < (N : Int)) = true := by rw [decide_eq_true_eq]; exact hii
      obtain ⟨b, o, rfl, hb2, hb3, hc⟩ := HNR.out i hi
      have hc2 := (hA.cell (p := ⟨b, o + i, none⟩) hb3 (fun hk => by have := HR.out.lt hk; simp at this; omega)).trans hc
      have hiF : i < d.F.length := by rw [HN.out]; exact hi
      have e0 := stepF_at (F := d.F) (kept := kept) (i := i) hiF
      have HCU := Lib.hid (fun hF => pCut13_any bd mb gr fu { d with F := stepF d.F kept i } i (kept.getD i 0) wr hr hok hF (by show i < (stepF d.F kept i).length; rw [stepF_len]; exact hiF) (HKW.out i))
      have hlF : (stepF d.F kept i).length ≤ 900000 := by rw [stepF_len, HN.out]; exact hF
      have HCU2 := Lib.hid (HCU.out hlF)
      have HOKN : Hid (OkD { d with F := stepF d.F kept (i + 1) }) := by
        have hcl := cutF_le (d.F.getD i zfile) (kept.getD i 0) (by have := HOK.out.sure _ (getD_mem hiF); exact this)
        have h1 := OkD.set hok (i := i) (by show i < (stepF d.F kept i).length; rw [stepF_len]; exact hiF) (g := cutF (d.F.getD i zfile) (kept.getD i 0)) (by show _ = ((stepF d.F kept i).getD i zfile).name; rw [e0]; rfl) (Nat.le_refl _) (by
          show allS (stepF d.F kept i) + _ ≤ _ + ((stepF d.F kept i).getD i zfile).b.length
          rw [e0]
          have := hok.all
          have h2 : allS (stepF d.F kept i) ≤ 16777216 := this
          omega)
        unfold Hid
        rw [stepF_next hiF]
        exact h1
      have HST : Hid (∀ w', CutPost wr bd mb gr fu { d with F := (stepF d.F kept i).set i (cutF ((stepF d.F kept i).getD i zfile) (kept.getD i 0)) } w' → ∃ gr, PrgAt w' bd mb gr fu { d with F := stepF d.F kept (i + 1) } ∧ OkD { d with F := stepF d.F kept (i + 1) } ∧ Alt (fun k => Dk bd mb g k) w1 w' ∧ ∀ k, Dk bd mb gr k → Dk bd mb g k) := fun w' h => by
        obtain ⟨g', h1, h2, h3⟩ := h
        rw [e0] at h1
        refine ⟨g', by rw [stepF_next hiF]; exact h1, HOKN.out, hA.trans h2 (fun k hk _ => hD k hk), fun k hk => hD k (h3 k hk)⟩
      have HCU3 : Hid (Calls Try.prog 40 #[.pointer (some ⟨bd, 0, none⟩), .string (d.F.getD i zfile).name, .int .i64 (kept.getD i 0)] wr fun e w' => e = .returned (.tuple #[]) ∧ CutPost wr bd mb gr fu { d with F := (stepF d.F kept i).set i (cutF ((stepF d.F kept i).getD i zfile) (kept.getD i 0)) } w') := by
        have := HCU2.out
        unfold Hid
        have e1 : (({ d with F := stepF d.F kept i } : DiskS).F.getD i zfile).name = (d.F.getD i zfile).name := by show ((stepF d.F kept i).getD i zfile).name = _; rw [e0]
        rw [e1] at this
        exact this
      have HKK : Hid (∀ (hm : i < mo), ∃ kb ko, ao = some ⟨kb, ko, none⟩ ∧ wr.cell? ⟨kb, ko + i, none⟩ = some (.int .i64 (kept.getD i 0))) := fun hm => by
        obtain ⟨kb, ko, e, hlt, hc⟩ := HK1.out.cells (by omega)
        exact ⟨kb, ko, e, (hA.cell (p := ⟨kb, ko + i, none⟩) (by simp; omega) (fun hk => HBB.out kb ko e (by omega) hk)).trans (hc i hm)⟩
      have HK0 : Hid (¬ i < mo → kept.getD i 0 = 0) := fun hm => by simp [List.getD, List.getElem?_eq_none (show kept.length ≤ i by have := HKL.out; omega)]
      clear HCU HCU2 e0 hok hr hA hD hlF hiF HOKN
      generalize (d.F.getD i zfile).name = nm at *
      generalize kept.getD i 0 = kv at *
      by_cases hm : i < mo
      · have hmi : (i : Int) < (mo : Int) := by omega
        have d2 : decide ((i : Int) < (mo : Int)) = true := by rw [decide_eq_true_eq]; exact hmi
        obtain ⟨kb, ko, rfl, hkc⟩ := HKK.out hm
        go_wp2_with fail
        refine HCU3.out.mono ?_
        rintro e w2 ⟨rfl, hp⟩
        have HN2 := Lib.hid (HST.out w2 hp)
        clear hp
        go_wp2_with fail
        go_roundg (gk - 1)
        case rel => exact ⟨i + 1, by omega, by first | rfl | go_num, HN2⟩
        case measure => omega
      · have d2 : decide ((i : Int) < (mo : Int)) = false := by rw [decide_eq_false_iff_not]; omega
        have HKV := Lib.hid (HK0.out hm)
        rw [HKV.out] at HCU3
        go_wp2_with fail
        refine HCU3.out.mono ?_
        rintro e w2 ⟨rfl, hp⟩
        have HN2 := Lib.hid (HST.out w2 (by rw [HKV.out]; exact hp))
        clear hp
        go_wp2_with fail
        go_roundg (gk - 1)
        case rel => exact ⟨i + 1, by omega, by first | rfl | go_num, HN2⟩
        case measure => omega
    · obtain rfl : i = N := by omega
      have d1 : decide ((i : Int) < (i : Int)) = false := by simp
      have hr1 := hr.store (i := 3) (u := .int .i64 (-1)) (fu' := -1) (d' := { d with F := stepF d.F kept i, burn := -1 }) rfl rfl rfl (by decide)
      have hr2 := hr1.store (i := 4) (u := .bool true) (fu' := -1) (d' := crashS d kept) (by
        have : (crashS d kept).F = stepF d.F kept i := by rw [stepF_all (by rw [HN.out]; omega)]; rfl
        rw [this]; rfl) (by rw [stepF_all (by rw [HN.out]; omega)]; rfl) rfl (by decide)
      obtain ⟨_, _, _, q3, q4⟩ := hr.box.cells
      have f3 := hr.box.frozen 3
      have f4 := hr.box.frozen 4
      have HP : Hid (PrgPost w P bd (crashS d kept) ((wr.setCell ⟨bd, 3, none⟩ (.int .i64 (-1))).setCell ⟨bd, 4, none⟩ (.bool true))) :=
        hr2.post ((((Alt.ofBelow HB1.out : Alt P w w1).trans hA (fun k hk _ => HPP.out k hk)).trans (setCell_alt wr bd 3 (.int .i64 (-1))) (fun k hk _ => by rw [hk]; exact HPP.out _ (.inl rfl))).trans (setCell_alt _ bd 4 (.bool true)) (fun k hk _ => by rw [hk]; exact HPP.out _ (.inl rfl))) (fun k hk => .inl (HPP.out k (hD k hk)))
      clear hr1 hr2 hr hok hA hD
      go_wp2_with fail
      go_end0
      exact ⟨rfl, HP.out⟩
end Go.Proofs.Ytkfjbpcngmipnaa.Vm
