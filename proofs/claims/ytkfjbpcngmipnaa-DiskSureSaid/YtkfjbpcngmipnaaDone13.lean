/- What is done to the program's disk, operation by operation. -/
import Derived.Test.YtkfjbpcngmipnaaTold13
import Derived.Test.YtkfjbpcngmipnaaDkCrash
namespace Go.Proofs.Ytkfjbpcngmipnaa.Vm
open Go Go.RowKit
set_option maxRecDepth 100000

theorem PrgD.at {w : World} {P : Nat → Prop} {bd : Nat} {d : DiskS} (h : PrgD w P bd d) : P bd ∧ bd < w.heap.size := by
  obtain ⟨mb, g, fu, h, hP, hl⟩ := h
  exact ⟨hP bd (.inl rfl), hl bd (hP bd (.inl rfl))⟩
set_option maxHeartbeats 4000000 in
theorem done13_any (bd B : Nat) (d : DiskS) (P : Nat → Prop) (x : OpS) (ov : OpV) (w : World) (h : PrgD w P bd d) (hd : OkD d) (hF : d.F.length ≤ 900000) (hx : OpIn w B x ov) (hB : ∀ k, P k → B ≤ k) :
    Calls Try.prog 10 #[.pointer (some ⟨bd, 0, none⟩), .agg #[.int .i64 x.act, .string x.A, .string x.B, .slice ov.da ov.dn ov.dc, .int .i64 x.n, .slice ov.ka ov.kn ov.kc]] w fun e w' => e = .returned (.int .i64 (doS d x).1) ∧ PrgPost w P bd (doS d x).2 w' := by
  obtain ⟨w1, hw1⟩ : ∃ w1, w1 = w.alloc (.cells #[.int .i64 x.act, .string x.A, .string x.B, .slice ov.da ov.dn ov.dc, .int .i64 x.n, .slice ov.ka ov.kn ov.kc] 36) := ⟨_, rfl⟩
  have hb1 : Below w.heap.size w w1 := by rw [hw1]; exact (Below.refl _ _).alloc (Nat.le_refl _) _
  have hA1 : Alt P w w1 := Alt.ofBelow hb1
  obtain ⟨hPbd, hbd⟩ := h.at
  have hBw : B ≤ w.heap.size := Nat.le_trans (hB bd hPbd) (Nat.le_of_lt hbd)
  have hx1 := hx.below (hb1.mono hBw)
  have h1 : PrgD w1 P bd d := h.alt (S := fun _ => False) (Alt.ofBelow hb1) (fun _ _ h => h)
  have x0 : w1.cell? ⟨w.heap.size, 0, none⟩ = some (.int .i64 x.act) := by rw [hw1]; exact six_cell _ _ _ _ _ _ _ _ rfl
  have x1 : w1.cell? ⟨w.heap.size, 1, none⟩ = some (.string x.A) := by rw [hw1]; exact six_cell _ _ _ _ _ _ _ _ rfl
  have x2 : w1.cell? ⟨w.heap.size, 2, none⟩ = some (.string x.B) := by rw [hw1]; exact six_cell _ _ _ _ _ _ _ _ rfl
  have x3 : w1.cell? ⟨w.heap.size, 3, none⟩ = some (.slice ov.da ov.dn ov.dc) := by rw [hw1]; exact six_cell _ _ _ _ _ _ _ _ rfl
  have x4 : w1.cell? ⟨w.heap.size, 4, none⟩ = some (.int .i64 x.n) := by rw [hw1]; exact six_cell _ _ _ _ _ _ _ _ rfl
  have x5 : w1.cell? ⟨w.heap.size, 5, none⟩ = some (.slice ov.ka ov.kn ov.kc) := by rw [hw1]; exact six_cell _ _ _ _ _ _ _ _ rfl
  have HC0 := Lib.hid (pAppend13_any bd d P x.A ov.da ov.dn ov.dc x.data w1 h1 hd hF hx.lA (hx1.data.mono (Nat.le_trans hBw hb1.size)) (fun b o e hn he => by have := hx1.data.off13 b o e hn; have := hB bd hPbd; omega))
  have HC1 := Lib.hid (pSync13_any bd d P x.A w1 h1 hd hF hx.lA)
  have HC2 := Lib.hid (pRename13_any bd d P x.A x.B w1 h1 hd hF hx.lA hx.lB)
  have HC3 := Lib.hid (pDelete13_any bd d P x.A w1 h1 hd hF hx.lA)
  have HC4 := Lib.hid (pRoom13_any bd d P x.n w1 h1)
  have HC5 := Lib.hid (pFuse13_any bd d P x.n w1 h1 hx.wn.1)
  have HC6 := Lib.hid (pCrash13_any bd d P ov.ka ov.kn ov.kc x.kept w1 h1 hd hF (hx1.kept.mono (Nat.le_trans hBw hb1.size)) hx.wk (fun b o e hn hb => by have := hx1.kept.off13 b o e hn; have := hB b hb; omega))
  have HPB : Hid (∀ d' w', PrgPost w1 P bd d' w' → PrgPost w P bd d' w') := fun d' w' hp => hp.behind hA1 (fun k hk => .inl hk)
  have HW1 := Lib.hid hw1
  clear hw1 hb1 hA1 hx1 hx h1 h hd hF hB hBw hbd
  by_cases h0 : x.act = 0
  · have HD : Hid (doS d x = appendS d x.A x.data) := by unfold Hid doS; rw [if_pos h0]
    have b0 : (x.act == 0) = true := by simpa using h0
    clear h0
    generalize x.act = act at *
    go_enter Try.func10, Try.ntmps10
    go_upto_region 1 with fail
    rw [← HW1.out]
    go_wp2_with fail
    refine HC0.out.mono ?_
    rintro e w2 ⟨rfl, hp2⟩
    have HP2 := Lib.hid (HPB.out _ _ hp2)
    clear hp2
    go_wp2_with fail
    go_ret
    rw [HD.out]
    exact ⟨rfl, HP2.out⟩
  · skip
    by_cases h1 : x.act = 1
    · have HD : Hid (doS d x = syncS d x.A) := by unfold Hid doS; rw [if_neg h0, if_pos h1]
      have b0 : (x.act == 0) = false := by simpa using h0
      have b1 : (x.act == 1) = true := by simpa using h1
      clear h0 h1
      generalize x.act = act at *
      go_enter Try.func10, Try.ntmps10
      go_upto_region 1 with fail
      rw [← HW1.out]
      go_wp2_with fail
      refine HC1.out.mono ?_
      rintro e w2 ⟨rfl, hp2⟩
      have HP2 := Lib.hid (HPB.out _ _ hp2)
      clear hp2
      go_wp2_with fail
      go_ret
      rw [HD.out]
      exact ⟨rfl, HP2.out⟩
    · skip
      by_cases h2 : x.act = 2
      · have HD : Hid (doS d x = renameS d x.A x.B) := by unfold Hid doS; rw [if_neg h0, if_neg h1, if_pos h2]
        have b0 : (x.act == 0) = false := by simpa using h0
        have b1 : (x.act == 1) = false := by simpa using h1
        have b2 : (x.act == 2) = true := by simpa using h2
        clear h0 h1 h2
        generalize x.act = act at *
        go_enter Try.func10, Try.ntmps10
        go_upto_region 1 with fail
        rw [← HW1.out]
        go_wp2_with fail
        refine HC2.out.mono ?_
        rintro e w2 ⟨rfl, hp2⟩
        have HP2 := Lib.hid (HPB.out _ _ hp2)
        clear hp2
        go_wp2_with fail
        go_ret
        rw [HD.out]
        exact ⟨rfl, HP2.out⟩
      · skip
        by_cases h3 : x.act = 3
        · have HD : Hid (doS d x = deleteS d x.A) := by unfold Hid doS; rw [if_neg h0, if_neg h1, if_neg h2, if_pos h3]
          have b0 : (x.act == 0) = false := by simpa using h0
          have b1 : (x.act == 1) = false := by simpa using h1
          have b2 : (x.act == 2) = false := by simpa using h2
          have b3 : (x.act == 3) = true := by simpa using h3
          clear h0 h1 h2 h3
          generalize x.act = act at *
          go_enter Try.func10, Try.ntmps10
          go_upto_region 1 with fail
          rw [← HW1.out]
          go_wp2_with fail
          refine HC3.out.mono ?_
          rintro e w2 ⟨rfl, hp2⟩
          have HP2 := Lib.hid (HPB.out _ _ hp2)
          clear hp2
          go_wp2_with fail
          go_ret
          rw [HD.out]
          exact ⟨rfl, HP2.out⟩
        · skip
          by_cases h4 : x.act = 4
          · have HD : Hid (doS d x = roomS d x.n) := by unfold Hid doS; rw [if_neg h0, if_neg h1, if_neg h2, if_neg h3, if_pos h4]
            have b0 : (x.act == 0) = false := by simpa using h0
            have b1 : (x.act == 1) = false := by simpa using h1
            have b2 : (x.act == 2) = false := by simpa using h2
            have b3 : (x.act == 3) = false := by simpa using h3
            have b4 : (x.act == 4) = true := by simpa using h4
            clear h0 h1 h2 h3 h4
            generalize x.act = act at *
            go_enter Try.func10, Try.ntmps10
            go_upto_region 1 with fail
            rw [← HW1.out]
            go_wp2_with fail
            refine HC4.out.mono ?_
            rintro e w2 ⟨rfl, hp2⟩
            have HP2 := Lib.hid (HPB.out _ _ hp2)
            clear hp2
            go_wp2_with fail
            go_ret
            rw [HD.out]
            exact ⟨rfl, HP2.out⟩
          · skip
            by_cases h5 : x.act = 5
            · have HD : Hid (doS d x = (0, fuseS d x.n)) := by unfold Hid doS; rw [if_neg h0, if_neg h1, if_neg h2, if_neg h3, if_neg h4, if_pos h5]
              have b0 : (x.act == 0) = false := by simpa using h0
              have b1 : (x.act == 1) = false := by simpa using h1
              have b2 : (x.act == 2) = false := by simpa using h2
              have b3 : (x.act == 3) = false := by simpa using h3
              have b4 : (x.act == 4) = false := by simpa using h4
              have b5 : (x.act == 5) = true := by simpa using h5
              clear h0 h1 h2 h3 h4 h5
              generalize x.act = act at *
              go_enter Try.func10, Try.ntmps10
              go_upto_region 1 with fail
              rw [← HW1.out]
              go_wp2_with fail
              refine HC5.out.mono ?_
              rintro e w2 ⟨rfl, hp2⟩
              have HP2 := Lib.hid (HPB.out _ _ hp2)
              clear hp2
              go_wp2_with fail
              go_ret
              rw [HD.out]
              exact ⟨rfl, HP2.out⟩
            · skip
              have HD : Hid (doS d x = (0, crashS d x.kept)) := by unfold Hid doS; rw [if_neg h0, if_neg h1, if_neg h2, if_neg h3, if_neg h4, if_neg h5]
              have b0 : (x.act == 0) = false := by simpa using h0
              have b1 : (x.act == 1) = false := by simpa using h1
              have b2 : (x.act == 2) = false := by simpa using h2
              have b3 : (x.act == 3) = false := by simpa using h3
              have b4 : (x.act == 4) = false := by simpa using h4
              have b5 : (x.act == 5) = false := by simpa using h5
              clear h0 h1 h2 h3 h4 h5
              generalize x.act = act at *
              go_enter Try.func10, Try.ntmps10
              go_upto_region 1 with fail
              rw [← HW1.out]
              go_wp2_with fail
              refine HC6.out.mono ?_
              rintro e w2 ⟨rfl, hp2⟩
              have HP2 := Lib.hid (HPB.out _ _ hp2)
              clear hp2
              go_wp2_with fail
              go_ret
              rw [HD.out]
              exact ⟨rfl, HP2.out⟩
end Go.Proofs.Ytkfjbpcngmipnaa.Vm
