/- What is done to the document's disk, operation by operation. -/
import Derived.Test.YtkfjbpcngmipnaaRefDiskF
import Derived.Test.YtkfjbpcngmipnaaRefDiskG
namespace Go.Proofs.Ytkfjbpcngmipnaa.Vm
open Go Go.RowKit
set_option maxRecDepth 100000

/-- An operation as it is handed over. -/
structure OpV where
  da : Option Addr
  dn : Nat
  dc : Nat
  ka : Option Addr
  kn : Nat
  kc : Nat
def opL (x : OpS) (v : OpV) : List Value := [.int .i64 x.act, .string x.A, .string x.B, .slice v.da v.dn v.dc, .int .i64 x.n, .slice v.ka v.kn v.kc]
/-- Its bytes and numbers lie below B. -/
structure OpIn (w : World) (B : Nat) (x : OpS) (v : OpV) : Prop where
  data : Row .u8 w B v.da v.dn v.dc x.data
  kept : RowZ .i64 w B v.ka v.kn v.kc x.kept
  lA : x.A.size ≤ maxLen
  lB : x.B.size ≤ maxLen
  wn : -9223372036854775808 ≤ x.n ∧ x.n ≤ 9223372036854775807
  wk : ∀ k ∈ x.kept, k ≤ 9223372036854775807
theorem OpIn.below {w w' : World} {B : Nat} {x : OpS} {v : OpV} (h : OpIn w B x v) (hb : Below B w w') : OpIn w' B x v := ⟨h.data.below hb, h.kept.below hb, h.lA, h.lB, h.wn, h.wk⟩
theorem six_cell (w : World) (a b c d e f : Value) (t : TypeId) {i : Nat} {y : Value} (hj : [a, b, c, d, e, f][i]? = some y) : (w.alloc (.cells #[a, b, c, d, e, f] t)).cell? ⟨w.heap.size, i, none⟩ = some y := by
  have hjn : i < 6 := by simpa using (List.getElem?_eq_some_iff.1 hj).1
  match i, hjn with
  | 0, _ => simpa using hj
  | 1, _ => simpa using hj
  | 2, _ => simpa using hj
  | 3, _ => simpa using hj
  | 4, _ => simpa using hj
  | 5, _ => simpa using hj

set_option maxHeartbeats 4000000 in
theorem told13_any (bd B : Nat) (d : DiskS) (O : Nat → Prop) (x : OpS) (ov : OpV) (w : World) (h : RefD w O bd d) (hd : OkD d) (hF : d.F.length ≤ 900000) (hx : OpIn w B x ov) (hB : ∀ k, O k → B ≤ k) :
    Calls Try.prog 11 #[.pointer (some ⟨bd, 0, none⟩), .agg #[.int .i64 x.act, .string x.A, .string x.B, .slice ov.da ov.dn ov.dc, .int .i64 x.n, .slice ov.ka ov.kn ov.kc]] w fun e w' => e = .returned (.int .i64 (doS d x).1) ∧ RefPost w O bd (doS d x).2 w' := by
  obtain ⟨v, l, h⟩ := h
  obtain ⟨w1, hw1⟩ : ∃ w1, w1 = w.alloc (.cells #[.int .i64 x.act, .string x.A, .string x.B, .slice ov.da ov.dn ov.dc, .int .i64 x.n, .slice ov.ka ov.kn ov.kc] 36) := ⟨_, rfl⟩
  have hb1 : Below w.heap.size w w1 := by rw [hw1]; exact (Below.refl _ _).alloc (Nat.le_refl _) _
  have hA1 : Alt O w w1 := Alt.ofBelow hb1
  have hbd := h.lt bd h.obd
  have hBw : B ≤ w.heap.size := Nat.le_trans (hB bd h.obd) (Nat.le_of_lt hbd)
  have hx1 := hx.below (hb1.mono hBw)
  have h1 : RefAt w1 O bd v l d := h.alt (S := fun _ => False) (Alt.ofBelow hb1) (fun _ _ h => h)
  have x0 : w1.cell? ⟨w.heap.size, 0, none⟩ = some (.int .i64 x.act) := by rw [hw1]; exact six_cell _ _ _ _ _ _ _ _ rfl
  have x1 : w1.cell? ⟨w.heap.size, 1, none⟩ = some (.string x.A) := by rw [hw1]; exact six_cell _ _ _ _ _ _ _ _ rfl
  have x2 : w1.cell? ⟨w.heap.size, 2, none⟩ = some (.string x.B) := by rw [hw1]; exact six_cell _ _ _ _ _ _ _ _ rfl
  have x3 : w1.cell? ⟨w.heap.size, 3, none⟩ = some (.slice ov.da ov.dn ov.dc) := by rw [hw1]; exact six_cell _ _ _ _ _ _ _ _ rfl
  have x4 : w1.cell? ⟨w.heap.size, 4, none⟩ = some (.int .i64 x.n) := by rw [hw1]; exact six_cell _ _ _ _ _ _ _ _ rfl
  have x5 : w1.cell? ⟨w.heap.size, 5, none⟩ = some (.slice ov.ka ov.kn ov.kc) := by rw [hw1]; exact six_cell _ _ _ _ _ _ _ _ rfl
  have HC0 := Lib.hid (rAppend13_any bd v l d O x.A ov.da ov.dn ov.dc B x.data w1 h1 hd hF hx.lA hx1.data (hB bd h.obd))
  have HC1 := Lib.hid (rSync13_any bd v l d O x.A w1 h1 hd (Nat.le_trans hF (by omega)) hx.lA)
  have HC2 := Lib.hid (rRename13_any bd v l d O x.A x.B w1 h1 hd hF hx.lA hx.lB)
  have HC3 := Lib.hid (rDelete13_any bd v l d O x.A w1 h1 hd (Nat.le_trans hF (by omega)) hx.lA)
  have HC4 := Lib.hid (rRoom13_any bd v l d O x.n w1 h1)
  have HC5 := Lib.hid (rFuse13_any bd v l d O x.n w1 h1)
  have HC6 := Lib.hid (rCrash13_any bd v l d O ov.ka ov.kn ov.kc B x.kept w1 h1 hd (Nat.le_trans hF (by omega)) hx1.kept hB)
  have HPB : Hid (∀ d' w', RefPost w1 O bd d' w' → RefPost w O bd d' w') := fun d' w' hp => hp.behind hA1 (fun k hk => .inl hk)
  have HW1 := Lib.hid hw1
  clear hw1 hb1 hA1 hx1 hx h1 h hd hF hB hBw hbd
  by_cases h0 : x.act = 0
  · have HD : Hid (doS d x = appendS d x.A x.data) := by unfold Hid doS; rw [if_pos h0]
    have b0 : (x.act == 0) = true := by simpa using h0
    clear h0
    generalize x.act = act at *
    go_enter Try.func11, Try.ntmps11
    go_upto_region 1 with fail
    rw [← HW1.out]
    go_wp2_with fail
    refine HC0.out.mono ?_
    rintro e w2 ⟨rfl, hp2⟩
    have HP2 := Lib.hid (HPB.out _ _ hp2)
    clear hp2
    go_wp2_with fail
    go_ret
    rw [HD.out]
    exact ⟨rfl, HP2.out⟩
  · skip
    by_cases h1 : x.act = 1
    · have HD : Hid (doS d x = syncS d x.A) := by unfold Hid doS; rw [if_neg h0, if_pos h1]
      have b0 : (x.act == 0) = false := by simpa using h0
      have b1 : (x.act == 1) = true := by simpa using h1
      clear h0 h1
      generalize x.act = act at *
      go_enter Try.func11, Try.ntmps11
      go_upto_region 1 with fail
      rw [← HW1.out]
      go_wp2_with fail
      refine HC1.out.mono ?_
      rintro e w2 ⟨rfl, hp2⟩
      have HP2 := Lib.hid (HPB.out _ _ hp2)
      clear hp2
      go_wp2_with fail
      go_ret
      rw [HD.out]
      exact ⟨rfl, HP2.out⟩
    · skip
      by_cases h2 : x.act = 2
      · have HD : Hid (doS d x = renameS d x.A x.B) := by unfold Hid doS; rw [if_neg h0, if_neg h1, if_pos h2]
        have b0 : (x.act == 0) = false := by simpa using h0
        have b1 : (x.act == 1) = false := by simpa using h1
        have b2 : (x.act == 2) = true := by simpa using h2
        clear h0 h1 h2
        generalize x.act = act at *
        go_enter Try.func11, Try.ntmps11
        go_upto_region 1 with fail
        rw [← HW1.out]
        go_wp2_with fail
        refine HC2.out.mono ?_
        rintro e w2 ⟨rfl, hp2⟩
        have HP2 := Lib.hid (HPB.out _ _ hp2)
        clear hp2
        go_wp2_with fail
        go_ret
        rw [HD.out]
        exact ⟨rfl, HP2.out⟩
      · skip
        by_cases h3 : x.act = 3
        · have HD : Hid (doS d x = deleteS d x.A) := by unfold Hid doS; rw [if_neg h0, if_neg h1, if_neg h2, if_pos h3]
          have b0 : (x.act == 0) = false := by simpa using h0
          have b1 : (x.act == 1) = false := by simpa using h1
          have b2 : (x.act == 2) = false := by simpa using h2
          have b3 : (x.act == 3) = true := by simpa using h3
          clear h0 h1 h2 h3
          generalize x.act = act at *
          go_enter Try.func11, Try.ntmps11
          go_upto_region 1 with fail
          rw [← HW1.out]
          go_wp2_with fail
          refine HC3.out.mono ?_
          rintro e w2 ⟨rfl, hp2⟩
          have HP2 := Lib.hid (HPB.out _ _ hp2)
          clear hp2
          go_wp2_with fail
          go_ret
          rw [HD.out]
          exact ⟨rfl, HP2.out⟩
        · skip
          by_cases h4 : x.act = 4
          · have HD : Hid (doS d x = roomS d x.n) := by unfold Hid doS; rw [if_neg h0, if_neg h1, if_neg h2, if_neg h3, if_pos h4]
            have b0 : (x.act == 0) = false := by simpa using h0
            have b1 : (x.act == 1) = false := by simpa using h1
            have b2 : (x.act == 2) = false := by simpa using h2
            have b3 : (x.act == 3) = false := by simpa using h3
            have b4 : (x.act == 4) = true := by simpa using h4
            clear h0 h1 h2 h3 h4
            generalize x.act = act at *
            go_enter Try.func11, Try.ntmps11
            go_upto_region 1 with fail
            rw [← HW1.out]
            go_wp2_with fail
            refine HC4.out.mono ?_
            rintro e w2 ⟨rfl, hp2⟩
            have HP2 := Lib.hid (HPB.out _ _ hp2)
            clear hp2
            go_wp2_with fail
            go_ret
            rw [HD.out]
            exact ⟨rfl, HP2.out⟩
          · skip
            by_cases h5 : x.act = 5
            · have HD : Hid (doS d x = (0, fuseS d x.n)) := by unfold Hid doS; rw [if_neg h0, if_neg h1, if_neg h2, if_neg h3, if_neg h4, if_pos h5]
              have b0 : (x.act == 0) = false := by simpa using h0
              have b1 : (x.act == 1) = false := by simpa using h1
              have b2 : (x.act == 2) = false := by simpa using h2
              have b3 : (x.act == 3) = false := by simpa using h3
              have b4 : (x.act == 4) = false := by simpa using h4
              have b5 : (x.act == 5) = true := by simpa using h5
              clear h0 h1 h2 h3 h4 h5
              generalize x.act = act at *
              go_enter Try.func11, Try.ntmps11
              go_upto_region 1 with fail
              rw [← HW1.out]
              go_wp2_with fail
              refine HC5.out.mono ?_
              rintro e w2 ⟨rfl, hp2⟩
              have HP2 := Lib.hid (HPB.out _ _ hp2)
              clear hp2
              go_wp2_with fail
              go_ret
              rw [HD.out]
              exact ⟨rfl, HP2.out⟩
            · skip
              have HD : Hid (doS d x = (0, crashS d x.kept)) := by unfold Hid doS; rw [if_neg h0, if_neg h1, if_neg h2, if_neg h3, if_neg h4, if_neg h5]
              have b0 : (x.act == 0) = false := by simpa using h0
              have b1 : (x.act == 1) = false := by simpa using h1
              have b2 : (x.act == 2) = false := by simpa using h2
              have b3 : (x.act == 3) = false := by simpa using h3
              have b4 : (x.act == 4) = false := by simpa using h4
              have b5 : (x.act == 5) = false := by simpa using h5
              clear h0 h1 h2 h3 h4 h5
              generalize x.act = act at *
              go_enter Try.func11, Try.ntmps11
              go_upto_region 1 with fail
              rw [← HW1.out]
              go_wp2_with fail
              refine HC6.out.mono ?_
              rintro e w2 ⟨rfl, hp2⟩
              have HP2 := Lib.hid (HPB.out _ _ hp2)
              clear hp2
              go_wp2_with fail
              go_ret
              rw [HD.out]
              exact ⟨rfl, HP2.out⟩
end Go.Proofs.Ytkfjbpcngmipnaa.Vm
