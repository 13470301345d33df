/- The contract of gate.Clash. Written by wip/tools/gen_clashes.py: change that. -/
import Derived.Test.YtccdblbnphmpjaaClashWords
import Derived.Test.YtccdblbnphmpjaaGateTellsWalk
import Derived.StillTailTactics
namespace Go.Proofs.Ytccdblbnphmpjaa.Vm
open Go Go.RowKit Go.Maps

set_option maxRecDepth 100000 in
set_option maxHeartbeats 4000000 in
theorem clash_le (a1 a2 : Option Addr) (n1 c1 n2 c2 B : Nat) (fr to : List Int) (w : World) (h1 : RowZ .i64 w B a1 n1 c1 fr) (h2 : RowZ .i64 w B a2 n2 c2 to) (hB : B ≤ w.heap.size) (hn1 : n1 ≤ 100000) (hn2 : n2 ≤ 100000) (y1 : WfZ fr) (y2 : WfZ to) (hlt : ¬ n2 < n1) :
    Calls Try.prog 10 #[.slice a1 n1 c1, .slice a2 n2 c2] w fun e w' => ∃ x y, e = .returned (.tuple #[.int .i64 x, .int .i64 y]) ∧ ClashIs fr to n1 x y ∧ Below w.heap.size w w' := by
  have hmi := make_mapI n1 w
  have hmv := make_mapV n1 (w.alloc (.map #[] 0))
  have hz1 : (w.alloc (.map #[] 0)).heap.size = w.heap.size + 1 := by simp
  have hm7 := mapIn_new w (f := arrF to n1 n1) (fun _ => by simp [arrF, leastG_end])
  have hm8 := movIn_new (w.alloc (.map #[] 0)) (f := movF fr to n1 n1) (fun _ _ => by simp [movF, leastG_end])
  have hb1 : Below w.heap.size w (w.alloc (.map #[] 0)) := (Below.refl _ _).alloc (Nat.le_refl _) _
  have hb2 : Below (w.heap.size + 1) (w.alloc (.map #[] 0)) ((w.alloc (.map #[] 0)).alloc (.map #[] 0)) := (Below.refl _ _).alloc (by omega) _
  have HM7 := Lib.hid (hm7.keep (hb2.block _ (Nat.lt_succ_self _)))
  rw [hz1] at hm8 hmv
  have HM8 := Lib.hid hm8
  have HB0 := Lib.hid (hb1.trans (hb2.mono (by omega)))
  have hl1 := h1.1
  have hl2 := h2.1
  have hk1 := h1.2.1
  have hk2 := h2.2.1
  have HC1 := Lib.hid (fun h => h1.cells h)
  have HC2 := Lib.hid (fun h => h2.cells h)
  have HY1 := Lib.hid y1
  have HY2 := Lib.hid y2
  clear h1 h2 y1 y2 hm7 hm8 hb1 hb2 hz1
  go_enter Try.func10, Try.ntmps10
  go_wp2_with fail
  clear hmi hmv
  go_loopw [9, 10, 11] (fun v9 v10 v11 wr => ∃ (m : Nat) (i x y : Int), m ≤ n1 ∧ v9 = .int .i64 x ∧ v10 = .int .i64 y ∧ v11 = .int .i64 i ∧ i = (m : Int) - 1 ∧ Hid (∃ k, k ≤ n1 - m ∧ MapIn wr w.heap.size k (arrF to m n1)) ∧ Hid (∃ k, k ≤ n1 - m ∧ MovIn wr (w.heap.size + 1) k (movF fr to m n1)) ∧ Below w.heap.size w wr ∧ Hid (ClashFrom fr to m n1 x y)) (fun _ _ i _ => (intOf i + 1).toNat)
  case atStart => exact ⟨n1, _, _, _, Nat.le_refl _, rfl, rfl, rfl, rfl, ⟨0, by omega, HM7.out⟩, ⟨0, by omega, HM8.out⟩, HB0.out, ClashFrom.start _ _ _⟩
  case round =>
    clear HM7 HM8
    obtain ⟨m, i, x, y, hm, rfl, rfl, rfl, hi, HM7, HM8, hbel, HCF⟩ := hrel
    cases m with
    | zero =>
      obtain rfl : i = -1 := by omega
      clear hi
      have HD := Lib.hid HCF.out.done
      go_wp2_with fail
      go_ret2
      exact ⟨_, _, rfl, HD.out, hbel⟩
    | succ r =>
      obtain rfl : i = (r : Int) := by omega
      clear hi
      have hr : r < n1 := by omega
      have hr1 : r < n1 := by omega
      have hr2 : r < n2 := by omega
      obtain ⟨b, off, rfl, hb, hcs⟩ := HC1.out (by omega)
      obtain ⟨b', off', rfl, hb', hcs'⟩ := HC2.out (by omega)
      have HCFW : Hid (∀ V, Below w.heap.size w V → V.cell? ⟨b, off + r, none⟩ = some (.int .i64 (fr.getD r 0))) := fun V hV => (hV.cell (p := ⟨b, off + r, none⟩) (show b < w.heap.size by omega)).trans (hcs r (by omega))
      have HCTW : Hid (∀ V, Below w.heap.size w V → V.cell? ⟨b', off' + r, none⟩ = some (.int .i64 (to.getD r 0))) := fun V hV => (hV.cell (p := ⟨b', off' + r, none⟩) (show b' < w.heap.size by omega)).trans (hcs' r (by omega))
      have hcf := HCFW.out wr hbel
      have hct := HCTW.out wr hbel
      have hwf := HY1.out.at r (by omega)
      have hwt := HY2.out.at r (by omega)
      obtain ⟨k7, hk7, HM7⟩ := HM7.out
      obtain ⟨k8, hk8, HM8⟩ := HM8.out
      have HM8 := Lib.hid HM8
      have hm8 := HM8.out.lt
      have hm7 := HM7.lt
      have L7 := HM7.look hwt
      have L8 : ∀ d, (Instr.lookup 43 (.map (some (w.heap.size + 1))) (.agg #[.int .i64 (to.getD r 0), .int .i64 (fr.getD r 0)]) true).run Try.prog (wr.drewN d) = .ok (.tuple #[.int .i64 ((movF fr to (r + 1) n1 (to.getD r 0) (fr.getD r 0)).getD 0), .bool (movF fr to (r + 1) n1 (to.getD r 0) (fr.getD r 0)).isSome]) (wr.drewN d) :=
        fun d => MovIn.look (w := wr.drewN d) (HM8.out.keep rfl) hwt hwf
      have HP7 : Hid (∀ d, ∃ w1, (Instr.mapUpdate 32 (.map (some w.heap.size)) (.int .i64 (to.getD r 0)) (.int .i64 (r : Int))).run Try.prog (wr.drewN d) = .ok () w1 ∧ MapIn w1 w.heap.size (k7 + 1) (arrF to r n1) ∧ (wr.drewN d).grownBy w1 (some w.heap.size)) := fun d => by
        obtain ⟨w1, h1, h2, h3⟩ := MapIn.put (w := wr.drewN d) (x := (r : Int)) (HM7.keep rfl) (by omega) hwt (WalkArith.wf_i64 (by omega))
        exact ⟨w1, h1, h2.to (arrF_step hr), h3⟩
      have HP8 : Hid (∀ V, MovIn V (w.heap.size + 1) k8 (movF fr to (r + 1) n1) → ∃ w1, (Instr.mapUpdate 43 (.map (some (w.heap.size + 1))) (.agg #[.int .i64 (fr.getD r 0), .int .i64 (to.getD r 0)]) (.int .i64 (r : Int))).run Try.prog V = .ok () w1 ∧ MovIn w1 (w.heap.size + 1) (k8 + 1) (movF fr to r n1) ∧ V.grownBy w1 (some (w.heap.size + 1))) := fun V hV => by
        obtain ⟨w1, h1, h2, h3⟩ := hV.put (z := (r : Int)) (by omega) hwf hwt (WalkArith.wf_i64 (by omega))
        exact ⟨w1, h1, h2.to (movF_step hr), h3⟩
      clear hcs hcs' hwf hwt HM7
      cases hA : arrF to (r + 1) n1 (to.getD r 0) with
      | none =>
        cases hV : movF fr to (r + 1) n1 (to.getD r 0) (fr.getD r 0) with
        | none =>
          simp only [hA, Option.getD_none, Option.isSome_none] at L7
          simp only [hV, Option.getD_none, Option.isSome_none] at L8
          have HC := Lib.hid (clash_nn HCF.out hA hV)
          clear hA hV
          generalize to.getD r 0 = ti at hct HCTW L7 L8 HP7 HP8
          generalize fr.getD r 0 = fi at hcf HCFW L8 HP8
          go_wp2_with fail
          go_quiet (fail)
          obtain ⟨w1, hrun1, hA1, hg1⟩ := HP7.out nq
          have hs1 := hg1.size
          have hB1 := (below_drewN hbel nq).grown hg1 hbel.size (fun j hj => by injection hj with hj; exact Nat.le_of_eq hj)
          have hcf1 := HCFW.out w1 hB1
          have hct1 := HCTW.out w1 hB1
          have hM1 := HM8.out.keep (hg1.block (w.heap.size + 1) hm8 (by intro e; injection e with e; omega))
          obtain ⟨w2, hrun2, hA2, hg2⟩ := HP8.out w1.drew (hM1.keep rfl)
          have HB2 := Lib.hid ((Below.drew hB1).grown hg2 (Nat.le_trans hbel.size hs1) (fun j hj => by injection hj with hj; omega))
          have HA2 := Lib.hid (hA1.keep ((hg2.block w.heap.size (Nat.lt_of_lt_of_le hm7 hs1) (by intro e; injection e with e; omega))))
          have HM2 := Lib.hid hA2
          clear hA1 hM1 hA2 hg1 hg2 hB1 HP7 HP8 L7 L8
          go_wp2_with fail
          go_still_tail 11, (by kernel_rfl)
          change wpList _ _ _ _ _ w1.drew
          go_wp2_with fail
          go_roundw
          case rel => exact ⟨r, _, _, _, by omega, rfl, rfl, rfl, rfl, ⟨_, by omega, HA2.out⟩, ⟨_, by omega, HM2.out⟩, HB2.out, HC.out⟩
          case measure => simp [intOf]
        | some x2 =>
          obtain ⟨j2, rfl, _, hj2, _⟩ := movF_some hV
          simp only [hA, Option.getD_none, Option.isSome_none] at L7
          simp only [hV, Option.getD_some, Option.isSome_some] at L8
          have HC := Lib.hid (clash_ns hA hV)
          clear hA hV
          generalize to.getD r 0 = ti at hct HCTW L7 L8 HP7 HP8
          generalize fr.getD r 0 = fi at hcf HCFW L8 HP8
          go_wp2_with fail
          go_quiet (fail)
          obtain ⟨w1, hrun1, hA1, hg1⟩ := HP7.out nq
          have hs1 := hg1.size
          have hB1 := (below_drewN hbel nq).grown hg1 hbel.size (fun j hj => by injection hj with hj; exact Nat.le_of_eq hj)
          have hcf1 := HCFW.out w1 hB1
          have hct1 := HCTW.out w1 hB1
          have hM1 := HM8.out.keep (hg1.block (w.heap.size + 1) hm8 (by intro e; injection e with e; omega))
          obtain ⟨w2, hrun2, hA2, hg2⟩ := HP8.out w1.drew (hM1.keep rfl)
          have HB2 := Lib.hid ((Below.drew hB1).grown hg2 (Nat.le_trans hbel.size hs1) (fun j hj => by injection hj with hj; omega))
          have HA2 := Lib.hid (hA1.keep ((hg2.block w.heap.size (Nat.lt_of_lt_of_le hm7 hs1) (by intro e; injection e with e; omega))))
          have HM2 := Lib.hid hA2
          clear hA1 hM1 hA2 hg1 hg2 hB1 HP7 HP8 L7 L8
          go_wp2_with fail
          go_still_tail 11, (by kernel_rfl)
          change wpList _ _ _ _ _ w1.drew
          go_wp2_with fail
          go_roundw
          case rel => exact ⟨r, _, _, _, by omega, rfl, rfl, rfl, rfl, ⟨_, by omega, HA2.out⟩, ⟨_, by omega, HM2.out⟩, HB2.out, HC.out⟩
          case measure => simp [intOf]
      | some x1 =>
        cases hV : movF fr to (r + 1) n1 (to.getD r 0) (fr.getD r 0) with
        | none =>
          obtain ⟨j1, rfl, _, hj1, _⟩ := arrF_some hA
          simp only [hA, Option.getD_some, Option.isSome_some] at L7
          simp only [hV, Option.getD_none, Option.isSome_none] at L8
          have HC := Lib.hid (clash_sn hA hV)
          clear hA hV
          generalize to.getD r 0 = ti at hct HCTW L7 L8 HP7 HP8
          generalize fr.getD r 0 = fi at hcf HCFW L8 HP8
          go_wp2_with fail
          go_quiet (fail)
          obtain ⟨w1, hrun1, hA1, hg1⟩ := HP7.out nq
          have hs1 := hg1.size
          have hB1 := (below_drewN hbel nq).grown hg1 hbel.size (fun j hj => by injection hj with hj; exact Nat.le_of_eq hj)
          have hcf1 := HCFW.out w1 hB1
          have hct1 := HCTW.out w1 hB1
          have hM1 := HM8.out.keep (hg1.block (w.heap.size + 1) hm8 (by intro e; injection e with e; omega))
          obtain ⟨w2, hrun2, hA2, hg2⟩ := HP8.out w1.drew (hM1.keep rfl)
          have HB2 := Lib.hid ((Below.drew hB1).grown hg2 (Nat.le_trans hbel.size hs1) (fun j hj => by injection hj with hj; omega))
          have HA2 := Lib.hid (hA1.keep ((hg2.block w.heap.size (Nat.lt_of_lt_of_le hm7 hs1) (by intro e; injection e with e; omega))))
          have HM2 := Lib.hid hA2
          clear hA1 hM1 hA2 hg1 hg2 hB1 HP7 HP8 L7 L8
          go_wp2_with fail
          go_still_tail 11, (by kernel_rfl)
          change wpList _ _ _ _ _ w1.drew
          go_wp2_with fail
          go_roundw
          case rel => exact ⟨r, _, _, _, by omega, rfl, rfl, rfl, rfl, ⟨_, by omega, HA2.out⟩, ⟨_, by omega, HM2.out⟩, HB2.out, HC.out⟩
          case measure => simp [intOf]
        | some x2 =>
          obtain ⟨j1, rfl, _, hj1, _⟩ := arrF_some hA
          obtain ⟨j2, rfl, _, hj2, _⟩ := movF_some hV
          by_cases hjj : j2 < j1
          · simp only [hA, Option.getD_some, Option.isSome_some] at L7
            simp only [hV, Option.getD_some, Option.isSome_some] at L8
            have hc := clash_ss hA hV
            rw [if_pos (by omega)] at hc
            have HC := Lib.hid hc
            clear hc
            clear hA hV
            generalize to.getD r 0 = ti at hct HCTW L7 L8 HP7 HP8
            generalize fr.getD r 0 = fi at hcf HCFW L8 HP8
            go_wp2_with fail
            go_quiet (fail)
            obtain ⟨w1, hrun1, hA1, hg1⟩ := HP7.out nq
            have hs1 := hg1.size
            have hB1 := (below_drewN hbel nq).grown hg1 hbel.size (fun j hj => by injection hj with hj; exact Nat.le_of_eq hj)
            have hcf1 := HCFW.out w1 hB1
            have hct1 := HCTW.out w1 hB1
            have hM1 := HM8.out.keep (hg1.block (w.heap.size + 1) hm8 (by intro e; injection e with e; omega))
            obtain ⟨w2, hrun2, hA2, hg2⟩ := HP8.out w1.drew (hM1.keep rfl)
            have HB2 := Lib.hid ((Below.drew hB1).grown hg2 (Nat.le_trans hbel.size hs1) (fun j hj => by injection hj with hj; omega))
            have HA2 := Lib.hid (hA1.keep ((hg2.block w.heap.size (Nat.lt_of_lt_of_le hm7 hs1) (by intro e; injection e with e; omega))))
            have HM2 := Lib.hid hA2
            clear hA1 hM1 hA2 hg1 hg2 hB1 HP7 HP8 L7 L8
            go_wp2_with fail
            go_still_tail 11, (by kernel_rfl)
            change wpList _ _ _ _ _ w1.drew
            go_wp2_with fail
            go_roundw
            case rel => exact ⟨r, _, _, _, by omega, rfl, rfl, rfl, rfl, ⟨_, by omega, HA2.out⟩, ⟨_, by omega, HM2.out⟩, HB2.out, HC.out⟩
            case measure => simp [intOf]
          · simp only [hA, Option.getD_some, Option.isSome_some] at L7
            simp only [hV, Option.getD_some, Option.isSome_some] at L8
            have hc := clash_ss hA hV
            rw [if_neg (by omega)] at hc
            have HC := Lib.hid hc
            clear hc
            clear hA hV
            generalize to.getD r 0 = ti at hct HCTW L7 L8 HP7 HP8
            generalize fr.getD r 0 = fi at hcf HCFW L8 HP8
            go_wp2_with fail
            go_quiet (fail)
            obtain ⟨w1, hrun1, hA1, hg1⟩ := HP7.out nq
            have hs1 := hg1.size
            have hB1 := (below_drewN hbel nq).grown hg1 hbel.size (fun j hj => by injection hj with hj; exact Nat.le_of_eq hj)
            have hcf1 := HCFW.out w1 hB1
            have hct1 := HCTW.out w1 hB1
            have hM1 := HM8.out.keep (hg1.block (w.heap.size + 1) hm8 (by intro e; injection e with e; omega))
            obtain ⟨w2, hrun2, hA2, hg2⟩ := HP8.out w1.drew (hM1.keep rfl)
            have HB2 := Lib.hid ((Below.drew hB1).grown hg2 (Nat.le_trans hbel.size hs1) (fun j hj => by injection hj with hj; omega))
            have HA2 := Lib.hid (hA1.keep ((hg2.block w.heap.size (Nat.lt_of_lt_of_le hm7 hs1) (by intro e; injection e with e; omega))))
            have HM2 := Lib.hid hA2
            clear hA1 hM1 hA2 hg1 hg2 hB1 HP7 HP8 L7 L8
            go_wp2_with fail
            go_still_tail 11, (by kernel_rfl)
            change wpList _ _ _ _ _ w1.drew
            go_wp2_with fail
            go_roundw
            case rel => exact ⟨r, _, _, _, by omega, rfl, rfl, rfl, rfl, ⟨_, by omega, HA2.out⟩, ⟨_, by omega, HM2.out⟩, HB2.out, HC.out⟩
            case measure => simp [intOf]

set_option maxRecDepth 100000 in
set_option maxHeartbeats 4000000 in
theorem clash_gt (a1 a2 : Option Addr) (n1 c1 n2 c2 B : Nat) (fr to : List Int) (w : World) (h1 : RowZ .i64 w B a1 n1 c1 fr) (h2 : RowZ .i64 w B a2 n2 c2 to) (hB : B ≤ w.heap.size) (hn1 : n1 ≤ 100000) (hn2 : n2 ≤ 100000) (y1 : WfZ fr) (y2 : WfZ to) (hlt : n2 < n1) :
    Calls Try.prog 10 #[.slice a1 n1 c1, .slice a2 n2 c2] w fun e w' => ∃ x y, e = .returned (.tuple #[.int .i64 x, .int .i64 y]) ∧ ClashIs fr to n2 x y ∧ Below w.heap.size w w' := by
  have hmi := make_mapI n2 w
  have hmv := make_mapV n2 (w.alloc (.map #[] 0))
  have hz1 : (w.alloc (.map #[] 0)).heap.size = w.heap.size + 1 := by simp
  have hm7 := mapIn_new w (f := arrF to n2 n2) (fun _ => by simp [arrF, leastG_end])
  have hm8 := movIn_new (w.alloc (.map #[] 0)) (f := movF fr to n2 n2) (fun _ _ => by simp [movF, leastG_end])
  have hb1 : Below w.heap.size w (w.alloc (.map #[] 0)) := (Below.refl _ _).alloc (Nat.le_refl _) _
  have hb2 : Below (w.heap.size + 1) (w.alloc (.map #[] 0)) ((w.alloc (.map #[] 0)).alloc (.map #[] 0)) := (Below.refl _ _).alloc (by omega) _
  have HM7 := Lib.hid (hm7.keep (hb2.block _ (Nat.lt_succ_self _)))
  rw [hz1] at hm8 hmv
  have HM8 := Lib.hid hm8
  have HB0 := Lib.hid (hb1.trans (hb2.mono (by omega)))
  have hl1 := h1.1
  have hl2 := h2.1
  have hk1 := h1.2.1
  have hk2 := h2.2.1
  have HC1 := Lib.hid (fun h => h1.cells h)
  have HC2 := Lib.hid (fun h => h2.cells h)
  have HY1 := Lib.hid y1
  have HY2 := Lib.hid y2
  clear h1 h2 y1 y2 hm7 hm8 hb1 hb2 hz1
  go_enter Try.func10, Try.ntmps10
  go_wp2_with fail
  clear hmi hmv
  go_loopw [9, 10, 11] (fun v9 v10 v11 wr => ∃ (m : Nat) (i x y : Int), m ≤ n2 ∧ v9 = .int .i64 x ∧ v10 = .int .i64 y ∧ v11 = .int .i64 i ∧ i = (m : Int) - 1 ∧ Hid (∃ k, k ≤ n2 - m ∧ MapIn wr w.heap.size k (arrF to m n2)) ∧ Hid (∃ k, k ≤ n2 - m ∧ MovIn wr (w.heap.size + 1) k (movF fr to m n2)) ∧ Below w.heap.size w wr ∧ Hid (ClashFrom fr to m n2 x y)) (fun _ _ i _ => (intOf i + 1).toNat)
  case atStart => exact ⟨n2, _, _, _, Nat.le_refl _, rfl, rfl, rfl, rfl, ⟨0, by omega, HM7.out⟩, ⟨0, by omega, HM8.out⟩, HB0.out, ClashFrom.start _ _ _⟩
  case round =>
    clear HM7 HM8
    obtain ⟨m, i, x, y, hm, rfl, rfl, rfl, hi, HM7, HM8, hbel, HCF⟩ := hrel
    cases m with
    | zero =>
      obtain rfl : i = -1 := by omega
      clear hi
      have HD := Lib.hid HCF.out.done
      go_wp2_with fail
      go_ret2
      exact ⟨_, _, rfl, HD.out, hbel⟩
    | succ r =>
      obtain rfl : i = (r : Int) := by omega
      clear hi
      have hr : r < n2 := by omega
      have hr1 : r < n1 := by omega
      have hr2 : r < n2 := by omega
      obtain ⟨b, off, rfl, hb, hcs⟩ := HC1.out (by omega)
      obtain ⟨b', off', rfl, hb', hcs'⟩ := HC2.out (by omega)
      have HCFW : Hid (∀ V, Below w.heap.size w V → V.cell? ⟨b, off + r, none⟩ = some (.int .i64 (fr.getD r 0))) := fun V hV => (hV.cell (p := ⟨b, off + r, none⟩) (show b < w.heap.size by omega)).trans (hcs r (by omega))
      have HCTW : Hid (∀ V, Below w.heap.size w V → V.cell? ⟨b', off' + r, none⟩ = some (.int .i64 (to.getD r 0))) := fun V hV => (hV.cell (p := ⟨b', off' + r, none⟩) (show b' < w.heap.size by omega)).trans (hcs' r (by omega))
      have hcf := HCFW.out wr hbel
      have hct := HCTW.out wr hbel
      have hwf := HY1.out.at r (by omega)
      have hwt := HY2.out.at r (by omega)
      obtain ⟨k7, hk7, HM7⟩ := HM7.out
      obtain ⟨k8, hk8, HM8⟩ := HM8.out
      have HM8 := Lib.hid HM8
      have hm8 := HM8.out.lt
      have hm7 := HM7.lt
      have L7 := HM7.look hwt
      have L8 : ∀ d, (Instr.lookup 43 (.map (some (w.heap.size + 1))) (.agg #[.int .i64 (to.getD r 0), .int .i64 (fr.getD r 0)]) true).run Try.prog (wr.drewN d) = .ok (.tuple #[.int .i64 ((movF fr to (r + 1) n2 (to.getD r 0) (fr.getD r 0)).getD 0), .bool (movF fr to (r + 1) n2 (to.getD r 0) (fr.getD r 0)).isSome]) (wr.drewN d) :=
        fun d => MovIn.look (w := wr.drewN d) (HM8.out.keep rfl) hwt hwf
      have HP7 : Hid (∀ d, ∃ w1, (Instr.mapUpdate 32 (.map (some w.heap.size)) (.int .i64 (to.getD r 0)) (.int .i64 (r : Int))).run Try.prog (wr.drewN d) = .ok () w1 ∧ MapIn w1 w.heap.size (k7 + 1) (arrF to r n2) ∧ (wr.drewN d).grownBy w1 (some w.heap.size)) := fun d => by
        obtain ⟨w1, h1, h2, h3⟩ := MapIn.put (w := wr.drewN d) (x := (r : Int)) (HM7.keep rfl) (by omega) hwt (WalkArith.wf_i64 (by omega))
        exact ⟨w1, h1, h2.to (arrF_step hr), h3⟩
      have HP8 : Hid (∀ V, MovIn V (w.heap.size + 1) k8 (movF fr to (r + 1) n2) → ∃ w1, (Instr.mapUpdate 43 (.map (some (w.heap.size + 1))) (.agg #[.int .i64 (fr.getD r 0), .int .i64 (to.getD r 0)]) (.int .i64 (r : Int))).run Try.prog V = .ok () w1 ∧ MovIn w1 (w.heap.size + 1) (k8 + 1) (movF fr to r n2) ∧ V.grownBy w1 (some (w.heap.size + 1))) := fun V hV => by
        obtain ⟨w1, h1, h2, h3⟩ := hV.put (z := (r : Int)) (by omega) hwf hwt (WalkArith.wf_i64 (by omega))
        exact ⟨w1, h1, h2.to (movF_step hr), h3⟩
      clear hcs hcs' hwf hwt HM7
      cases hA : arrF to (r + 1) n2 (to.getD r 0) with
      | none =>
        cases hV : movF fr to (r + 1) n2 (to.getD r 0) (fr.getD r 0) with
        | none =>
          simp only [hA, Option.getD_none, Option.isSome_none] at L7
          simp only [hV, Option.getD_none, Option.isSome_none] at L8
          have HC := Lib.hid (clash_nn HCF.out hA hV)
          clear hA hV
          generalize to.getD r 0 = ti at hct HCTW L7 L8 HP7 HP8
          generalize fr.getD r 0 = fi at hcf HCFW L8 HP8
          go_wp2_with fail
          go_quiet (fail)
          obtain ⟨w1, hrun1, hA1, hg1⟩ := HP7.out nq
          have hs1 := hg1.size
          have hB1 := (below_drewN hbel nq).grown hg1 hbel.size (fun j hj => by injection hj with hj; exact Nat.le_of_eq hj)
          have hcf1 := HCFW.out w1 hB1
          have hct1 := HCTW.out w1 hB1
          have hM1 := HM8.out.keep (hg1.block (w.heap.size + 1) hm8 (by intro e; injection e with e; omega))
          obtain ⟨w2, hrun2, hA2, hg2⟩ := HP8.out w1.drew (hM1.keep rfl)
          have HB2 := Lib.hid ((Below.drew hB1).grown hg2 (Nat.le_trans hbel.size hs1) (fun j hj => by injection hj with hj; omega))
          have HA2 := Lib.hid (hA1.keep ((hg2.block w.heap.size (Nat.lt_of_lt_of_le hm7 hs1) (by intro e; injection e with e; omega))))
          have HM2 := Lib.hid hA2
          clear hA1 hM1 hA2 hg1 hg2 hB1 HP7 HP8 L7 L8
          go_wp2_with fail
          go_still_tail 11, (by kernel_rfl)
          change wpList _ _ _ _ _ w1.drew
          go_wp2_with fail
          go_roundw
          case rel => exact ⟨r, _, _, _, by omega, rfl, rfl, rfl, rfl, ⟨_, by omega, HA2.out⟩, ⟨_, by omega, HM2.out⟩, HB2.out, HC.out⟩
          case measure => simp [intOf]
        | some x2 =>
          obtain ⟨j2, rfl, _, hj2, _⟩ := movF_some hV
          simp only [hA, Option.getD_none, Option.isSome_none] at L7
          simp only [hV, Option.getD_some, Option.isSome_some] at L8
          have HC := Lib.hid (clash_ns hA hV)
          clear hA hV
          generalize to.getD r 0 = ti at hct HCTW L7 L8 HP7 HP8
          generalize fr.getD r 0 = fi at hcf HCFW L8 HP8
          go_wp2_with fail
          go_quiet (fail)
          obtain ⟨w1, hrun1, hA1, hg1⟩ := HP7.out nq
          have hs1 := hg1.size
          have hB1 := (below_drewN hbel nq).grown hg1 hbel.size (fun j hj => by injection hj with hj; exact Nat.le_of_eq hj)
          have hcf1 := HCFW.out w1 hB1
          have hct1 := HCTW.out w1 hB1
          have hM1 := HM8.out.keep (hg1.block (w.heap.size + 1) hm8 (by intro e; injection e with e; omega))
          obtain ⟨w2, hrun2, hA2, hg2⟩ := HP8.out w1.drew (hM1.keep rfl)
          have HB2 := Lib.hid ((Below.drew hB1).grown hg2 (Nat.le_trans hbel.size hs1) (fun j hj => by injection hj with hj; omega))
          have HA2 := Lib.hid (hA1.keep ((hg2.block w.heap.size (Nat.lt_of_lt_of_le hm7 hs1) (by intro e; injection e with e; omega))))
          have HM2 := Lib.hid hA2
          clear hA1 hM1 hA2 hg1 hg2 hB1 HP7 HP8 L7 L8
          go_wp2_with fail
          go_still_tail 11, (by kernel_rfl)
          change wpList _ _ _ _ _ w1.drew
          go_wp2_with fail
          go_roundw
          case rel => exact ⟨r, _, _, _, by omega, rfl, rfl, rfl, rfl, ⟨_, by omega, HA2.out⟩, ⟨_, by omega, HM2.out⟩, HB2.out, HC.out⟩
          case measure => simp [intOf]
      | some x1 =>
        cases hV : movF fr to (r + 1) n2 (to.getD r 0) (fr.getD r 0) with
        | none =>
          obtain ⟨j1, rfl, _, hj1, _⟩ := arrF_some hA
          simp only [hA, Option.getD_some, Option.isSome_some] at L7
          simp only [hV, Option.getD_none, Option.isSome_none] at L8
          have HC := Lib.hid (clash_sn hA hV)
          clear hA hV
          generalize to.getD r 0 = ti at hct HCTW L7 L8 HP7 HP8
          generalize fr.getD r 0 = fi at hcf HCFW L8 HP8
          go_wp2_with fail
          go_quiet (fail)
          obtain ⟨w1, hrun1, hA1, hg1⟩ := HP7.out nq
          have hs1 := hg1.size
          have hB1 := (below_drewN hbel nq).grown hg1 hbel.size (fun j hj => by injection hj with hj; exact Nat.le_of_eq hj)
          have hcf1 := HCFW.out w1 hB1
          have hct1 := HCTW.out w1 hB1
          have hM1 := HM8.out.keep (hg1.block (w.heap.size + 1) hm8 (by intro e; injection e with e; omega))
          obtain ⟨w2, hrun2, hA2, hg2⟩ := HP8.out w1.drew (hM1.keep rfl)
          have HB2 := Lib.hid ((Below.drew hB1).grown hg2 (Nat.le_trans hbel.size hs1) (fun j hj => by injection hj with hj; omega))
          have HA2 := Lib.hid (hA1.keep ((hg2.block w.heap.size (Nat.lt_of_lt_of_le hm7 hs1) (by intro e; injection e with e; omega))))
          have HM2 := Lib.hid hA2
          clear hA1 hM1 hA2 hg1 hg2 hB1 HP7 HP8 L7 L8
          go_wp2_with fail
          go_still_tail 11, (by kernel_rfl)
          change wpList _ _ _ _ _ w1.drew
          go_wp2_with fail
          go_roundw
          case rel => exact ⟨r, _, _, _, by omega, rfl, rfl, rfl, rfl, ⟨_, by omega, HA2.out⟩, ⟨_, by omega, HM2.out⟩, HB2.out, HC.out⟩
          case measure => simp [intOf]
        | some x2 =>
          obtain ⟨j1, rfl, _, hj1, _⟩ := arrF_some hA
          obtain ⟨j2, rfl, _, hj2, _⟩ := movF_some hV
          by_cases hjj : j2 < j1
          · simp only [hA, Option.getD_some, Option.isSome_some] at L7
            simp only [hV, Option.getD_some, Option.isSome_some] at L8
            have hc := clash_ss hA hV
            rw [if_pos (by omega)] at hc
            have HC := Lib.hid hc
            clear hc
            clear hA hV
            generalize to.getD r 0 = ti at hct HCTW L7 L8 HP7 HP8
            generalize fr.getD r 0 = fi at hcf HCFW L8 HP8
            go_wp2_with fail
            go_quiet (fail)
            obtain ⟨w1, hrun1, hA1, hg1⟩ := HP7.out nq
            have hs1 := hg1.size
            have hB1 := (below_drewN hbel nq).grown hg1 hbel.size (fun j hj => by injection hj with hj; exact Nat.le_of_eq hj)
            have hcf1 := HCFW.out w1 hB1
            have hct1 := HCTW.out w1 hB1
            have hM1 := HM8.out.keep (hg1.block (w.heap.size + 1) hm8 (by intro e; injection e with e; omega))
            obtain ⟨w2, hrun2, hA2, hg2⟩ := HP8.out w1.drew (hM1.keep rfl)
            have HB2 := Lib.hid ((Below.drew hB1).grown hg2 (Nat.le_trans hbel.size hs1) (fun j hj => by injection hj with hj; omega))
            have HA2 := Lib.hid (hA1.keep ((hg2.block w.heap.size (Nat.lt_of_lt_of_le hm7 hs1) (by intro e; injection e with e; omega))))
            have HM2 := Lib.hid hA2
            clear hA1 hM1 hA2 hg1 hg2 hB1 HP7 HP8 L7 L8
            go_wp2_with fail
            go_still_tail 11, (by kernel_rfl)
            change wpList _ _ _ _ _ w1.drew
            go_wp2_with fail
            go_roundw
            case rel => exact ⟨r, _, _, _, by omega, rfl, rfl, rfl, rfl, ⟨_, by omega, HA2.out⟩, ⟨_, by omega, HM2.out⟩, HB2.out, HC.out⟩
            case measure => simp [intOf]
          · simp only [hA, Option.getD_some, Option.isSome_some] at L7
            simp only [hV, Option.getD_some, Option.isSome_some] at L8
            have hc := clash_ss hA hV
            rw [if_neg (by omega)] at hc
            have HC := Lib.hid hc
            clear hc
            clear hA hV
            generalize to.getD r 0 = ti at hct HCTW L7 L8 HP7 HP8
            generalize fr.getD r 0 = fi at hcf HCFW L8 HP8
            go_wp2_with fail
            go_quiet (fail)
            obtain ⟨w1, hrun1, hA1, hg1⟩ := HP7.out nq
            have hs1 := hg1.size
            have hB1 := (below_drewN hbel nq).grown hg1 hbel.size (fun j hj => by injection hj with hj; exact Nat.le_of_eq hj)
            have hcf1 := HCFW.out w1 hB1
            have hct1 := HCTW.out w1 hB1
            have hM1 := HM8.out.keep (hg1.block (w.heap.size + 1) hm8 (by intro e; injection e with e; omega))
            obtain ⟨w2, hrun2, hA2, hg2⟩ := HP8.out w1.drew (hM1.keep rfl)
            have HB2 := Lib.hid ((Below.drew hB1).grown hg2 (Nat.le_trans hbel.size hs1) (fun j hj => by injection hj with hj; omega))
            have HA2 := Lib.hid (hA1.keep ((hg2.block w.heap.size (Nat.lt_of_lt_of_le hm7 hs1) (by intro e; injection e with e; omega))))
            have HM2 := Lib.hid hA2
            clear hA1 hM1 hA2 hg1 hg2 hB1 HP7 HP8 L7 L8
            go_wp2_with fail
            go_still_tail 11, (by kernel_rfl)
            change wpList _ _ _ _ _ w1.drew
            go_wp2_with fail
            go_roundw
            case rel => exact ⟨r, _, _, _, by omega, rfl, rfl, rfl, rfl, ⟨_, by omega, HA2.out⟩, ⟨_, by omega, HM2.out⟩, HB2.out, HC.out⟩
            case measure => simp [intOf]

theorem clash_any : SaysClash 10 := by
  intro a1 a2 n1 c1 n2 c2 B fr to w h1 h2 hB hn1 hn2 y1 y2
  by_cases h : n2 < n1
  · rw [Nat.min_eq_right (by omega)]
    exact clash_gt a1 a2 n1 c1 n2 c2 B fr to w h1 h2 hB hn1 hn2 y1 y2 h
  · rw [Nat.min_eq_left (by omega)]
    exact clash_le a1 a2 n1 c1 n2 c2 B fr to w h1 h2 hB hn1 hn2 y1 y2 h
end Go.Proofs.Ytccdblbnphmpjaa.Vm
