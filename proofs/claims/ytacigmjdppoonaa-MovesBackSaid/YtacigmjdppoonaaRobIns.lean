/- The contracts of the program's exists, beside, notBelow, robotsIn. -/
import Derived.Test.YtacigmjdppoonaaRobMaps
import Derived.BigQuiet
import Derived.Deep.CutRange
import Derived.Deep.QuietTactic
namespace Go.Proofs.Ytacigmjdppoonaa.Vm
open Go Go.RowKit Go.Maps
set_option maxRecDepth 100000

set_option maxHeartbeats 1000000 in
theorem exists_any (W H z : Int) (g : ByteArray) (w : World) (hok : Okay W H g) :
    Calls Try.prog 27 #[gridV W H g, .int .i64 z] w fun e w' => e = .returned (.bool (decide (InG g.size z))) ∧ Below w.heap.size w w' := by
  have e0 : decide (W > 0) = true := by rw [decide_eq_true_eq]; have := hok.w1; omega
  have hle := hok.le
  have HB : Hid (Below w.heap.size w (w.alloc (gridO W H g))) := (Below.refl _ _).alloc (Nat.le_refl _) _
  clear hok
  by_cases h1 : 0 ≤ z
  · have e1 : decide ((0 : Int) ≤ z) = true := by rw [decide_eq_true_eq]; omega
    by_cases h2 : z < g.size
    · have e2 : decide (z < (g.size : Int)) = true := by rw [decide_eq_true_eq]; omega
      have HD : Hid (decide (InG g.size z) = true) := by unfold Hid; rw [decide_eq_true_eq]; exact ⟨h1, h2⟩
      clear h1 h2
      go_enter Try.func27, Try.ntmps27
      go_wp2_with fail
      go_ret
      rw [HD.out]
      exact ⟨rfl, HB.out⟩
    · have e2 : decide (z < (g.size : Int)) = false := by rw [decide_eq_false_iff_not]; omega
      have HD : Hid (decide (InG g.size z) = false) := by unfold Hid; rw [decide_eq_false_iff_not]; exact fun h => h2 h.2
      clear h1 h2
      go_enter Try.func27, Try.ntmps27
      go_wp2_with fail
      go_ret
      rw [HD.out]
      exact ⟨rfl, HB.out⟩
  · have e1 : decide ((0 : Int) ≤ z) = false := by rw [decide_eq_false_iff_not]; omega
    have HD : Hid (decide (InG g.size z) = false) := by unfold Hid; rw [decide_eq_false_iff_not]; exact fun h => h1 h.1
    clear h1
    go_enter Try.func27, Try.ntmps27
    go_wp2_with fail
    go_ret
    rw [HD.out]
    exact ⟨rfl, HB.out⟩

set_option maxHeartbeats 1000000 in
theorem notBelow_any (a : Option Addr) (n c B : Nat) (x : Int) (l : List Int) (w : World) (h : RowZ .i64 w B a n c l) (hu : l.Pairwise (· < ·)) (hn : n ≤ 1000000) :
    Calls Try.prog 29 #[.int .i64 x, .slice a n c] w fun e w' => (∃ a' n' c', e = .returned (.slice a' n' c') ∧ RowZ .i64 w B a' n' c' (l.drop (lowZ l x))) ∧ ∃ q, w' = w.drewN q := by
  have HS := Lib.hid (search_any a n c B l x w h hu hn)
  have hle : lowZ l x ≤ n := by rw [← h.1]; exact low_le l x
  have hc := h.2.1
  have hm := h.2.2.1
  unfold maxLen at hm
  have HH := Lib.hid h
  generalize hp : lowZ l x = p at *
  clear h hu hp
  rcases Nat.eq_or_lt_of_le (Nat.le_trans hle hc) with hpc | hpc
  · obtain rfl : n = p := by omega
    obtain rfl : n = c := by omega
    have HR : Hid (RowZ .i64 w B a 0 0 (l.drop n)) := by
      have : l.drop n = [] := List.drop_of_length_le (by rw [HH.out.1]; exact Nat.le_refl _)
      unfold Hid; rw [this]
      exact ⟨rfl, Nat.le_refl _, by simp [maxLen], fun h => absurd h (by omega)⟩
    go_enter Try.func29, Try.ntmps29
    go_wp2_with fail
    refine HS.out.mono ?_
    rintro e w1 ⟨rfl, q, rfl⟩
    have HQ : Hid (∃ q', w.drewN q = w.drewN q') := ⟨q, rfl⟩
    generalize w.drewN q = V at HQ ⊢
    go_wp2_with fail
    go_ret
    exact ⟨⟨_, _, _, rfl, by simpa using HR.out⟩, HQ.out⟩
  · have hne : ¬ c = p := by omega
    have HR : Hid (∀ a', (∀ b off, a = some ⟨b, off, none⟩ → a' = some ⟨b, off + p, none⟩) → RowZ .i64 w B a' (n - p) (c - p) (l.drop p)) := fun a' ha => by
      refine ⟨by rw [List.length_drop, HH.out.1], by omega, by unfold maxLen; omega, fun hn' => ?_⟩
      obtain ⟨b, off, e, hb, hcs⟩ := HH.out.2.2.2 (by omega)
      refine ⟨b, off + p, ha b off e, hb, fun i hi => ?_⟩
      rw [Nat.add_assoc, hcs (p + i) (by omega)]
      simp [List.getD, List.getElem?_drop]
    cases a with
    | none =>
      have hn0 : n = 0 := by
        rcases Nat.eq_zero_or_pos n with h0 | h0
        · exact h0
        · obtain ⟨_, _, e, _⟩ := HH.out.cells h0; cases e
      obtain rfl : p = 0 := by omega
      subst hn0
      have HR2 : Hid (RowZ .i64 w B none 0 c (l.drop 0)) := HH.out
      go_enter Try.func29, Try.ntmps29
      go_wp2_with fail
      refine HS.out.mono ?_
      rintro e w1 ⟨rfl, q, rfl⟩
      have HQ : Hid (∃ q', w.drewN q = w.drewN q') := ⟨q, rfl⟩
      generalize w.drewN q = V at HQ ⊢
      go_wp2_with fail
      go_ret
      exact ⟨⟨_, _, _, rfl, by first | exact HR2.out | simpa using HR2.out⟩, HQ.out⟩
    | some ad =>
      go_enter Try.func29, Try.ntmps29
      go_wp2_with fail
      refine HS.out.mono ?_
      rintro e w1 ⟨rfl, q, rfl⟩
      have HQ : Hid (∃ q', w.drewN q = w.drewN q') := ⟨q, rfl⟩
      generalize w.drewN q = V at HQ ⊢
      go_wp2_with fail
      go_ret
      refine ⟨⟨_, _, _, rfl, HR.out _ fun b off e => ?_⟩, HQ.out⟩
      injection e with e
      subst e
      first | rfl | simp [Addr.add]

set_option maxHeartbeats 2000000 in
theorem mBeside_any (W H z : Int) (g : ByteArray) (w : World) (hok : Okay W H g) (hz : InG g.size z) :
    Calls Try.prog 28 #[gridV W H g, .int .i64 z] w fun e w' => ∃ a n c, e = .returned (.slice a n c) ∧ (besideL W z).length = n ∧ OwnZ w' w.heap.size (.slice a n c) (besideL W z) ∧ Below w.heap.size w w' := by
  have hw1 := hok.w1
  have hw2 := hok.w2
  have hle := hok.le
  obtain ⟨hz0, hz1⟩ := hz
  have e0 : IntKind.i64.wrap (z - W) = z - W := by simp only [IntKind.wrap_i64]; omega
  have e1 : IntKind.i64.wrap (z + W) = z + W := by simp only [IntKind.wrap_i64]; omega
  have e2 : IntKind.i64.wrap (z - 1) = z - 1 := by simp only [IntKind.wrap_i64]; omega
  have e3 : IntKind.i64.wrap (z + 1) = z + 1 := by simp only [IntKind.wrap_i64]; omega
  have e4 : IntKind.i64.wrap (W - 1) = W - 1 := by simp only [IntKind.wrap_i64]; omega
  have e5 : (W == 0) = false := by rw [beq_eq_false_iff_ne]; omega
  have hW0 : ¬ W = 0 := by omega
  have r0 := Int.emod_nonneg z (show W ≠ 0 by omega)
  have r1 := Int.emod_lt_of_pos z (show 0 < W by omega)
  have ht : z.tmod W = z % W := Int.tmod_eq_emod_of_nonneg hz0
  have e6 : IntKind.i64.wrap (z % W) = z % W := by simp only [IntKind.wrap_i64]; omega
  have HM : Hid (besideL W z = [z - W, z + W] ++ (if 0 < z % W then [z - 1] else []) ++ (if z % W < W - 1 then [z + 1] else [])) := rfl
  generalize besideL W z = L at HM ⊢
  generalize z % W = r at *
  obtain ⟨w1, hw1'⟩ : ∃ w1, w1 = w.alloc (gridO W H g) := ⟨_, rfl⟩
  have hb1 : Below w.heap.size w w1 := by rw [hw1']; exact (Below.refl _ _).alloc (Nat.le_refl _) _
  have hz1' : w1.heap.size = w.heap.size + 1 := by rw [hw1']; simp
  have hg1 : GridAt w1 w.heap.size W H g := by rw [hw1']; exact gridAt_new w W H g
  obtain ⟨w2, hw2'⟩ : ∃ w2, w2 = w1.alloc (.cells #[.int .i64 (z - W), .int .i64 (z + W)] 3) := ⟨_, rfl⟩
  have hb2 : Below (w.heap.size + 1) w1 w2 := by rw [hw2']; exact (Below.refl _ _).alloc (by omega) _
  have HO2 : Hid (OwnZ w2 (w.heap.size + 1) (.slice (some ⟨w.heap.size + 1, 0, none⟩) 2 2) [z - W, z + W]) := by
    have := World.ownsRow_lit (base := w.heap.size + 1) (e := 3) (size := 1) w1 #[.int .i64 (z - W), .int .i64 (z + W)] 2 (by omega) (by simp [maxLen]) rfl
    rw [hz1'] at this
    unfold Hid OwnZ
    rw [hw2']
    exact this
  have hz2' : w2.heap.size = w.heap.size + 2 := by rw [hw2']; simp; omega
  have HB1 := Lib.hid hb1
  have HB2 := Lib.hid hb2
  have HZ1 := Lib.hid hz1'
  have HW1 := Lib.hid hw1'
  have HW2 := Lib.hid hw2'
  have HZ2 := Lib.hid hz2'
  have HG := Lib.hid hg1
  clear hb1 hb2 hw1' hw2' hok hle hg1 hz2' hz1'
  go_enter Try.func28, Try.ntmps28
  go_upto_region 2 with fail
  rw [← HW1.out, ← HW2.out]
  obtain ⟨g0, g1, g2⟩ := HG.out.below HB2.out (Nat.lt_succ_self _)
  go_upto_if 19 with fail
  go_cut [5] from 19 to 24 (fun v5 V => Hid (OwnZ V (w.heap.size + 1) v5 ([z - W, z + W] ++ (if 0 < r then [z - 1] else []))) ∧ Hid (Below (w.heap.size + 1) w1 V))
  case first =>
    by_cases h1 : 0 < r
    · have d1 : decide (0 < r) = true := by rw [decide_eq_true_eq]; exact h1
      have HL1 : Hid ([z - W, z + W] ++ (if 0 < r then [z - 1] else []) = [z - W, z + W] ++ [z - 1]) := by unfold Hid; rw [if_pos h1]
      go_wp2_with (at_builtin; refine wpList_append_z rfl (.tmp 20) (.tmp 23) rfl rfl (World.ownsRow.alloc HO2.out _) rfl (ownZ_one w2 (z - 1)) (by simp) (by have := HZ2.out; simp; omega) ?_; intro v3 w3 hown3 hb3)
      have HO3 := Lib.hid hown3
      have HB3 : Hid (Below (w.heap.size + 1) w1 w3) := (HB2.out.alloc (by have := HZ2.out; omega) _).trans hb3
      clear hown3 hb3
      go_wp2_with fail
      go_meet
      case rel => exact ⟨by rw [HL1.out]; exact HO3, HB3⟩
    · have d1 : decide (0 < r) = false := by rw [decide_eq_false_iff_not]; exact h1
      have HL1 : Hid ([z - W, z + W] ++ (if 0 < r then [z - 1] else []) = [z - W, z + W]) := by unfold Hid; rw [if_neg h1, List.append_nil]
      have h1 : r ≤ 0 := by omega
      go_wp2_with fail
      go_meet
      case rel => exact ⟨by rw [HL1.out]; exact HO2, HB2⟩
  case rest =>
  obtain ⟨HO3, HB3⟩ := hcut
  have hz3 : w.heap.size + 1 ≤ wc.heap.size := by have := HB3.out.size; have := HZ1.out; omega
  clear g0 g1 g2
  obtain ⟨g0, g1, g2⟩ := HG.out.below HB3.out (Nat.lt_succ_self _)
  have HLM : Hid (([z - W, z + W] ++ (if 0 < r then [z - 1] else [])).length ≤ 3) := by unfold Hid; split <;> simp
  generalize [z - W, z + W] ++ (if 0 < r then [z - 1] else []) = L1 at HM HO3 HLM
  by_cases h2 : r < W - 1
  · have d2 : decide (r < W - 1) = true := by rw [decide_eq_true_eq]; exact h2
    have HL2 : Hid (L = L1 ++ [z + 1]) := by unfold Hid; rw [HM.out, if_pos h2]
    clear h2
    go_wp2_with fail
    go_quiet (fail)
    obtain ⟨V, hV⟩ : ∃ V, V = wc.drewN nq := ⟨_, rfl⟩
    have HOV : Hid (OwnZ V (w.heap.size + 1) u5 L1) := by unfold Hid; rw [hV]; exact HO3.out.calls (below_drewN (Below.refl _ _) nq)
    have HBV : Hid (Below (w.heap.size + 1) w1 V) := by unfold Hid; rw [hV]; exact below_drewN HB3.out nq
    rw [← hV]
    clear hV
    have hzV : w.heap.size + 1 ≤ V.heap.size := by have := HBV.out.size; have := HZ1.out; omega
    go_wp2_with (at_builtin; refine wpList_append_z rfl (.tmp 33) (.tmp 36) rfl rfl (World.ownsRow.alloc HOV.out _) rfl (ownZ_one V (z + 1)) (by have := HLM.out; simp; omega) (by simp; omega) ?_; intro v4 w4 hown4 hb4)
    have HO4 := Lib.hid hown4
    have HB4 : Hid (Below (w.heap.size + 1) w1 w4) := (HBV.out.alloc (by omega) _).trans hb4
    rw [← HL2.out] at HO4
    obtain ⟨a4, c4, rfl, _⟩ := HO4.out.row
    clear hown4 hb4
    go_wp2_with fail
    go_ret
    exact ⟨a4, _, c4, rfl, rfl, HO4.out.lower (by omega), HB1.out.trans (HB4.out.mono (by omega))⟩
  · have d2 : decide (r < W - 1) = false := by rw [decide_eq_false_iff_not]; exact h2
    have HL2 : Hid (L = L1) := by unfold Hid; rw [HM.out, if_neg h2, List.append_nil]
    clear h2
    go_wp2_with fail
    go_quiet (fail)
    obtain ⟨V, hV⟩ : ∃ V, V = wc.drewN nq := ⟨_, rfl⟩
    have HOV : Hid (OwnZ V (w.heap.size + 1) u5 L1) := by unfold Hid; rw [hV]; exact HO3.out.calls (below_drewN (Below.refl _ _) nq)
    have HBV : Hid (Below (w.heap.size + 1) w1 V) := by unfold Hid; rw [hV]; exact below_drewN HB3.out nq
    rw [← hV]
    rw [← HL2.out] at HOV
    obtain ⟨a4, c4, rfl, _⟩ := HOV.out.row
    clear hV
    go_wp2_with fail
    go_ret
    exact ⟨a4, _, c4, rfl, rfl, HOV.out.lower (by omega), HB1.out.trans (HBV.out.mono (by omega))⟩

/-- A map's slices, as the program has them of all robots. -/
def RobPost (w : World) (S n : Nat) (cells : List Int) (e : Ending) (w' : World) : Prop :=
  ∃ mb f, e = .returned (.map (some mb)) ∧ RobMap w' mb w.heap.size S cells n f ∧ Below w.heap.size w w'

set_option maxHeartbeats 2000000 in
theorem mRobotsIn_any (W H : Int) (g : ByteArray) (a : Option Addr) (n c B : Nat) (cells : List Int) (w : World) (hok : Okay W H g) (h : RowZ .i64 w B a n c cells) (hB : B ≤ w.heap.size) (hn : n ≤ 100000) :
    Calls Try.prog 26 #[gridV W H g, .slice a n c] w (RobPost w g.size n cells) := by
  obtain ⟨w1, hw1⟩ : ∃ w1, w1 = w.alloc (gridO W H g) := ⟨_, rfl⟩
  have hb1 : Below w.heap.size w w1 := by rw [hw1]; exact (Below.refl _ _).alloc (Nat.le_refl _) _
  have hz1 : w1.heap.size = w.heap.size + 1 := by rw [hw1]; simp
  have hg1 : GridAt w1 w.heap.size W H g := by rw [hw1]; exact gridAt_new w W H g
  obtain ⟨w2, hw2⟩ : ∃ w2, w2 = w1.alloc (.map #[] 0) := ⟨_, rfl⟩
  have hmk := make_mapQ 49 w1
  have hb2 : Below (w.heap.size + 1) w1 w2 := by rw [hw2]; exact (Below.refl _ _).alloc (by omega) _
  have hm2 : RobMap w2 (w.heap.size + 1) (w.heap.size + 1) g.size cells 0 (fun _ => none) := by
    have := robMap_new w1 g.size (w.heap.size + 1) cells
    rw [hz1] at this
    rw [hw2]; exact this
  rw [← hw2, hz1, hw1] at hmk
  obtain ⟨i0, hi0, hy0, hy1, hy2⟩ := info_parts info_int
  have hle := hok.le
  have HL := Lib.hid h.1
  have HC := Lib.hid fun h' => h.cells h'
  have hc1 := h.2.1
  have hx1 := h.2.2.1
  unfold maxLen at hx1
  have HB := Lib.hid hB
  have HB1 := Lib.hid hb1
  have HB2 := Lib.hid hb2
  have HM2 := Lib.hid hm2
  have HZ1 := Lib.hid hz1
  have HG := Lib.hid hg1
  have HEX := Lib.hid fun z V => exists_any W H z g V hok
  clear hw1 hw2 hb1 hb2 hg1 hm2 h hB hok hz1
  go_enter Try.func26, Try.ntmps26
  go_wp2_with fail
  clear hmk
  go_loopw [11] (fun i wr => ∃ k : Nat, k ≤ n ∧ i = .int .i64 k ∧ Hid (∃ f, RobMap wr (w.heap.size + 1) (w.heap.size + 1) g.size cells k f) ∧ Hid (Below (w.heap.size + 1) w1 wr)) (fun i _ => n - (intOf i).toNat)
  case atStart => exact ⟨0, Nat.zero_le _, rfl, ⟨_, HM2.out⟩, HB2.out⟩
  case round =>
    obtain ⟨k, hk, rfl, HF, HBB⟩ := hrel
    have HBW : Hid (Below w.heap.size w wr) := HB1.out.trans (HBB.out.mono (by omega))
    by_cases hlt : k < n
    · obtain ⟨b, o, rfl, hb, hq⟩ := HC.out (by omega)
      have hr1 : wr.cell? ⟨b, o + k, none⟩ = some (.int .i64 (cells.getD k 0)) := (HBW.out.cell (p := ⟨b, o + k, none⟩) (show b < w.heap.size by have := HB.out; omega)).trans (hq k hlt)
      obtain ⟨g0, g1, g2⟩ := HG.out.below HBB.out (Nat.lt_succ_self _)
      have HE := Lib.hid (HEX.out (cells.getD k 0) wr)
      have hzr := HBB.out.size
      have HZ : Hid (w.heap.size + 1 ≤ wr.heap.size) := by have := HZ1.out; unfold Hid; omega
      clear hq
      obtain ⟨f, hf⟩ := HF.out
      obtain ⟨z, hz⟩ : ∃ z, cells.getD k 0 = z := ⟨_, rfl⟩
      rw [hz] at hr1 HE
      by_cases hin : InG g.size z
      · have hput := fun {o V v'} => hf.put (o := o) (V := V) (v' := v') (by rw [hz]; exact hin) (by omega) (by omega) (by have := HZ.out; omega)
        have hwf : wfI z := WalkArith.wf_i64 (by have := hin.1; have := hin.2; omega)
        rw [decide_eq_true hin] at HE
        have HLK : Hid (∀ V, Below wr.heap.size wr V → (Instr.lookup 49 (.map (some (w.heap.size + 1))) (.int .i64 z) false).run Try.prog V = .ok (rowM.at (f z)) V ∧ OwnZ V (w.heap.size + 1) (rowM.at (f z)) (toZ (inC g.size cells k z)) ∧ RobMap V (w.heap.size + 1) (w.heap.size + 1) g.size cells k f) := fun V hV => ⟨(hf.calls hV).kin.look1 rowMl hwf, (hf.calls hV).at z, hf.calls hV⟩
        have HLN : Hid ((inC g.size cells k z).length ≤ k) := inC_len
        have HIN := Lib.hid hin
        have HZK := Lib.hid hz
        clear hput hin hf hwf hz
        go_upto_region 6 with (go_at_call 27; refine HE.out.mono ?_; rintro e wa ⟨rfl, hba⟩)
        obtain ⟨hlook, hown, hrm⟩ := HLK.out wa hba
        have HBA : Hid (Below (w.heap.size + 1) w1 wa) := HBB.out.trans (hba.mono HZ.out)
        have HRM := Lib.hid hrm
        have HOW : Hid (wa.ownsRow (w.heap.size + 1) 3 1 (rowM.at (f z)) (inC g.size cells k z).length (intsZ (toZ (inC g.size cells k z)))) := by
          have := hown
          unfold OwnZ at this
          rw [toZ_len] at this
          exact this
        have HZA : Hid (w.heap.size + 1 ≤ wa.heap.size) := Nat.le_trans HZ.out hba.size
        clear hba hrm hown g0 g1 g2 hr1
        go_wp2_with (at_builtin; (refine wpList_append_own_at _ rfl (.tmp 23) (.tmp 25) 27 rfl (w.heap.size + 1) 3 i0 (.int .i64 0) 1 8 Try.underlying27 hi0 hy0 hy1 hy2 rfl (by decide) _ _ _ rfl (World.ownsRow.alloc HOW.out _) ⟨wa.heap.size, 0, none⟩ 1 1 [.int .i64 (k : Int)] rfl rfl (one_cell wa (.int .i64 (k : Int)) 3) (by simp [Value.oneCell']) (by have := HLN.out; simp only [maxLen]; omega) (by have := HLN.out; omega) (by have := HZA.out; simp; omega) ?_; intro v6 w6 hown6 hgrow6 hnn6 hat6; obtain ⟨r7, w7, rfl, hrun7, hrm7, hgr7, hsz7⟩ := HRM.out.put (o := .cells #[.int .i64 (k : Int)] 3) (V := w6) (v' := v6) (by rw [HZK.out]; exact HIN.out) (by omega) (by omega) HZA.out (by rw [HZK.out]; exact hown6) (by rw [HZK.out]; exact hgrow6) (by rw [HZK.out]; exact hat6.imp (fun h => h) (fun h => h.trans (by simp))); rw [HZK.out] at hrun7))
        have HR7 := Lib.hid hrm7
        have hb6 : Below (w.heap.size + 1) w1 w6 := (HBA.out.alloc HZA.out _).grown hgrow6 (by have := HZA.out; simp; omega) (fun j hj => (World.ownsRow.lt HOW.out j hj).1)
        have HB7 : Hid (Below (w.heap.size + 1) w1 w7) := hb6.grown hgr7 (by have := hgrow6.size; have := HZA.out; simp at *; omega) (fun j hj => by injection hj with hj; omega)
        clear hown6 hgrow6 hnn6 hat6 hrun7 hrm7 hgr7 hsz7 hb6 hlook
        go_wp2_with fail
        go_roundw
        case rel => exact ⟨k + 1, by omega, by go_num, ⟨_, HR7.out⟩, HB7.out⟩
        case measure => simp [intOf]; omega
      · have HSK : Hid (RobMap wr (w.heap.size + 1) (w.heap.size + 1) g.size cells (k + 1) f) := hf.skip (by rw [hz]; exact hin)
        rw [decide_eq_false hin] at HE
        clear hin hf hz
        go_wp2_with fail
        refine HE.out.mono ?_
        rintro e wa ⟨rfl, hba⟩
        have HR7 := Lib.hid (HSK.out.calls hba)
        have HB7 : Hid (Below (w.heap.size + 1) w1 wa) := HBB.out.trans (hba.mono HZ.out)
        clear hba g0 g1 g2 hr1
        go_wp2_with fail
        go_roundw
        case rel => exact ⟨k + 1, by omega, by go_num, ⟨_, HR7.out⟩, HB7.out⟩
        case measure => simp [intOf]; omega
    · obtain rfl : k = n := by omega
      obtain ⟨f, hf⟩ := HF.out
      have HR := Lib.hid (show RobMap wr (w.heap.size + 1) w.heap.size g.size cells k f from ⟨hf.kin, hf.no, fun z r e => ⟨(hf.yes z r e).1.lower (by omega), (hf.yes z r e).2⟩, hf.apart⟩)
      clear hf
      go_wp2_with fail
      go_ret
      exact ⟨_, f, rfl, HR.out, HBW.out⟩
end Go.Proofs.Ytacigmjdppoonaa.Vm
