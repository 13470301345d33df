/- tuggerlaw03.GridTurns returns true for every input: steps between cells that are of no one way can be taken back. -/
import Derived.Test.YteibhacpghobpaaGridParsesWalk
namespace Go.Proofs.Yteibhacpghobpaa.Vm
open Go.RowKit

def plainB (x : Nat) : Bool := decide (Plain x)
set_option maxRecDepth 100000 in
theorem plain_any (x : Nat) (w : World) : Calls Try.prog 24 #[.int .u8 (x : Nat)] w fun e w' => e = .returned (.bool (plainB x)) ∧ w = w' := by
  by_cases h1 : x = 46
  · subst h1
    go_enter Try.func24, Try.ntmps24
    go_wp2_with fail
    go_ret
    exact ⟨ret_bool rfl, rfl⟩
  · have e1 : ((x : Int) == 46) = false := by simp; omega
    by_cases h2 : x = 83
    · subst h2
      clear h1
      go_enter Try.func24, Try.ntmps24
      go_wp2_with fail
      go_ret
      exact ⟨ret_bool rfl, rfl⟩
    · have e2 : ((x : Int) == 83) = false := by simp; omega
      by_cases h3 : x = 67
      · subst h3
        clear h1 h2
        go_enter Try.func24, Try.ntmps24
        go_wp2_with fail
        go_ret
        exact ⟨ret_bool rfl, rfl⟩
      · have e3 : ((x : Int) == 67) = false := by simp; omega
        have HE : Hid (plainB x = false) := by unfold Hid plainB; exact decide_eq_false (by unfold Plain; omega)
        clear h1 h2 h3
        go_enter Try.func24, Try.ntmps24
        go_wp2_with fail
        go_ret
        exact ⟨ret_bool HE.out.symm, rfl⟩

theorem floor_as {s : ByteArray} {W H c : Int} {b : Bool} (hs : s.size ≤ maxLen) (h : floorS (bytesOf s) c = b) (w : World) : Calls Try.prog 22 #[gridV W H s, .int .i64 c] w fun e w' => e = .returned (.bool b) ∧ Below w.heap.size w w' := by
  have := floor_any W H c s w hs
  rw [h] at this
  exact this
theorem goes_as {s : ByteArray} {W H c way to : Int} {ok : Bool} (hok : Okay W H s) (h : goesS W H (bytesOf s) c way = (to, ok)) (w : World) : Calls Try.prog 15 #[gridV W H s, .int .i64 c, .int .i64 way] w fun e w' => e = .returned (.tuple #[.int .i64 to, .bool ok]) ∧ Below w.heap.size w w' := by
  have := goes_any W H c way s w hok
  rw [h] at this
  exact this
theorem light_as {s : ByteArray} {W H : Int} {b : Bool} (hs : s.size ≤ maxLen) (h : decide (s.size ≤ 400) = b) (w : World) : Calls Try.prog 14 #[gridV W H s] w fun e w' => e = .returned (.bool b) ∧ Below w.heap.size w w' := by
  have := light_any W H s w hs
  rw [h] at this
  exact this

theorem kept_calls4 {a wa : World} {f : FuncId} {args : Array Value} {v u : Value} {b1 b2 k : Nat} {W1 H1 : Int} {s1 : ByteArray} (h : Kept a wa) (g1 : GridAt a b1 W1 H1 s1) (g2 : a.cell? ⟨b2, k, none⟩ = some u)
    (l1 : b1 < a.heap.size) (l2 : b2 < a.heap.size) (hc : Calls Try.prog f args wa fun e w' => e = .returned v ∧ Below wa.heap.size wa w') :
    Calls Try.prog f args wa fun e w' => e = .returned v ∧ Kept a w' ∧ w'.cell? ⟨b1, 0, none⟩ = some (.int .i64 W1) ∧ w'.cell? ⟨b1, 1, none⟩ = some (.int .i64 H1) ∧ w'.cell? ⟨b1, 2, none⟩ = some (.string s1) ∧ w'.cell? ⟨b2, k, none⟩ = some u :=
  hc.mono fun e w' ⟨he, hb⟩ => by
    have hk : Kept a w' := Below.trans h (hb.mono h.size)
    have r1 := g1.below hk l1
    exact ⟨he, hk, r1.1, r1.2.1, r1.2.2, (Below.cell hk (p := ⟨b2, k, none⟩) l2).trans g2⟩

/-- The ways back, in a block. -/
abbrev backO : Obj := .cells #[.int .i64 0, .int .i64 3, .int .i64 4, .int .i64 1, .int .i64 2] 40
theorem back_at (w : World) (k : Nat) (hk : k ≤ 4) : (w.alloc backO).cell? ⟨w.heap.size, k, none⟩ = some (.int .i64 (backS k)) := by
  have hcase : k = 0 ∨ k = 1 ∨ k = 2 ∨ k = 3 ∨ k = 4 := by omega
  rcases hcase with rfl | rfl | rfl | rfl | rfl <;> simp <;> rfl
theorem sq_nonneg (x : Int) : 0 ≤ x * x := by
  rcases Int.le_total 0 x with h | h
  · exact Int.mul_nonneg h h
  · exact Int.mul_nonneg_of_nonpos_of_nonpos h h
theorem sq_le {x y : Int} (h : x * x + y * y ≤ 1) : -1 ≤ x ∧ x ≤ 1 ∧ -1 ≤ y ∧ y ≤ 1 := by
  have hx := sq_nonneg x
  have hy := sq_nonneg y
  have key : ∀ z : Int, z * z ≤ 1 → -1 ≤ z ∧ z ≤ 1 := by
    intro z hz
    refine ⟨?_, ?_⟩
    · apply Decidable.byContradiction
      intro h
      have : (2 : Int) * 2 ≤ (-z) * (-z) := Int.mul_le_mul (by omega) (by omega) (by omega) (by omega)
      rw [Int.neg_mul_neg] at this
      omega
    · apply Decidable.byContradiction
      intro h
      have : (2 : Int) * 2 ≤ z * z := Int.mul_le_mul (by omega) (by omega) (by omega) (by omega)
      omega
  have k1 := key x (by omega)
  have k2 := key y (by omega)
  exact ⟨k1.1, k1.2, k2.1, k2.2⟩

set_option maxRecDepth 100000 in
set_option maxHeartbeats 1600000 in
theorem gridTurns_walk (W H : Int) (s : ByteArray) (c : Int) (w : World) (_ : (Lit.int .i64 W).wf = true) (_ : (Lit.int .i64 H).wf = true) (hs : s.size ≤ maxLen) (_ : (Lit.int .i64 c).wf = true) :
    Calls Try.prog 6 #[gridV W H s, .int .i64 c] w fun e w' => e = .returned (.bool true) ∧ Below w.heap.size w w' := by
  have HA := Lib.hid (awake3_grid w W H s)
  cases hl : decide (s.size ≤ 400)
  · have HLI := Lib.hid (light_as (W := W) (H := H) hs hl)
    clear hl
    unfold maxLen at hs
    go_enter Try.func6, Try.ntmps6
    go_wp2_with fail
    refine HA.out.mono ?_
    rintro e w1 ⟨rfl, hb1, hz1, g1, g2, g3⟩
    go_wp2_with fail
    refine (HLI.out _).mono ?_
    rintro e w2 ⟨rfl, hb2⟩
    have hB2 := hb1.trans (hb2.mono hb1.size)
    go_wp2_with fail
    go_ret
    exact ⟨rfl, hB2⟩
  have HLI := Lib.hid (light_as (W := W) (H := H) hs hl)
  have hle : s.size ≤ 400 := of_decide_eq_true hl
  clear hl
  cases hr : rightS W H (bytesOf s)
  · have HRI := Lib.hid (rright_as hs hr)
    clear hr
    unfold maxLen at hs
    go_enter Try.func6, Try.ntmps6
    go_wp2_with fail
    refine HA.out.mono ?_
    rintro e w1 ⟨rfl, hb1, hz1, g1, g2, g3⟩
    go_wp2_with fail
    refine (HLI.out _).mono ?_
    rintro e w2 ⟨rfl, hb2⟩
    have hB2 := hb1.trans (hb2.mono hb1.size)
    obtain ⟨f1, f2, f3⟩ := GridAt.below ⟨g1, g2, g3⟩ hb2 hz1
    go_wp2_with fail
    refine (HRI.out _).mono ?_
    rintro e w3 ⟨rfl, hb3⟩
    have hB3 := hB2.trans (hb3.mono hB2.size)
    go_wp2_with fail
    go_ret
    exact ⟨rfl, hB3⟩
  have HRI := Lib.hid (rright_as hs hr)
  have hok := Okay.of hr
  clear hr
  by_cases hc : c < 0 ∨ (s.size : Int) ≤ c
  · clear hok
    unfold maxLen at hs
    have hc2 : c < 0 ∨ (0 ≤ c ∧ (s.size : Int) ≤ c) := by omega
    clear hc
    rcases hc2 with hc | ⟨hc0, hc1⟩
    all_goals
      go_enter Try.func6, Try.ntmps6
      go_wp2_with fail
      refine HA.out.mono ?_
      rintro e w1 ⟨rfl, hb1, hz1, g1, g2, g3⟩
      go_wp2_with fail
      refine (HLI.out _).mono ?_
      rintro e w2 ⟨rfl, hb2⟩
      have hB2 := hb1.trans (hb2.mono hb1.size)
      have hz2 : w.heap.size < w2.heap.size := Nat.lt_of_lt_of_le hz1 hb2.size
      obtain ⟨f1, f2, f3⟩ := GridAt.below ⟨g1, g2, g3⟩ hb2 hz1
      go_wp2_with fail
      refine (HRI.out _).mono ?_
      rintro e w3 ⟨rfl, hb3⟩
      have hB3 := hB2.trans (hb3.mono hB2.size)
      obtain ⟨e1, e2, e3⟩ := GridAt.below ⟨f1, f2, f3⟩ hb3 hz2
      go_wp2_with fail
      go_ret
      exact ⟨rfl, hB3⟩
  obtain ⟨n, rfl⟩ := Int.eq_ofNat_of_zero_le (show 0 ≤ c by omega)
  have hn : n < s.size := by omega
  clear hc
  have hw1 := hok.w1
  have hw2 := hok.w2
  have HOK := Lib.hid hok
  have HS := Lib.hid hs
  clear hs hok
  have d1 : decide ((n : Int) < 0) = false := by simp
  have d2 : decide (s.size ≤ n) = false := by simp; omega
  go_enter Try.func6, Try.ntmps6
  go_wp2_with fail
  refine HA.out.mono ?_
  rintro e w1 ⟨rfl, hb1, hz1, g1, g2, g3⟩
  go_wp2_with fail
  refine (HLI.out _).mono ?_
  rintro e w2 ⟨rfl, hb2⟩
  have hB2 := hb1.trans (hb2.mono hb1.size)
  have hz2 : w.heap.size < w2.heap.size := Nat.lt_of_lt_of_le hz1 hb2.size
  obtain ⟨f1, f2, f3⟩ := GridAt.below ⟨g1, g2, g3⟩ hb2 hz1
  clear hb2 g1 g2 g3 hz1 hb1
  go_wp2_with fail
  refine (HRI.out _).mono ?_
  rintro e w3 ⟨rfl, hb3⟩
  have hB3 := hB2.trans (hb3.mono hB2.size)
  have hz3 : w.heap.size < w3.heap.size := Nat.lt_of_lt_of_le hz2 hb3.size
  obtain ⟨e1, e2, e3⟩ := GridAt.below ⟨f1, f2, f3⟩ hb3 hz2
  clear hb3 f1 f2 f3 hz2 hB2
  go_wp2_with fail
  have hBL : Below w.heap.size w (w3.alloc backO) := hB3.alloc hB3.size _
  have hGL : GridAt (w3.alloc backO) w.heap.size W H s := GridAt.below (B := w3.heap.size) ⟨e1, e2, e3⟩ ((Below.refl _ w3).alloc (Nat.le_refl _) _) hz3
  have hbk := back_at w3
  have hzL : w3.heap.size < (w3.alloc backO).heap.size := by simp
  generalize w3.alloc backO = wL at hBL hGL hbk hzL
  have HGL := Lib.hid hGL
  have HBK := Lib.hid hbk
  clear e1 e2 e3 hGL hbk hB3 d1 d2
  go_loopw [9] (fun i wr => ∃ k : Nat, k ≤ 5 ∧ i = .int .i64 k ∧ Below wL.heap.size wL wr) (fun i _ => 5 - (intOf i).toNat)
  case atStart => exact ⟨0, by omega, rfl, Below.refl _ _⟩
  case round =>
    obtain ⟨k, hk, rfl, hbel⟩ := hrel
    by_cases hlt : k < 5
    · obtain ⟨to, ok, hR⟩ : ∃ to ok, goesS W H (bytesOf s) n k = (to, ok) := ⟨_, _, rfl⟩
      have HG := Lib.hid (goes_as HOK.out hR)
      obtain ⟨q1, q2, q3⟩ := HGL.out.below hbel (by omega)
      have hzr : wL.heap.size ≤ wr.heap.size := hbel.size
      cases ok
      · clear hR
        go_wp2_with fail
        refine (HG.out _).mono ?_
        rintro e wa ⟨rfl, hba⟩
        have hbela := hbel.trans (hba.mono hzr)
        go_wp2_with fail
        go_roundw
        case rel => exact ⟨k + 1, by omega, by go_num, hbela⟩
        case measure => simp [intOf]; omega
      · obtain ⟨hfl, hsq, hst⟩ := goesS_step hR
        obtain ⟨ht0, ht1⟩ := floorS_in hfl
        rw [bytesOf_len] at ht1
        obtain ⟨t, rfl⟩ := Int.eq_ofNat_of_zero_le ht0
        have ht : t < s.size := by omega
        have hsb := sq_le hsq
        have HFL := Lib.hid (floor_as (W := W) (H := H) HS.out hfl)
        have hbb : (((t : Int) == (n : Int)) == ((k : Int) == 0)) = true := by
          rw [beq_iff_eq, Bool.eq_iff_iff, beq_iff_eq, beq_iff_eq]
          exact hst
        have hP1 := fun w => plain_any (s[n]'hn).toNat w
        have hP2 := fun w => plain_any (s[t]'ht).toNat w
        have hback : plainB (s[t]'ht).toNat = true → goesS W H (bytesOf s) t (backS k) = ((n : Int), true) := by
          intro hp
          refine goesS_back (by omega) (by rw [bytesOf_len]; exact HOK.out.len) hR ?_
          rw [Int.toNat_natCast, bytesOf_at s t ht]
          exact of_decide_eq_true hp
        have hx0 : 0 ≤ (t : Int) % W := Int.emod_nonneg _ (by omega)
        have hx1 := Int.emod_lt_of_pos (t : Int) (show 0 < W by omega)
        have hx2 : 0 ≤ (n : Int) % W := Int.emod_nonneg _ (by omega)
        have hx3 := Int.emod_lt_of_pos (n : Int) (show 0 < W by omega)
        have hy0 : 0 ≤ (t : Int) / W := Int.ediv_nonneg (by omega) (by omega)
        have hy2 : 0 ≤ (n : Int) / W := Int.ediv_nonneg (by omega) (by omega)
        have hy1 : (t : Int) / W ≤ 400 := Int.le_trans (Int.ediv_le_self _ (by omega)) (by omega)
        have hy3 : (n : Int) / W ≤ 400 := Int.le_trans (Int.ediv_le_self _ (by omega)) (by omega)
        have HSQ := Lib.hid hsq
        have HSB := Lib.hid hsb
        have HP1 := Lib.hid hP1
        have HP2 := Lib.hid hP2
        have HBA := Lib.hid hback
        clear hR hfl hsq hst hsb hP1 hP2 hback
        go_wp2_with fail
        refine (HG.out _).mono ?_
        rintro e wa ⟨rfl, hba⟩
        have hbela := hbel.trans (hba.mono hzr)
        have hza : wL.heap.size ≤ wa.heap.size := hbela.size
        obtain ⟨q4, q5, q6⟩ := HGL.out.below hbela (by omega)
        clear q1 q2 q3 hba hbel hzr
        go_wp2_with fail
        go_quiet (fail)
        go_wp2_with fail
        go_quiet (fail)
        go_wp2_with fail
        refine (HFL.out _).mono ?_
        rintro e wb ⟨rfl, hbd⟩
        have hbelb : Below wL.heap.size wL wb := (below_drewN hbela _).trans (hbd.mono hza)
        have hzb : wL.heap.size ≤ wb.heap.size := hbelb.size
        obtain ⟨q7, q8, q9⟩ := HGL.out.below hbelb (by omega)
        clear q4 q5 q6 hbela hbd hza
        have m1 := sq_nonneg ((t : Int) % W - (n : Int) % W)
        have m2 := sq_nonneg ((t : Int) / W - (n : Int) / W)
        have m3 := HSQ.out
        obtain ⟨m4, m5, m6, m7⟩ := HSB.out
        have m8 : ((t : Int) % W - (n : Int) % W) * ((t : Int) % W - (n : Int) % W) ≤ 1 := by omega
        have m9 : ((t : Int) / W - (n : Int) / W) * ((t : Int) / W - (n : Int) / W) ≤ 1 := by omega
        have m10 : decide (1 < ((t : Int) % W - (n : Int) % W) * ((t : Int) % W - (n : Int) % W) + ((t : Int) / W - (n : Int) / W) * ((t : Int) / W - (n : Int) / W)) = false := by rw [decide_eq_false_iff_not]; omega
        have hP1 := HP1.out
        have hP2 := HP2.out
        clear HSQ HSB HP1 HP2
        cases hp1 : plainB (s[n]'hn).toNat
        · rw [hp1] at hP1
          have HP1 := Lib.hid hP1
          clear hp1 hP1 hP2
          go_wp2_with fail
          refine (HP1.out _).mono ?_
          rintro e wc ⟨rfl, rfl⟩
          go_wp2_with fail
          go_roundw
          case rel => exact ⟨k + 1, by omega, by go_num, hbelb⟩
          case measure => simp [intOf]; omega
        · rw [hp1] at hP1
          have HP1 := Lib.hid hP1
          clear hp1 hP1
          cases hp2 : plainB (s[t]'ht).toNat
          · rw [hp2] at hP2
            have HP2 := Lib.hid hP2
            clear hp2 hP2
            go_wp2_with fail
            refine (HP1.out _).mono ?_
            rintro e wc ⟨rfl, rfl⟩
            go_wp2_with fail
            refine (HP2.out _).mono ?_
            rintro e wc ⟨rfl, rfl⟩
            go_wp2_with fail
            go_roundw
            case rel => exact ⟨k + 1, by omega, by go_num, hbelb⟩
            case measure => simp [intOf]; omega
          · rw [hp2] at hP2
            have HP2 := Lib.hid hP2
            have hgb := HBA.out hp2
            have HGB := Lib.hid fun wa (h : Kept wL wa) => kept_calls4 h HGL.out (HBK.out k (by omega)) (by omega) hzL (goes_as HOK.out hgb wa)
            have hbkc : wb.cell? ⟨w3.heap.size, k, none⟩ = some (.int .i64 (backS k)) := (hbelb.cell (p := ⟨w3.heap.size, k, none⟩) hzL).trans (HBK.out k (by omega))
            have k0 : Kept wL wb := hbelb
            have i1 : (0 : Int) ≤ (k : Int) := by omega
            have i2 : (k : Int) < 5 := by omega
            clear hp2 hP2 hgb HBA
            go_wp2_with fail
            refine (HP1.out _).mono ?_
            rintro e wc ⟨rfl, rfl⟩
            go_wp2_with fail
            refine (HP2.out _).mono ?_
            rintro e wc ⟨rfl, rfl⟩
            go_wp2_with fail
            clear hbb m1 m2 m3 m4 m5 m6 m7 m8 m9 m10 hx0 hx1 hx2 hx3 hy0 hy1 hy2 hy3
            generalize backS k = bw at HGB hbkc
            go_region_held3 (fun w' => Kept wL w' ∧ w'.cell? ⟨w.heap.size, 0, none⟩ = some (.int .i64 W) ∧ w'.cell? ⟨w.heap.size, 1, none⟩ = some (.int .i64 H) ∧ w'.cell? ⟨w.heap.size, 2, none⟩ = some (.string s) ∧ w'.cell? ⟨w3.heap.size, k, none⟩ = some (.int .i64 bw))
              (first | (refine ⟨?_, ?_, ?_, ?_, ?_⟩ <;> first | assumption | exact Kept.drew (by assumption)))
              (first
                | (go_at_call 15; refine (HGB.out _ ?_).mono ?_; (first | assumption | exact Kept.drew (by assumption)); rintro e wd ⟨rfl, kd, c1, c2, c3, c4⟩))
            all_goals
              go_wp2_with fail
              go_roundw
              case rel => exact ⟨k + 1, by omega, by go_num, (by first | exact kd | exact Kept.drew kd)⟩
              case measure => simp [intOf]; omega
    · go_wp2_with fail
      go_ret
      exact ⟨rfl, hBL.trans (hbel.mono hBL.size)⟩
end Go.Proofs.Yteibhacpghobpaa.Vm
