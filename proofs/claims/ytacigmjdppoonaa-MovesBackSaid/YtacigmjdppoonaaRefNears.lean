/- The document's Near of layer 12, and Pairs. -/
import Derived.Test.YtacigmjdppoonaaNextMath
import Derived.Test.YtacigmjdppoonaaPairRows
import Derived.Test.YtacigmjdppoonaaGoes
import Derived.Test.YtacigmjdppoonaaStWords
import Derived.Test.YtacigmjdppoonaaHopsC
import Derived.BigQuiet
import Derived.Deep.QuietTactic
namespace Go.Proofs.Ytacigmjdppoonaa.Vm
open Go Go.RowKit
set_option maxRecDepth 100000

theorem info_pairI2 : (Try.prog.info? 42).map (fun i => (i.zero, i.size, i.bytes)) = some (some (.agg #[.int .i64 0, .int .i64 0]), 2, 16) := by kernel_rfl
theorem sq_le {x : Int} {m : Nat} (h1 : -(m : Int) ≤ x) (h2 : x ≤ m) : 0 ≤ x * x ∧ x * x ≤ ((m * m : Nat) : Int) := by
  rw [← Int.natAbs_mul_self]
  have h : x.natAbs ≤ m := by omega
  have := Nat.mul_le_mul h h
  omega
/-- What a call of Near leaves (the document's own). -/
def NearPost2 (w : World) (l : List (Nat × Nat)) (e : Ending) (w' : World) : Prop := ∃ a n c, e = .returned (.slice a n c) ∧ l.length = n ∧ OwnPr w' w.heap.size 42 (.slice a n c) l ∧ Below w.heap.size w w'

set_option maxHeartbeats 8000000 in
theorem rNear12_any (W H : Int) (g : ByteArray) (a : Option Addr) (n c B : Nat) (cells : List Int) (w : World) (hok : Okay W H g) (h : RowZ .i64 w B a n c cells) (hB : B ≤ w.heap.size) (hn : n ≤ 1000) :
    Calls Try.prog 18 #[gridV W H g, .slice a n c] w (NearPost2 w (nearC W g.size cells n n)) := by
  obtain ⟨w1, hw1⟩ : ∃ w1, w1 = w.alloc (gridO W H g) := ⟨_, rfl⟩
  have hb1 : Below w.heap.size w w1 := by rw [hw1]; exact (Below.refl _ _).alloc (Nat.le_refl _) _
  have hz1 : w1.heap.size = w.heap.size + 1 := by rw [hw1]; simp
  have hg1 : GridAt w1 w.heap.size W H g := by rw [hw1]; exact gridAt_new w W H g
  obtain ⟨i1, hi1, hx0, hx1, hx2⟩ := info_parts info_pairI2
  have hle := hok.le
  have hW1 := hok.w1
  have hW2 := hok.w2
  have hW0 : ¬ W = 0 := by omega
  have HL := Lib.hid h.1
  have HC := Lib.hid fun h' => h.cells h'
  have hc1 := h.2.1
  have hxc := h.2.2.1
  unfold maxLen at hxc
  have HB := Lib.hid hB
  have HB1 := Lib.hid hb1
  have HZ1 := Lib.hid hz1
  have HW1 := Lib.hid hw1
  have HG := Lib.hid hg1
  clear hw1 hb1 hg1 h hB hok hz1
  go_enter Try.func18, Try.ntmps18
  go_wp2_with fail
  rw [← HW1.out]
  go_loopg [5, 6] n (fun gg v i wr => ∃ k : Nat, k + gg = n ∧ i = .int .i64 k ∧ Hid (OwnPr wr (w.heap.size + 1) 42 v (nearC W g.size cells n k)) ∧ Hid (Below (w.heap.size + 1) w1 wr))
  case atStart => exact ⟨0, by omega, rfl, World.ownsRow_nil _ _ _ _, Below.refl _ _⟩
  case round =>
    obtain ⟨k, hk, rfl, HP, HBB⟩ := hrel
    have HBW : Hid (Below w.heap.size w wr) := HB1.out.trans (HBB.out.mono (by omega))
    by_cases hlt : k < n
    · have HLT := Lib.hid hlt
      have ek : IntKind.i64.wrap ((k : Int) + 1) = ((k + 1 : Nat) : Int) := by simp only [IntKind.wrap_i64]; omega
      go_wp2_with fail
      go_loopg [5, 7] (n - (k + 1)) (fun gg v i V => ∃ j : Nat, j + gg = n ∧ k + 1 ≤ j ∧ i = .int .i64 j ∧ Hid (OwnPr V (w.heap.size + 1) 42 v (nearC W g.size cells n k ++ (nextC W g.size cells k j).map fun o => (k, o))) ∧ Hid (Below (w.heap.size + 1) w1 V))
      case atStart => exact ⟨k + 1, by omega, by omega, rfl, by unfold Hid; rw [nextC_start]; simpa using HP.out, HBB⟩
      case round =>
        obtain ⟨j, hj, hkj, rfl, HP2, HB2⟩ := hrel
        have HBW2 : Hid (Below w.heap.size w wr) := HB1.out.trans (HB2.out.mono (by omega))
        by_cases hjn : j < n
        · obtain ⟨b, o, rfl, hb, hq⟩ := HC.out (by omega)
          have hbl : b < w.heap.size := by have := HB.out; omega
          have hr1 : wr.cell? ⟨b, o + k, none⟩ = some (.int .i64 (cells.getD k 0)) := (HBW2.out.cell (p := ⟨b, o + k, none⟩) hbl).trans (hq k hlt)
          have hr2 : wr.cell? ⟨b, o + j, none⟩ = some (.int .i64 (cells.getD j 0)) := (HBW2.out.cell (p := ⟨b, o + j, none⟩) hbl).trans (hq j hjn)
          obtain ⟨g0, g1, g2⟩ := HG.out.below HB2.out (Nat.lt_succ_self _)
          have HNX : Hid (nextC W g.size cells k (j + 1) = nextC W g.size cells k j ++ if k < j ∧ NextTo W g.size (cells.getD k 0) (cells.getD j 0) then [j] else []) := nextC_succ
          generalize cells.getD k 0 = x at hr1 HNX
          generalize cells.getD j 0 = y at hr2 HNX
          have hkk : (k : Int) < (n : Int) := by omega
          have hjj : (j : Int) < (n : Int) := by omega
          have ej : IntKind.i64.wrap ((j : Int) + 1) = ((j + 1 : Nat) : Int) := by simp only [IntKind.wrap_i64]; omega
          clear hq
          by_cases hin : InG g.size x ∧ InG g.size y
          · obtain ⟨⟨hx0', hx1'⟩, hy0', hy1'⟩ := hin
            have HNT : Hid (NextTo W g.size x y ↔ (x % W - y % W) * (x % W - y % W) + (x / W - y / W) * (x / W - y / W) = 1) := ⟨fun h => h.2.2, fun h => ⟨⟨hx0', hx1'⟩, ⟨hy0', hy1'⟩, h⟩⟩
            have d1 : decide (x < 0) = false := by rw [decide_eq_false_iff_not]; omega
            have d2 : decide (y < 0) = false := by rw [decide_eq_false_iff_not]; omega
            have d3 : decide (x ≥ (g.size : Int)) = false := by rw [decide_eq_false_iff_not]; omega
            have d4 : decide (y ≥ (g.size : Int)) = false := by rw [decide_eq_false_iff_not]; omega
            have t1 : x.tmod W = x % W := Int.tmod_eq_emod_of_nonneg hx0'
            have t2 : y.tmod W = y % W := Int.tmod_eq_emod_of_nonneg hy0'
            have t3 : x.tdiv W = x / W := Int.tdiv_eq_ediv_of_nonneg hx0'
            have t4 : y.tdiv W = y / W := Int.tdiv_eq_ediv_of_nonneg hy0'
            have m1 := Int.emod_nonneg x (show W ≠ 0 by omega)
            have m2 := Int.emod_lt_of_pos x (show 0 < W by omega)
            have m3 := Int.emod_nonneg y (show W ≠ 0 by omega)
            have m4 := Int.emod_lt_of_pos y (show 0 < W by omega)
            have v1 : 0 ≤ x / W := Int.ediv_nonneg hx0' (by omega)
            have v2 : x / W ≤ x := Int.ediv_le_self _ hx0'
            have v3 : 0 ≤ y / W := Int.ediv_nonneg hy0' (by omega)
            have v4 : y / W ≤ y := Int.ediv_le_self _ hy0'
            generalize x % W = xm at *
            generalize y % W = ym at *
            generalize x / W = xd at *
            generalize y / W = yd at *
            have w1' : IntKind.i64.wrap xm = xm := by simp only [IntKind.wrap_i64]; omega
            have w2' : IntKind.i64.wrap ym = ym := by simp only [IntKind.wrap_i64]; omega
            have w3' : IntKind.i64.wrap xd = xd := by simp only [IntKind.wrap_i64]; omega
            have w4' : IntKind.i64.wrap yd = yd := by simp only [IntKind.wrap_i64]; omega
            obtain ⟨D, hD⟩ : ∃ D, xm - ym = D := ⟨_, rfl⟩
            obtain ⟨E, hE⟩ : ∃ E, xd - yd = E := ⟨_, rfl⟩
            have w5' : IntKind.i64.wrap (xm - ym) = D := by simp only [IntKind.wrap_i64]; omega
            have w6' : IntKind.i64.wrap (xd - yd) = E := by simp only [IntKind.wrap_i64]; omega
            rw [hD, hE] at HNT
            have s1 := sq_le (x := D) (m := 65536) (by omega) (by omega)
            have s2 := sq_le (x := E) (m := 65536) (by omega) (by omega)
            obtain ⟨P, hP⟩ : ∃ P, D * D = P := ⟨_, rfl⟩
            obtain ⟨Q, hQ⟩ : ∃ Q, E * E = Q := ⟨_, rfl⟩
            rw [hP] at s1 HNT
            rw [hQ] at s2 HNT
            have w7' : IntKind.i64.wrap (D * D) = P := by rw [hP]; simp only [IntKind.wrap_i64]; omega
            have w8' : IntKind.i64.wrap (E * E) = Q := by rw [hQ]; simp only [IntKind.wrap_i64]; omega
            have w9' : IntKind.i64.wrap (P + Q) = P + Q := by simp only [IntKind.wrap_i64]; omega
            clear hD hE hP hQ m1 m2 m3 m4 v1 v2 v3 v4 s1 s2 hx0' hx1' hy0' hy1'
            go_wp2_with fail
            go_quiet (fail)
            have HP3 := Lib.hid (HP2.out.calls (below_drewN (Below.refl _ wr) nq))
            have HB3 : Hid (Below (w.heap.size + 1) w1 (wr.drewN nq)) := below_drewN HB2.out nq
            generalize wr.drewN nq = V1 at HP3 HB3 ⊢
            clear g0 g1 g2 hr1 hr2
            obtain ⟨g0, g1, g2⟩ := HG.out.below HB3.out (Nat.lt_succ_self _)
            go_wp2_with fail
            go_quiet (fail)
            have HP4 := Lib.hid (HP3.out.calls (below_drewN (Below.refl _ V1) nq))
            have HB4 : Hid (Below (w.heap.size + 1) w1 (V1.drewN nq)) := below_drewN HB3.out nq
            generalize V1.drewN nq = V2 at HP4 HB4 ⊢
            clear g0 g1 g2 t1 t2 t3 t4 w1' w2' w3' w4' w5' w6' d1 d2 d3 d4
            by_cases hnt : P + Q = 1
            · have e1 : (P + Q == 1) = true := by simpa using hnt
              have HNX2 : Hid (nearC W g.size cells n k ++ (nextC W g.size cells k (j + 1)).map (fun o => (k, o)) = (nearC W g.size cells n k ++ (nextC W g.size cells k j).map fun o => (k, o)) ++ [(k, j)]) := by
                unfold Hid
                rw [HNX.out, if_pos ⟨by omega, HNT.out.2 hnt⟩]
                simp
              have HNL : Hid ((nearC W g.size cells n k ++ (nextC W g.size cells k j).map fun o => (k, o)).length ≤ 2000000) := by
                unfold Hid
                have h1 := nearC_len (W := W) (S := g.size) (cells := cells) (n := n) k
                have h2 : k * n ≤ 1000 * 1000 := Nat.mul_le_mul (by have := HLT.out; omega) hn
                have h3 := nextC_len (W := W) (S := g.size) (cells := cells) (i := k) (k := j)
                rw [List.length_append, List.length_map]
                omega
              generalize nearC W g.size cells n k ++ (nextC W g.size cells k j).map (fun o => (k, o)) = ps at HP4 HNL HNX2
              have hp := HP4.out
              have hsz : w.heap.size + 1 ≤ V2.heap.size := by have := HB4.out.size; have := HZ1.out; omega
              have HTY : Hid (P + Q = 1) := hnt
              clear hnt
              go_wp2_with (at_builtin; (refine wpList_append_own _ rfl (.tmp 80) (.tmp 84) 36 rfl (w.heap.size + 1) 42 i1 (.agg #[.int .i64 0, .int .i64 0]) 2 16 Try.underlying36 hi1 hx0 hx1 hx2 rfl (by decide) _ _ _ rfl (World.ownsRow.alloc hp _) ⟨V2.heap.size, 0, none⟩ 1 1 [.int .i64 (k : Nat), .int .i64 (j : Nat)] rfl rfl (two_cell _ _ _ _) (by simp [Value.oneCell']) (by have := HNL.out; simp only [maxLen]; omega) (by have := HNL.out; omega) (by simp; omega) ?_; intro v12 w12 hown12 hgrow12 _))
              have HP12 : Hid (OwnPr w12 (w.heap.size + 1) 42 v12 (nearC W g.size cells n k ++ (nextC W g.size cells k (j + 1)).map fun o => (k, o))) := by
                unfold Hid OwnPr
                rw [HNX2.out, List.length_append, List.length_singleton, pairsL_append]
                exact hown12
              have HB12 : Hid (Below (w.heap.size + 1) w1 w12) := (HB4.out.alloc hsz _).grown hgrow12 (by simp; omega) (fun q hq => (World.ownsRow.lt hp q hq).1)
              clear hown12 hgrow12 hp
              go_wp2_with fail
              go_roundg (gk - 1)
              case rel => exact ⟨j + 1, by omega, by omega, by go_num, HP12, HB12⟩
              case measure => omega
            · have e1 : (P + Q == 1) = false := by simpa using hnt
              have HNX2 : Hid (nextC W g.size cells k (j + 1) = nextC W g.size cells k j) := by
                unfold Hid
                rw [HNX.out, if_neg (fun h => hnt (HNT.out.1 h.2)), List.append_nil]
              clear hnt
              go_wp2_with fail
              go_roundg (gk - 1)
              case rel => exact ⟨j + 1, by omega, by omega, by go_num, by rw [HNX2.out]; exact HP4, HB4⟩
              case measure => omega
          · have HNX2 : Hid (nextC W g.size cells k (j + 1) = nextC W g.size cells k j) := by
              unfold Hid
              rw [HNX.out, if_neg (fun h => hin ⟨h.2.1, h.2.2.1⟩), List.append_nil]
            by_cases h1 : x < 0
            · have d1 : decide (x < 0) = true := by rw [decide_eq_true_eq]; exact h1
              clear hin
              go_wp2_with fail
              go_roundg (gk - 1)
              case rel => exact ⟨j + 1, by omega, by omega, by go_num, by rw [HNX2.out]; exact HP2, HB2⟩
              case measure => omega
            · have d1 : decide (x < 0) = false := by rw [decide_eq_false_iff_not]; exact h1
              by_cases h2 : y < 0
              · have d2 : decide (y < 0) = true := by rw [decide_eq_true_eq]; exact h2
                clear hin
                go_wp2_with fail
                go_roundg (gk - 1)
                case rel => exact ⟨j + 1, by omega, by omega, by go_num, by rw [HNX2.out]; exact HP2, HB2⟩
                case measure => omega
              · have d2 : decide (y < 0) = false := by rw [decide_eq_false_iff_not]; exact h2
                by_cases h3 : x ≥ (g.size : Int)
                · have d3 : decide (x ≥ (g.size : Int)) = true := by rw [decide_eq_true_eq]; exact h3
                  clear hin
                  go_wp2_with fail
                  go_roundg (gk - 1)
                  case rel => exact ⟨j + 1, by omega, by omega, by go_num, by rw [HNX2.out]; exact HP2, HB2⟩
                  case measure => omega
                · have d3 : decide (x ≥ (g.size : Int)) = false := by rw [decide_eq_false_iff_not]; exact h3
                  have h4 : y ≥ (g.size : Int) := Classical.byContradiction fun h4 => hin ⟨⟨by omega, by omega⟩, ⟨by omega, by omega⟩⟩
                  have d4 : decide (y ≥ (g.size : Int)) = true := by rw [decide_eq_true_eq]; exact h4
                  clear hin
                  go_wp2_with fail
                  go_roundg (gk - 1)
                  case rel => exact ⟨j + 1, by omega, by omega, by go_num, by rw [HNX2.out]; exact HP2, HB2⟩
                  case measure => omega
        · obtain rfl : j = n := by omega
          have HPF : Hid (OwnPr wr (w.heap.size + 1) 42 u5 (nearC W g.size cells j (k + 1))) := by
            have := HP2.out
            rw [← nearC_succ] at this
            exact this
          go_wp2_with fail
          go_roundg (j - (k + 1))
          case rel => exact ⟨k + 1, by omega, by go_num, HPF, HB2⟩
          case measure => omega
    · obtain rfl : k = n := by omega
      obtain ⟨a6, c6, rfl, _⟩ := HP.out.row
      go_wp2_with fail
      go_ret
      refine ⟨a6, _, c6, rfl, rfl, ?_, HBW.out⟩
      have h1 := HP.out
      exact ⟨h1.1, by
        rcases h1.2 with h2 | ⟨gg, cap, cur, hv, hb, r⟩
        · exact .inl h2
        · exact .inr ⟨gg, cap, cur, hv, by omega, r⟩⟩
end Go.Proofs.Ytacigmjdppoonaa.Vm
