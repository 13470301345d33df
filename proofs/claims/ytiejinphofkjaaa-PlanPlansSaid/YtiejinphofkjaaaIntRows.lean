/- Slices of slices of ints that come in; the contracts of layer 9's document functions goes and Lists, and of its law's light. -/
import Derived.Test.YtiejinphofkjaaaPlanMath
import Derived.Test.YtiejinphofkjaaaIntsZ
import Derived.Test.YtiejinphofkjaaaWords
import Derived.Deep.LoopGhost
namespace Go.Proofs.Ytiejinphofkjaaa.Vm
open Go Go.RowKit

/-- A slice of slices of ints. -/
def RowL (w : World) (B : Nat) (a : Option Addr) (n c : Nat) (ls : List (List Int)) : Prop :=
  ls.length = n ∧ n ≤ c ∧ c ≤ maxLen ∧ (0 < n → ∃ b off, a = some ⟨b, off, none⟩ ∧ b < B ∧ ∀ i, i < n → ∃ ai ni ci, w.cell? ⟨b, off + i, none⟩ = some (.slice ai ni ci) ∧ RowZ .i64 w B ai ni ci (ls.getD i []))
section
variable {w w' : World} {B B' n c : Nat} {a : Option Addr} {ls : List (List Int)}
theorem RowL.below (h : RowL w B a n c ls) (hb : Below B w w') : RowL w' B a n c ls := by
  obtain ⟨h1, h2, h3, h4⟩ := h
  refine ⟨h1, h2, h3, fun hn => ?_⟩
  obtain ⟨b, off, e, hB, hc⟩ := h4 hn
  refine ⟨b, off, e, hB, fun i hi => ?_⟩
  obtain ⟨ai, ni, ci, h5, h6⟩ := hc i hi
  exact ⟨ai, ni, ci, (hb.cell (p := ⟨b, off + i, none⟩) hB).trans h5, h6.below hb⟩
theorem RowL.mono (h : RowL w B a n c ls) (hB : B ≤ B') : RowL w B' a n c ls := by
  obtain ⟨h1, h2, h3, h4⟩ := h
  refine ⟨h1, h2, h3, fun hn => ?_⟩
  obtain ⟨b, off, e, hb, hc⟩ := h4 hn
  refine ⟨b, off, e, by omega, fun i hi => ?_⟩
  obtain ⟨ai, ni, ci, h5, h6⟩ := hc i hi
  exact ⟨ai, ni, ci, h5, h6.mono hB⟩
theorem RowL.cells (h : RowL w B a n c ls) (hn : 0 < n) : ∃ b off, a = some ⟨b, off, none⟩ ∧ b < B ∧ ∀ i, i < n → ∃ ai ni ci, w.cell? ⟨b, off + i, none⟩ = some (.slice ai ni ci) ∧ RowZ .i64 w B ai ni ci (ls.getD i []) := h.2.2.2 hn
/-- All but the first k. -/
theorem RowL.drop (h : RowL w B a n c ls) {k : Nat} (hk : k ≤ n) (hkc : k < c) : ∃ a', (∀ b off, a = some ⟨b, off, none⟩ → a' = some ⟨b, off + k, none⟩) ∧ RowL w B a' (n - k) (c - k) (ls.drop k) := by
  obtain ⟨h1, h2, h3, h4⟩ := h
  rcases Nat.eq_zero_or_pos n with h0 | h0
  · refine ⟨a.map fun p => ⟨p.block, p.off + k, none⟩, fun b off e => by rw [e]; rfl, by simp [h1], by omega, by omega, fun hn => by omega⟩
  · obtain ⟨b, off, rfl, hb, hc⟩ := h4 h0
    refine ⟨some ⟨b, off + k, none⟩, fun b' off' e => by injection e with e; injection e with e1 e2 _; subst e1 e2; rfl, by simp [h1], by omega, by omega, fun hn => ⟨b, off + k, rfl, hb, fun i hi => ?_⟩⟩
    obtain ⟨ai, ni, ci, h5, h6⟩ := hc (k + i) (by omega)
    refine ⟨ai, ni, ci, by rw [Nat.add_assoc]; exact h5, ?_⟩
    have e : (ls.drop k).getD i [] = ls.getD (k + i) [] := by simp [List.getD, List.getElem?_drop]
    rw [e]
    exact h6
theorem rowL_nil (w : World) (B : Nat) : RowL w B none 0 0 [] := ⟨rfl, Nat.le_refl _, by simp [maxLen], fun h => absurd h (by omega)⟩
end

theorem may_cut {bl : List Int} {oth : List (List Int)} {p : Nat} {f t : Int} (h1 : ∀ j, j < bl.length → ¬ (bl.getD j 0 = t ∧ f ≠ t))
    (h2 : ∀ j, j < oth.length → ¬ (p + 1 < (oth.getD j []).length ∧ ((oth.getD j []).getD (p + 1) 0 = t ∨ ((oth.getD j []).getD (p + 1) 0 = f ∧ (oth.getD j []).getD p 0 = t)))) : MayP bl oth p f t := by
  refine ⟨fun hm => ?_, fun q hq hl => ?_⟩
  · obtain ⟨j, hj, e⟩ := List.getElem_of_mem hm
    have := h1 j hj
    simp only [List.getD, List.getElem?_eq_getElem hj, Option.getD_some, e] at this
    exact Classical.byContradiction fun hne => this ⟨trivial, hne⟩
  · obtain ⟨j, hj, e⟩ := List.getElem_of_mem hq
    have := h2 j hj
    have e' : oth.getD j [] = q := by simp [List.getD, hj, e]
    rw [e'] at this
    exact ⟨fun h => this ⟨hl, .inl h⟩, fun h => this ⟨hl, .inr h⟩⟩
theorem may_bl {bl : List Int} {oth : List (List Int)} {p j : Nat} {f t : Int} (hj : j < bl.length) (h : bl.getD j 0 = t ∧ f ≠ t) : ¬ MayP bl oth p f t := fun hm => h.2 (hm.1 (by rw [← h.1]; simp [List.getD, hj]))
theorem may_oth {bl : List Int} {oth : List (List Int)} {p j : Nat} {f t : Int} (hj : j < oth.length) (h1 : p + 1 < (oth.getD j []).length) (h2 : (oth.getD j []).getD (p + 1) 0 = t ∨ ((oth.getD j []).getD (p + 1) 0 = f ∧ (oth.getD j []).getD p 0 = t)) : ¬ MayP bl oth p f t := fun hm => by
  have := hm.2 (oth.getD j []) (by simp [List.getD, hj]) h1
  rcases h2 with h | h
  · exact this.1 h
  · exact this.2 h

set_option maxRecDepth 100000 in
set_option maxHeartbeats 4000000 in
theorem rmay_any (a1 a2 : Option Addr) (n1 c1 n2 c2 B p : Nat) (f t : Int) (bl : List Int) (oth : List (List Int)) (w : World) (h1 : RowZ .i64 w B a1 n1 c1 bl) (h2 : RowL w B a2 n2 c2 oth) (hp : p ≤ 6) (hn1 : n1 ≤ 100000) (hn2 : n2 ≤ 100000) :
    Calls Try.prog 42 #[.slice a1 n1 c1, .slice a2 n2 c2, .int .i64 (p : Nat), .int .i64 f, .int .i64 t] w fun e w' => e = .returned (.bool (decide (MayP bl oth p f t))) ∧ w' = w := by
  have hl1 := h1.1
  have hl2 := h2.1
  have hc1 := h1.2.1
  have hc2 := h2.2.1
  have HC1 := Lib.hid (fun h => h1.cells h)
  have HC2 := Lib.hid (fun h => h2.cells h)
  clear h1 h2
  go_enter Try.func42, Try.ntmps42
  go_wp2_with fail
  go_loopw [11] (fun v wr => ∃ k : Nat, k ≤ n1 ∧ v = .int .i64 k ∧ Hid (wr = w) ∧ Hid (∀ j, j < k → ¬ (bl.getD j 0 = t ∧ f ≠ t))) (fun v _ => n1 - (intOf v).toNat)
  case atStart => exact ⟨0, Nat.zero_le _, rfl, rfl, fun j hj => absurd hj (Nat.not_lt_zero _)⟩
  case round =>
    obtain ⟨k, hk, rfl, hwr, HN⟩ := hrel
    obtain ⟨V, hV⟩ : ∃ V, V = wr := ⟨_, rfl⟩
    rw [← hV] at hwr ⊢
    clear hV
    by_cases hlt : k < n1
    · obtain ⟨b, off, rfl, hb, hcs⟩ := HC1.out (by omega)
      have hcell := hcs k hlt
      rw [← hwr.out] at hcell
      have HMB := Lib.hid (may_bl (bl := bl) (oth := oth) (p := p) (f := f) (t := t) (j := k) (by omega))
      clear hcs
      generalize hz : bl.getD k 0 = z at hcell HMB
      have HZ := Lib.hid hz
      clear hz
      by_cases g1 : z = t
      · have e1 : (z == t) = true := by simpa using g1
        by_cases g2 : f = t
        · have e2 : (f != t) = false := by simpa using g2
          have HN2 : Hid (¬ (z = t ∧ f ≠ t)) := fun h => h.2 g2
          clear g1 g2
          go_wp2_with fail
          go_roundw
          case rel => exact ⟨k + 1, by omega, by go_num, hwr, fun j hj => by
            by_cases e : j = k
            · subst e; rw [HZ.out]; exact HN2.out
            · exact HN.out j (by omega)⟩
          case measure => simp [intOf]; omega
        · have e2 : (f != t) = true := by rw [bne_iff_ne]; exact g2
          have HY := Lib.hid (decide_eq_false (HMB.out ⟨g1, g2⟩))
          clear g1 g2
          go_wp2_with fail
          go_ret
          exact ⟨ret_bool HY.out.symm, hwr.out⟩
      · have e1 : (z == t) = false := by simpa using g1
        have HN2 : Hid (¬ (z = t ∧ f ≠ t)) := fun h => g1 h.1
        clear g1
        go_wp2_with fail
        go_roundw
        case rel => exact ⟨k + 1, by omega, by go_num, hwr, fun j hj => by
          by_cases e : j = k
          · subst e; rw [HZ.out]; exact HN2.out
          · exact HN.out j (by omega)⟩
        case measure => simp [intOf]; omega
    · obtain rfl : k = n1 := by omega
      have HBL : Hid (∀ j, j < bl.length → ¬ (bl.getD j 0 = t ∧ f ≠ t)) := by unfold Hid; rw [hl1]; exact HN.out
      clear HN
      go_wp2_with fail
      go_loopw [12] (fun v wq => ∃ k : Nat, k ≤ n2 ∧ v = .int .i64 k ∧ Hid (wq = w) ∧ Hid (∀ j, j < k → ¬ (p + 1 < (oth.getD j []).length ∧ ((oth.getD j []).getD (p + 1) 0 = t ∨ ((oth.getD j []).getD (p + 1) 0 = f ∧ (oth.getD j []).getD p 0 = t))))) (fun v _ => n2 - (intOf v).toNat)
      case atStart => exact ⟨0, Nat.zero_le _, rfl, hwr, fun j hj => absurd hj (Nat.not_lt_zero _)⟩
      case round =>
        obtain ⟨k, hk, rfl, hwq, HN⟩ := hrel
        clear hwr
        by_cases hlt : k < n2
        · obtain ⟨b, off, rfl, hb, hcs⟩ := HC2.out (by omega)
          obtain ⟨aq, nq, cq, hcell, hq⟩ := hcs k hlt
          have HMO := Lib.hid (may_oth (bl := bl) (oth := oth) (p := p) (f := f) (t := t) (j := k) (by omega))
          clear hcs
          rw [← hwq.out] at hcell hq
          generalize hqs : oth.getD k [] = qs at hq HMO
          have HQ := Lib.hid hqs
          clear hqs
          have hlq := hq.1
          have hcq := hq.2.1
          have hmq := hq.2.2.1
          unfold maxLen at hmq
          have HSTEP : Hid (¬ (p + 1 < qs.length ∧ (qs.getD (p + 1) 0 = t ∨ (qs.getD (p + 1) 0 = f ∧ qs.getD p 0 = t))) → ∀ j, j < k + 1 → ¬ (p + 1 < (oth.getD j []).length ∧ ((oth.getD j []).getD (p + 1) 0 = t ∨ ((oth.getD j []).getD (p + 1) 0 = f ∧ (oth.getD j []).getD p 0 = t)))) := fun hn j hj => by
            by_cases e : j = k
            · subst e; rw [HQ.out]; exact hn
            · exact HN.out j (by omega)
          clear HN
          by_cases g0 : p + 1 < nq
          · have e0 : decide ((p : Int) + 1 < (nq : Int)) = true := by rw [decide_eq_true_eq]; omega
            obtain ⟨bq, oq, rfl, hbq, hcc⟩ := hq.cells (by omega)
            have hq0 := hcc p (by omega)
            have hq1 := hcc (p + 1) (by omega)
            have HMO2 := Lib.hid (HMO.out (by omega))
            clear hq hcc HMO
            generalize qs.getD p 0 = x0 at hq0 HMO2 HSTEP
            generalize qs.getD (p + 1) 0 = x1 at hq1 HMO2 HSTEP
            by_cases g1 : x1 = t
            · have e1 : (x1 == t) = true := by simpa using g1
              have HY := Lib.hid (decide_eq_false (HMO2.out (.inl g1)))
              clear g1
              go_wp2_with fail
              go_ret
              exact ⟨ret_bool HY.out.symm, hwq.out⟩
            · have e1 : (x1 == t) = false := by simpa using g1
              by_cases g2 : x1 = f
              · have e2 : (x1 == f) = true := by simpa using g2
                by_cases g3 : x0 = t
                · have e3 : (x0 == t) = true := by simpa using g3
                  have HY := Lib.hid (decide_eq_false (HMO2.out (.inr ⟨g2, g3⟩)))
                  clear g1 g2 g3
                  go_wp2_with fail
                  go_ret
                  exact ⟨ret_bool HY.out.symm, hwq.out⟩
                · have e3 : (x0 == t) = false := by simpa using g3
                  have HS := Lib.hid (HSTEP.out (by rintro ⟨_, h | h⟩; exact g1 h; exact g3 h.2))
                  clear g1 g2 g3
                  go_wp2_with fail
                  go_roundw
                  case rel => exact ⟨k + 1, by omega, by go_num, hwq, HS.out⟩
                  case measure => simp [intOf]; omega
              · have e2 : (x1 == f) = false := by simpa using g2
                have HS := Lib.hid (HSTEP.out (by rintro ⟨_, h | h⟩; exact g1 h; exact g2 h.1))
                clear g1 g2
                go_wp2_with fail
                go_roundw
                case rel => exact ⟨k + 1, by omega, by go_num, hwq, HS.out⟩
                case measure => simp [intOf]; omega
          · have e0 : decide ((p : Int) + 1 < (nq : Int)) = false := by rw [decide_eq_false_iff_not]; omega
            have HS := Lib.hid (HSTEP.out (by rintro ⟨h, _⟩; omega))
            clear hq
            go_wp2_with fail
            go_roundw
            case rel => exact ⟨k + 1, by omega, by go_num, hwq, HS.out⟩
            case measure => simp [intOf]; omega
        · obtain rfl : k = n2 := by omega
          have HY := Lib.hid (decide_eq_true (may_cut HBL.out (by rw [hl2]; exact HN.out)))
          go_wp2_with fail
          go_ret
          exact ⟨ret_bool HY.out.symm, hwq.out⟩
end Go.Proofs.Ytiejinphofkjaaa.Vm
