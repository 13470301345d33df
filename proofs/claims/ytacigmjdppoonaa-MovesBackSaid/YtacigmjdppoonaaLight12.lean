/- The contract of layer 12's light. -/
import Derived.Test.YtacigmjdppoonaaIntRows
import Derived.Test.YtacigmjdppoonaaRights
import Derived.Test.YtacigmjdppoonaaGoes
import Derived.Test.YtacigmjdppoonaaStWords
import Derived.Deep.LoopGhost
namespace Go.Proofs.Ytacigmjdppoonaa.Vm
open Go Go.RowKit
set_option maxRecDepth 100000

set_option maxHeartbeats 1000000 in
theorem light12_any (W H : Int) (s : ByteArray) (a : Option Addr) (n c B : Nat) (ls : List (List Int)) (w : World) (h : RowL w B a n c ls) (hB : B ≤ w.heap.size) (hs : s.size ≤ maxLen) :
    Calls Try.prog 7 #[gridV W H s, .slice a n c] w fun e w' => ∃ b, e = .returned (.bool b) ∧ (b = true → s.size ≤ 400 ∧ n ≤ 30 ∧ (∀ q ∈ ls, q.length ≤ 60) ∧ Okay W H s) ∧ Below w.heap.size w w' := by
  have HCS := Lib.hid (fun h' => h.cells h')
  have hl := h.1
  have hm := h.2.1
  have hx := h.2.2.1
  unfold maxLen at hx hs
  have hb0 : Below w.heap.size w (w.alloc (gridO W H s)) := (Below.refl _ _).alloc (Nat.le_refl _) _
  obtain ⟨w1, hw1⟩ : ∃ w1, w1 = w.alloc (gridO W H s) := ⟨_, rfl⟩
  have hg1 : GridAt w1 w.heap.size W H s := by rw [hw1]; exact gridAt_new w W H s
  have hz1 : w1.heap.size = w.heap.size + 1 := by rw [hw1]; simp
  rw [← hw1] at hb0
  have HB0 := Lib.hid hb0
  have HW1 := Lib.hid hw1
  have HRR := Lib.hid fun V => rright_any W H s V hs
  have HOKA : Hid (rightS W H (bytesOf s) = true → Okay W H s) := fun h => Okay.of h
  have HGR := Lib.hid hg1
  have HZ1 := Lib.hid hz1
  clear hb0 hw1 h hg1 hz1
  go_enter Try.func7, Try.ntmps7
  go_wp2_with fail
  rw [← HW1.out]
  go_loopw [5] (fun v wr => ∃ k : Nat, k ≤ n ∧ k ≤ 40 ∧ v = .int .i64 k ∧ Hid (wr = w1) ∧ Hid (∀ j, j < k → (ls.getD j []).length ≤ 60)) (fun v _ => n - (intOf v).toNat)
  case atStart => exact ⟨0, Nat.zero_le _, by omega, rfl, rfl, fun j hj => absurd hj (Nat.not_lt_zero _)⟩
  case round =>
    obtain ⟨k, hk, hk40, rfl, hwr, HQ⟩ := hrel
    obtain ⟨V, hV⟩ : ∃ V, V = wr := ⟨_, rfl⟩
    rw [← hV] at hwr ⊢
    clear hV
    have HGV : Hid (GridAt V w.heap.size W H s) := by unfold Hid; rw [hwr.out]; exact HGR.out
    have HBV : Hid (Below w.heap.size w V) := by unfold Hid; rw [hwr.out]; exact HB0.out
    obtain ⟨g0, g1, g2⟩ := HGV.out
    by_cases hlt : k < n
    · have e1 : decide ((k : Int) < (n : Int)) = true := by rw [decide_eq_true_eq]; omega
      by_cases h40 : k < 40
      · have e2 : decide ((k : Int) < 40) = true := by rw [decide_eq_true_eq]; omega
        obtain ⟨b, off, rfl, hb, hcs⟩ := HCS.out (by omega)
        obtain ⟨x, m, y, hc, hz⟩ := hcs k hlt
        have hc : V.cell? ⟨b, off + k, none⟩ = some (.slice x m y) := (HBV.out.cell (p := ⟨b, off + k, none⟩) (show b < w.heap.size by omega)).trans hc
        have HZ := Lib.hid hz.1
        have hy := hz.2.1
        have hyx := hz.2.2.1
        unfold maxLen at hyx
        clear hcs hz
        by_cases h60 : 60 < m
        · have e3 : decide ((m : Int) > 60) = true := by rw [decide_eq_true_eq]; omega
          go_wp2_with fail
          go_ret
          exact ⟨false, rfl, fun h => (by cases h), HBV.out⟩
        · have e3 : decide ((m : Int) > 60) = false := by rw [decide_eq_false_iff_not]; omega
          go_wp2_with fail
          go_roundw
          case rel => exact ⟨k + 1, by omega, by omega, by go_num, hwr, fun j hj => by
            by_cases e : j = k
            · subst e; rw [HZ.out]; omega
            · exact HQ.out j (by omega)⟩
          case measure => simp [intOf]; omega
      · have e2 : decide ((k : Int) < 40) = false := by rw [decide_eq_false_iff_not]; omega
        have e4 : decide ((n : Int) ≤ 30) = false := by rw [decide_eq_false_iff_not]; omega
        by_cases h400 : s.size ≤ 400
        · have e5 : decide ((s.size : Int) ≤ 400) = true := by rw [decide_eq_true_eq]; omega
          go_wp2_with fail
          go_ret
          exact ⟨false, rfl, fun h => (by cases h), HBV.out⟩
        · have e5 : decide ((s.size : Int) ≤ 400) = false := by rw [decide_eq_false_iff_not]; omega
          go_wp2_with fail
          go_ret
          exact ⟨false, rfl, fun h => (by cases h), HBV.out⟩
    · obtain rfl : k = n := by omega
      have e1 : decide ((k : Int) < (k : Int)) = false := by rw [decide_eq_false_iff_not]; omega
      have HALL : Hid (∀ q ∈ ls, q.length ≤ 60) := fun q hq => by
        obtain ⟨j, hj, e⟩ := List.getElem_of_mem hq
        have := HQ.out j (by omega)
        simp only [List.getD, List.getElem?_eq_getElem hj, Option.getD_some, e] at this
        exact this
      by_cases h400 : s.size ≤ 400
      · have e5 : decide ((s.size : Int) ≤ 400) = true := by rw [decide_eq_true_eq]; omega
        by_cases h30 : k ≤ 30
        · have e4 : decide ((k : Int) ≤ 30) = true := by rw [decide_eq_true_eq]; omega
          have H400 := Lib.hid h400
          have HC := Lib.hid (HRR.out V)
          generalize rightS W H (bytesOf s) = R at HC HOKA
          go_wp2_with fail
          refine HC.out.mono ?_
          rintro e w2 ⟨rfl, hb2⟩
          have HB2 := Lib.hid (HBV.out.trans (hb2.mono HBV.out.size))
          clear hb2 g0 g1 g2
          cases R <;>
          · go_wp2_with fail
            go_ret
            exact ⟨_, rfl, fun h => ⟨H400.out, by omega, HALL.out, HOKA.out (by first | exact h | trivial | cases h)⟩, HB2.out⟩
        · have e4 : decide ((k : Int) ≤ 30) = false := by rw [decide_eq_false_iff_not]; omega
          go_wp2_with fail
          go_ret
          exact ⟨false, rfl, fun h => (by cases h), HBV.out⟩
      · have e5 : decide ((s.size : Int) ≤ 400) = false := by rw [decide_eq_false_iff_not]; omega
        go_wp2_with fail
        go_ret
        exact ⟨false, rfl, fun h => (by cases h), HBV.out⟩
end Go.Proofs.Ytacigmjdppoonaa.Vm
