/- The contract of the document's Size. -/
import Derived.Test.YtgeonmojadkbjaaRowss
import Derived.Test.YtgeonmojadkbjaaBackMath
namespace Go.Proofs.Ytgeonmojadkbjaa.Vm
open Go.RowKit

set_option maxRecDepth 100000 in
set_option maxHeartbeats 400000 in
theorem size_any (a : Option Addr) (n c B : Nat) (ls : List (List Nat)) (w : World) (h : Rows w B a n c ls) (hl : ∀ l ∈ ls, l.length ≤ 140737488355328) :
    Calls Try.prog 15 #[.slice a n c] w fun e w' => (∃ z : Nat, e = .returned (.int .i64 z) ∧ (z ≤ 3000 → tot ls = z)) ∧ w = w' := by
  have hm := h.2.2.1
  have hnc := h.2.1
  unfold maxLen at hm
  have HL := Lib.hid h.1
  have HZ := Lib.hid hl
  clear hl
  go_enter Try.func15, Try.ntmps15
  go_wp2
  go_loop [3, 4] (fun v i => ∃ k z : Nat, k ≤ n ∧ z ≤ 140737488500000 ∧ i = .int .i64 k ∧ v = .int .i64 z ∧ Hid (z = tot (ls.take k))) (fun _ i => n - (intOf i).toNat)
  case atStart => exact ⟨0, 0, Nat.zero_le _, by omega, rfl, rfl, by unfold Hid; simp [tot]⟩
  case round =>
    obtain ⟨k, z, hk, hz, rfl, rfl, HD⟩ := hrel
    by_cases hlt : k < n
    · have e1 : decide ((k : Int) < (n : Int)) = true := by simp; omega
      by_cases hz1 : z < 100000
      · have e2 : decide ((z : Int) < 100000) = true := by simp; omega
        obtain ⟨b, off, rfl, hb, hcs⟩ := h.cells (by omega)
        obtain ⟨a', c', hcell, _⟩ := hcs k hlt
        clear hcs
        have hx : (ls.getD k []).length ≤ 140737488355328 := HZ.out _ (by have := HL.out; simp [List.getD, show k < ls.length by omega])
        have HN := Lib.hid (tot_snoc ls k (by have := HL.out; omega))
        generalize (ls.getD k []).length = x at hcell hx HN
        go_wp2
        go_round
        case rel => exact ⟨k + 1, z + (x + 8), by omega, by omega, by go_num, by go_num, by unfold Hid; rw [HN.out, ← HD.out]⟩
        case measure => simp [intOf]; omega
      · have e2 : decide ((z : Int) < 100000) = false := by simp; omega
        go_wp2
        go_ret
        exact ⟨⟨z, rfl, fun h => by omega⟩, rfl⟩
    · have e1 : decide ((k : Int) < (n : Int)) = false := by simp; omega
      go_wp2
      go_ret
      have hkn : k = n := by omega
      exact ⟨⟨z, rfl, fun _ => by have := HD.out; rw [List.take_of_length_le (by rw [HL.out]; omega)] at this; exact this.symm⟩, rfl⟩
end Go.Proofs.Ytgeonmojadkbjaa.Vm
