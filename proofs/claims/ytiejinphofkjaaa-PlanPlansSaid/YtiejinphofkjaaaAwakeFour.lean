/- The contracts of tuggerlaw04.awake and .light. -/
import Derived.Test.YtiejinphofkjaaaAwakeMath
import Derived.Test.YtiejinphofkjaaaRefFars
namespace Go.Proofs.Ytiejinphofkjaaa.Vm
open Go Go.RowKit

theorem rowZ_nil (k : IntKind) (w : World) (B : Nat) : RowZ k w B none 0 0 [] := ⟨rfl, Nat.le_refl _, by simp [maxLen], fun h => absurd h (by omega)⟩
theorem rowZ_lit (w : World) (zs : List Int) (t : TypeId) (hz : zs.length ≤ 1000) (cs : Array Value) (hc : cs = ⟨zs.map (Value.int .i64)⟩) : RowZ .i64 (w.alloc (.cells cs t)) (w.heap.size + 1) (some ⟨w.heap.size, 0, none⟩) zs.length zs.length zs := by
  subst hc
  refine ⟨rfl, Nat.le_refl _, by unfold maxLen; omega, fun _ => ⟨_, 0, rfl, Nat.lt_succ_self _, fun i hi => ?_⟩⟩
  rw [Nat.zero_add, cell_of_row (w.alloc (.cells ⟨zs.map (Value.int .i64)⟩ t)) w.heap.size i ⟨zs.map (Value.int .i64)⟩ t (0, 0) (heap_alloc_new w _)]
  simp [List.getD, hi]

theorem sizeA : mapA.size = 8 := rfl
theorem fieldA1_any (w : World) : Calls Try.prog 48 #[gridV 4 2 mapA, .int .i64 2, .slice none 0 0] w fun e w' => ∃ lb, e = .returned (.tuple #[.slice (some ⟨lb, 0, none⟩) 8 8, .int .i64 0]) ∧ NumsZ w' w.heap.size lb l1A ∧ Below w.heap.size w w' :=
  (field_yes 4 2 2 mapA [] none 0 0 0 w mapA_okay (floorA 2 (by omega) (by omega)) (rowZ_nil _ _ _) (Nat.zero_le _) (by simp) (by omega)).mono fun e w' ⟨lb, l, he, hl, hn, hb⟩ => by
    obtain rfl := hl.only fieldA1
    exact ⟨lb, he, hn, hb⟩
theorem fieldA2_any (w : World) (a : Option Addr) (B : Nat) (hr : RowZ .i64 w B a 1 1 [1]) (hB : B ≤ w.heap.size) : Calls Try.prog 48 #[gridV 4 2 mapA, .int .i64 2, .slice a 1 1] w fun e w' => ∃ lb, e = .returned (.tuple #[.slice (some ⟨lb, 0, none⟩) 8 8, .int .i64 0]) ∧ NumsZ w' w.heap.size lb l2A ∧ Below w.heap.size w w' :=
  (field_yes 4 2 2 mapA [1] a 1 1 B w mapA_okay (floorA 2 (by omega) (by omega)) hr hB (by intro z hz; simp at hz; subst hz; decide) (by omega)).mono fun e w' ⟨lb, l, he, hl, hn, hb⟩ => by
    obtain rfl := hl.only fieldA2
    exact ⟨lb, he, hn, hb⟩
theorem nearA_any (w : World) (a : Option Addr) (B : Nat) (hr : RowZ .i64 w B a 4 4 [7, 2, 3, 5]) (hB : B ≤ w.heap.size) : Calls Try.prog 53 #[gridV 4 2 mapA, .int .i64 0, .slice a 4 4, .slice none 0 0] w fun e w' => e = .returned (.tuple #[.int .i64 2, .int .i64 2]) ∧ Below w.heap.size w w' :=
  (nearest_yes 4 2 0 mapA [] [7, 2, 3, 5] none a 0 0 4 4 B w mapA_okay (floorA 0 (by omega) (by omega)) (rowZ_nil _ _ _) hr hB (by simp) (by intro z hz; simp at hz; rcases hz with rfl | rfl | rfl | rfl <;> decide) (by omega) (by omega)).mono fun e w' ⟨he, hb⟩ => by
    refine ⟨?_, hb⟩
    have hn : nearG 4 2 (bytesOf mapA) [] [7, 2, 3, 5] (0 : Nat) = (2, 2) := nearA
    rw [hn] at he
    exact he


/-- May these be gone through? -/
def lightS (n a b : Nat) : Bool := decide (n ≤ 100 ∧ a ≤ 20 ∧ b ≤ 20)
theorem lightS_in {n a b : Nat} (h : lightS n a b = true) : n ≤ 100 ∧ a ≤ 20 ∧ b ≤ 20 := of_decide_eq_true h
end Go.Proofs.Ytiejinphofkjaaa.Vm
