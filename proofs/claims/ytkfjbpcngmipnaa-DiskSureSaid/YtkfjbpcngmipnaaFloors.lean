/- The contracts of both Floors, of grid.lets and grid.lastOfRow. -/
import Derived.Test.YtkfjbpcngmipnaaLetters
import Derived.Test.YtkfjbpcngmipnaaOwns
import Derived.Deep.QuietTactic
import Derived.BigQuiet
namespace Go.Proofs.Ytkfjbpcngmipnaa.Vm
open Go.RowKit

/-- A grid, as a value. -/
abbrev gridV (W H : Int) (s : ByteArray) : Value := .agg #[.int .i64 W, .int .i64 H, .string s]

theorem bcell {W w1 : World} (hb : Below W.heap.size W w1) : (∀ b o, b < W.heap.size → w1.cell? ⟨b, o, none⟩ = W.cell? ⟨b, o, none⟩) ∧ (∀ b o, b < W.heap.size → w1.frozen? ⟨b, o, none⟩ = W.frozen? ⟨b, o, none⟩) :=
  ⟨fun b o h => hb.cell (p := ⟨b, o, none⟩) h, fun b o h => hb.frozen (p := ⟨b, o, none⟩) h⟩

theorem floorS_neg {l : List Nat} {c : Int} (h : c < 0) : floorS l c = false := by unfold floorS; rw [decide_eq_false (by omega)]; rfl
theorem floorS_big {l : List Nat} {c : Int} (h : (l.length : Int) ≤ c) : floorS l c = false := by unfold floorS; rw [decide_eq_false (by omega)]; rfl
theorem floorS_at {s : ByteArray} {k : Nat} (h : k < s.size) : floorS (bytesOf s) (k : Int) = ((s[k]'h).toNat != 35) := by
  unfold floorS
  rw [decide_eq_true (by rw [bytesOf_len]; omega), Int.toNat_natCast, bytesOf_at s k h]; rfl
theorem floorS_in {l : List Nat} {c : Int} (h : floorS l c = true) : 0 ≤ c ∧ c < (l.length : Int) := by
  unfold floorS at h
  rw [Bool.and_eq_true, decide_eq_true_eq] at h
  exact h.1



/-- May a cell of that letter be left that way? -/
def letsB (x : Nat) (way : Int) : Bool := decide (way = 0 ∨ ¬ Barred x way)

theorem letsB_mk {x : Nat} {way : Int} {b : Bool} (h : (way = 0 ∨ ¬ Barred x way) ↔ b = true) : b = letsB x way := by
  unfold letsB
  cases b
  · exact (decide_eq_false (fun h2 => by simpa using h.1 h2)).symm
  · exact (decide_eq_true (h.2 rfl)).symm


end Go.Proofs.Ytkfjbpcngmipnaa.Vm
