/- The contracts of grid.isLetter, grid.isSide and the document's letter. The contracts of both Floors, of grid.lets and grid.lastOfRow. -/
import Derived.Test.YtplnaaokapilpaaDoorChecked
import Derived.Test.YtplnaaokapilpaaDoorGridMath
import Derived.Test.YtplnaaokapilpaaDoorStrs
import Derived.Test.YtplnaaokapilpaaDoorWords
import Derived.Test.YtplnaaokapilpaaDoorOwns
import Derived.Lib.Hide
import Derived.Deep.QuietTactic
import Derived.BigQuiet
namespace Go.Proofs.YtplnaaokapilpaaDoor.Vm
open Go.RowKit

theorem letter_case {x : Nat} (h : letterS x = true) : x = 46 ∨ x = 35 ∨ x = 83 ∨ x = 67 ∨ x = 62 ∨ x = 60 ∨ x = 94 ∨ x = 118 := by
  unfold letterS at h
  simp only [Bool.or_eq_true, beq_iff_eq] at h
  omega
theorem letter_none {x : Nat} (h : letterS x = false) : x ≠ 46 ∧ x ≠ 35 ∧ x ≠ 83 ∧ x ≠ 67 ∧ x ≠ 62 ∧ x ≠ 60 ∧ x ≠ 94 ∧ x ≠ 118 := by
  unfold letterS at h
  simp only [Bool.or_eq_false_iff, beq_eq_false_iff_ne] at h
  omega
theorem letterS_lt {x : Nat} (h : letterS x = true) : x < 128 := by have := letter_case h; omega
theorem letter_big {x : Nat} (h : 128 ≤ x) : letterS x = false := by
  cases hc : letterS x
  · rfl
  · have := letter_case hc; omega


def sideB (n : Int) : Bool := decide (1 ≤ n ∧ n ≤ 256)

/-- The letters, in the document's order. -/
def lettersA : ByteArray := ⟨#[46, 35, 83, 67, 62, 60, 94, 118]⟩
theorem letterS_at {x : Nat} (k : Nat) (hk : k < 8) (h : x = (lettersA[k]'hk).toNat) : letterS x = true := by
  subst h
  match k, hk with
  | 0, _ => rfl
  | 1, _ => rfl
  | 2, _ => rfl
  | 3, _ => rfl
  | 4, _ => rfl
  | 5, _ => rfl
  | 6, _ => rfl
  | 7, _ => rfl
theorem letterS_not {x : Nat} (h : ∀ i (hi : i < 8), (lettersA[i]'hi).toNat ≠ x) : letterS x = false := by
  cases hc : letterS x
  · rfl
  · exfalso
    rcases letter_case hc with rfl | rfl | rfl | rfl | rfl | rfl | rfl | rfl
    · exact h 0 (by omega) rfl
    · exact h 1 (by omega) rfl
    · exact h 2 (by omega) rfl
    · exact h 3 (by omega) rfl
    · exact h 4 (by omega) rfl
    · exact h 5 (by omega) rfl
    · exact h 6 (by omega) rfl
    · exact h 7 (by omega) rfl

theorem letter_more {x k : Nat} (hlt : k < 8) (h : ∀ i (hi : i < 8), i < k → (lettersA[i]'hi).toNat ≠ x) (hx : ¬ (lettersA[k]'hlt).toNat = x) : ∀ i (hi : i < 8), i < k + 1 → (lettersA[i]'hi).toNat ≠ x := by
  intro i hi h2
  by_cases h3 : i < k
  · exact h i hi h3
  · obtain rfl : i = k := by omega
    exact hx

end Go.Proofs.YtplnaaokapilpaaDoor.Vm

namespace Go.Proofs.YtplnaaokapilpaaDoor.Vm
open Go.RowKit

/-- A grid, as a value. -/
abbrev gridV (W H : Int) (s : ByteArray) : Value := .agg #[.int .i64 W, .int .i64 H, .string s]

theorem bcell {W w1 : World} (hb : Below W.heap.size W w1) : (∀ b o, b < W.heap.size → w1.cell? ⟨b, o, none⟩ = W.cell? ⟨b, o, none⟩) ∧ (∀ b o, b < W.heap.size → w1.frozen? ⟨b, o, none⟩ = W.frozen? ⟨b, o, none⟩) :=
  ⟨fun b o h => hb.cell (p := ⟨b, o, none⟩) h, fun b o h => hb.frozen (p := ⟨b, o, none⟩) h⟩

theorem floorS_neg {l : List Nat} {c : Int} (h : c < 0) : floorS l c = false := by unfold floorS; rw [decide_eq_false (by omega)]; rfl
theorem floorS_big {l : List Nat} {c : Int} (h : (l.length : Int) ≤ c) : floorS l c = false := by unfold floorS; rw [decide_eq_false (by omega)]; rfl
theorem floorS_at {s : ByteArray} {k : Nat} (h : k < s.size) : floorS (bytesOf s) (k : Int) = ((s[k]'h).toNat != 35) := by
  unfold floorS
  rw [decide_eq_true (by rw [bytesOf_len]; omega), Int.toNat_natCast, bytesOf_at s k h]; rfl
theorem floorS_in {l : List Nat} {c : Int} (h : floorS l c = true) : 0 ≤ c ∧ c < (l.length : Int) := by
  unfold floorS at h
  rw [Bool.and_eq_true, decide_eq_true_eq] at h
  exact h.1



/-- May a cell of that letter be left that way? -/
def letsB (x : Nat) (way : Int) : Bool := decide (way = 0 ∨ ¬ Barred x way)

theorem letsB_mk {x : Nat} {way : Int} {b : Bool} (h : (way = 0 ∨ ¬ Barred x way) ↔ b = true) : b = letsB x way := by
  unfold letsB
  cases b
  · exact (decide_eq_false (fun h2 => by simpa using h.1 h2)).symm
  · exact (decide_eq_true (h.2 rfl)).symm


end Go.Proofs.YtplnaaokapilpaaDoor.Vm
