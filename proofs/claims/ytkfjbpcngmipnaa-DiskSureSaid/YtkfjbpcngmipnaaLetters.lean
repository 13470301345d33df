/- The contracts of grid.isLetter, grid.isSide and the document's letter. -/
import Derived.Test.YtkfjbpcngmipnaaChecked
import Derived.Test.YtkfjbpcngmipnaaGridMath
import Derived.Test.YtkfjbpcngmipnaaStrs
import Derived.Test.YtkfjbpcngmipnaaWords
import Derived.Lib.Hide
namespace Go.Proofs.Ytkfjbpcngmipnaa.Vm
open Go.RowKit

theorem letter_case {x : Nat} (h : letterS x = true) : x = 46 ∨ x = 35 ∨ x = 83 ∨ x = 67 ∨ x = 62 ∨ x = 60 ∨ x = 94 ∨ x = 118 := by
  unfold letterS at h
  simp only [Bool.or_eq_true, beq_iff_eq] at h
  omega
theorem letter_none {x : Nat} (h : letterS x = false) : x ≠ 46 ∧ x ≠ 35 ∧ x ≠ 83 ∧ x ≠ 67 ∧ x ≠ 62 ∧ x ≠ 60 ∧ x ≠ 94 ∧ x ≠ 118 := by
  unfold letterS at h
  simp only [Bool.or_eq_false_iff, beq_eq_false_iff_ne] at h
  omega
theorem letterS_lt {x : Nat} (h : letterS x = true) : x < 128 := by have := letter_case h; omega
theorem letter_big {x : Nat} (h : 128 ≤ x) : letterS x = false := by
  cases hc : letterS x
  · rfl
  · have := letter_case hc; omega


def sideB (n : Int) : Bool := decide (1 ≤ n ∧ n ≤ 256)

/-- The letters, in the document's order. -/
def lettersA : ByteArray := ⟨#[46, 35, 83, 67, 62, 60, 94, 118]⟩
theorem letterS_at {x : Nat} (k : Nat) (hk : k < 8) (h : x = (lettersA[k]'hk).toNat) : letterS x = true := by
  subst h
  match k, hk with
  | 0, _ => rfl
  | 1, _ => rfl
  | 2, _ => rfl
  | 3, _ => rfl
  | 4, _ => rfl
  | 5, _ => rfl
  | 6, _ => rfl
  | 7, _ => rfl
theorem letterS_not {x : Nat} (h : ∀ i (hi : i < 8), (lettersA[i]'hi).toNat ≠ x) : letterS x = false := by
  cases hc : letterS x
  · rfl
  · exfalso
    rcases letter_case hc with rfl | rfl | rfl | rfl | rfl | rfl | rfl | rfl
    · exact h 0 (by omega) rfl
    · exact h 1 (by omega) rfl
    · exact h 2 (by omega) rfl
    · exact h 3 (by omega) rfl
    · exact h 4 (by omega) rfl
    · exact h 5 (by omega) rfl
    · exact h 6 (by omega) rfl
    · exact h 7 (by omega) rfl

theorem letter_more {x k : Nat} (hlt : k < 8) (h : ∀ i (hi : i < 8), i < k → (lettersA[i]'hi).toNat ≠ x) (hx : ¬ (lettersA[k]'hlt).toNat = x) : ∀ i (hi : i < 8), i < k + 1 → (lettersA[i]'hi).toNat ≠ x := by
  intro i hi h2
  by_cases h3 : i < k
  · exact h i hi h3
  · obtain rfl : i = k := by omega
    exact hx

end Go.Proofs.Ytkfjbpcngmipnaa.Vm
