/- The contracts of grid.isLetter, grid.isSide and the document's letter. -/
import Derived.Test.YtacigmjdppoonaaChecked
import Derived.Test.YtacigmjdppoonaaGridMath
import Derived.Test.YtacigmjdppoonaaStrs
import Derived.Test.YtacigmjdppoonaaWords
import Derived.Lib.Hide
namespace Go.Proofs.Ytacigmjdppoonaa.Vm
open Go.RowKit

theorem letter_case {x : Nat} (h : letterS x = true) : x = 46 ∨ x = 35 ∨ x = 83 ∨ x = 67 ∨ x = 62 ∨ x = 60 ∨ x = 94 ∨ x = 118 := by
  unfold letterS at h
  simp only [Bool.or_eq_true, beq_iff_eq] at h
  omega
theorem letter_none {x : Nat} (h : letterS x = false) : x ≠ 46 ∧ x ≠ 35 ∧ x ≠ 83 ∧ x ≠ 67 ∧ x ≠ 62 ∧ x ≠ 60 ∧ x ≠ 94 ∧ x ≠ 118 := by
  unfold letterS at h
  simp only [Bool.or_eq_false_iff, beq_eq_false_iff_ne] at h
  omega
theorem letterS_lt {x : Nat} (h : letterS x = true) : x < 128 := by have := letter_case h; omega
theorem letter_big {x : Nat} (h : 128 ≤ x) : letterS x = false := by
  cases hc : letterS x
  · rfl
  · have := letter_case hc; omega


def sideB (n : Int) : Bool := decide (1 ≤ n ∧ n ≤ 256)

/-- The letters, in the document's order. -/
def lettersA : ByteArray := ⟨#[46, 35, 83, 67, 62, 60, 94, 118]⟩
theorem letterS_at {x : Nat} (k : Nat) (hk : k < 8) (h : x = (lettersA[k]'hk).toNat) : letterS x = true := by
  subst h
  match k, hk with
  | 0, _ => rfl
  | 1, _ => rfl
  | 2, _ => rfl
  | 3, _ => rfl
  | 4, _ => rfl
  | 5, _ => rfl
  | 6, _ => rfl
  | 7, _ => rfl
theorem letterS_not {x : Nat} (h : ∀ i (hi : i < 8), (lettersA[i]'hi).toNat ≠ x) : letterS x = false := by
  cases hc : letterS x
  · rfl
  · exfalso
    rcases letter_case hc with rfl | rfl | rfl | rfl | rfl | rfl | rfl | rfl
    · exact h 0 (by omega) rfl
    · exact h 1 (by omega) rfl
    · exact h 2 (by omega) rfl
    · exact h 3 (by omega) rfl
    · exact h 4 (by omega) rfl
    · exact h 5 (by omega) rfl
    · exact h 6 (by omega) rfl
    · exact h 7 (by omega) rfl

theorem letter_more {x k : Nat} (hlt : k < 8) (h : ∀ i (hi : i < 8), i < k → (lettersA[i]'hi).toNat ≠ x) (hx : ¬ (lettersA[k]'hlt).toNat = x) : ∀ i (hi : i < 8), i < k + 1 → (lettersA[i]'hi).toNat ≠ x := by
  intro i hi h2
  by_cases h3 : i < k
  · exact h i hi h3
  · obtain rfl : i = k := by omega
    exact hx

set_option maxRecDepth 100000 in
set_option maxHeartbeats 400000 in
theorem rletter_any (x : Nat) (w : World) : Calls Try.prog 34 #[.int .u8 (x : Nat)] w fun e w' => e = .returned (.bool (letterS x)) ∧ w = w' := by
  go_enter Try.func34, Try.ntmps34
  go_wp2
  go_loop [4] (fun i => ∃ k : Nat, k ≤ 8 ∧ i = .int .i64 k ∧ Hid (∀ i (hi : i < 8), i < k → (lettersA[i]'hi).toNat ≠ x)) (fun i => 8 - (intOf i).toNat)
  case atStart => exact ⟨0, by omega, rfl, fun i _ h => absurd h (by omega)⟩
  case round =>
    obtain ⟨k, hk, rfl, HN⟩ := hrel
    by_cases hlt : k < 8
    · by_cases hx : (lettersA[k]'hlt).toNat = x
      · have HX := Lib.hid hx
        clear hx
        have e1 : (((({ data := #[46, 35, 83, 67, 62, 60, 94, 118] } : ByteArray)[k]'hlt).toNat : Int) == (x : Int)) = true := by simp only [beq_iff_eq]; exact congrArg Int.ofNat HX.out
        go_wp2
        go_ret
        exact ⟨ret_bool (letterS_at k hlt HX.out.symm).symm, rfl⟩
      · have HX := Lib.hid hx
        clear hx
        have e1 : (((({ data := #[46, 35, 83, 67, 62, 60, 94, 118] } : ByteArray)[k]'hlt).toNat : Int) == (x : Int)) = false := by rw [beq_eq_false_iff_ne]; exact fun h => HX.out (Int.ofNat.inj h)
        go_wp2
        go_round
        case rel => exact ⟨k + 1, by omega, by go_num, letter_more hlt HN.out HX.out⟩
        case measure => simp [intOf]; omega
    · go_wp2
      go_ret
      exact ⟨ret_bool (letterS_not fun i hi => HN.out i hi (by omega)).symm, rfl⟩
end Go.Proofs.Ytacigmjdppoonaa.Vm
