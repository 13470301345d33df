/- The plain mathematics of a map that is printed letter by letter. No program is named here. -/
import Derived.Test.YteibhacpghobpaaMeasMath
namespace Go.Proofs.Yteibhacpghobpaa.Vm

/-- What is printed of the first k cells. -/
def printK (W : Nat) (l : List Nat) : Nat → List Nat
  | 0 => []
  | k + 1 => printK W l k ++ [l.getD k 0] ++ (if k % W = W - 1 then [10] else [])
theorem printK_len (W : Nat) (l : List Nat) (k : Nat) : (printK W l k).length ≤ 2 * k := by
  induction k with
  | zero => simp [printK]
  | succ k ih =>
    rw [printK, List.length_append, List.length_append]
    by_cases h : k % W = W - 1
    · rw [if_pos h]; simp; omega
    · rw [if_neg h]; simp; omega
theorem printF_succ (W y : Nat) (l : List Nat) : printF W (y + 1) l = printF W y l ++ (l.drop (y * W)).take W ++ [10] := by
  unfold printF
  rw [List.range_succ, List.flatMap_append]
  simp
theorem printK_row {W y : Nat} {l : List Nat} (hW : 0 < W) (h0 : printK W l (y * W) = printF W y l) : ∀ x, x < W → y * W + x ≤ l.length → printK W l (y * W + x) = printF W y l ++ (l.drop (y * W)).take x := by
  intro x
  induction x with
  | zero => intro _ _; simp [h0]
  | succ x ih =>
    intro hx hl
    rw [← Nat.add_assoc, printK, ih (by omega) (by omega)]
    have hm : (y * W + x) % W = x := by rw [Nat.add_comm, Nat.add_mul_mod_self_right, Nat.mod_eq_of_lt (by omega)]
    rw [hm, if_neg (by omega), List.append_nil, List.append_assoc]
    congr 1
    rw [take_at (by rw [List.length_drop]; omega)]
    congr 1
    simp [List.getD]
theorem printK_eq {W : Nat} {l : List Nat} (hW : 0 < W) : ∀ y, y * W ≤ l.length → printK W l (y * W) = printF W y l := by
  intro y
  induction y with
  | zero => intro _; simp [printK, printF]
  | succ y ih =>
    intro hl
    rw [Nat.add_mul, Nat.one_mul] at hl ⊢
    have h1 := printK_row hW (ih (by omega)) (W - 1) (by omega) (by omega)
    obtain ⟨v, rfl⟩ : ∃ v, W = v + 1 := ⟨W - 1, by omega⟩
    rw [Nat.add_sub_cancel] at h1
    rw [show y * (v + 1) + (v + 1) = (y * (v + 1) + v) + 1 by omega, printK, h1, printF_succ]
    have hm : (y * (v + 1) + v) % (v + 1) = v := by rw [Nat.add_comm, Nat.add_mul_mod_self_right, Nat.mod_eq_of_lt (by omega)]
    rw [hm, if_pos (by omega), take_at (by rw [List.length_drop]; omega)]
    simp [List.getD]
theorem printK_all {W H : Nat} {l : List Nat} (hW : 0 < W) (hl : l.length = W * H) : printK W l l.length = printF W H l := by
  rw [hl, Nat.mul_comm]
  exact printK_eq hW H (by rw [hl, Nat.mul_comm]; exact Nat.le_refl _)
end Go.Proofs.Yteibhacpghobpaa.Vm
