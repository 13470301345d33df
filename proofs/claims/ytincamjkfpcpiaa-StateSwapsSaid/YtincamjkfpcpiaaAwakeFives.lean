/- The plain mathematics of the states of tuggerlaw05.awake. -/
import Derived.Test.YtincamjkfpcpiaaStRights
import Derived.Test.YtincamjkfpcpiaaStNews
import Derived.Test.YtincamjkfpcpiaaStSames
import Derived.Test.YtincamjkfpcpiaaStGoals
namespace Go.Proofs.Ytincamjkfpcpiaa.Vm
open Go Go.RowKit

abbrev mapB : ByteArray := ⟨#[46, 46, 67]⟩
theorem mapB_okay : Okay 3 1 mapB := Okay.of (by decide +kernel)
theorem floorB (k : Nat) (h : k < 3) : floorS (bytesOf mapB) (k : Int) = true := by
  have : ∀ k : Fin 3, floorS (bytesOf mapB) (k.val : Int) = true := by decide +kernel
  exact this ⟨k, h⟩
theorem newB1 : newE (floorS (bytesOf mapB)) [0, 2] = 0 := by decide +kernel
theorem newB2 : newE (floorS (bytesOf mapB)) [0, 0] = 6 := by decide +kernel
def rB : List Rec := [⟨0, 0, 0, 1000, 0⟩, ⟨2, 0, 0, 1000, 0⟩]
def rB1 : List Rec := [⟨0, 1, 7, 1000, 0⟩, ⟨2, 0, 0, 1000, 0⟩]
def tB : List Rec := [⟨7, 1, 2, 2, 0⟩]
theorem newSB : newS (floorS (bytesOf mapB)) [0, 2] = ⟨0, rB, [], []⟩ := by unfold newS; rw [if_pos newB1]; rfl
theorem findB0 : findS tB 7 = 0 := by decide +kernel
theorem findB1 (r : Int) : findS [] r = -1 := findS_no (by simp)
theorem rightB0 : rightB (floorS (bytesOf mapB)) ⟨0, rB, [], []⟩ = true := by
  have := new_right newB1
  rw [newSB] at this
  exact yes_true this
theorem restB1 : ∀ i, i < rB1.length → RestP (floorS (bytesOf mapB)) rB1 i := by
  intro i hi
  have hi2 : i < 2 := hi
  match i, hi2 with
  | 0, _ => exact ⟨floorB 0 (by omega), fun k hk => absurd hk (Nat.not_lt_zero _), by decide, by decide⟩
  | 1, _ => exact ⟨floorB 2 (by omega), fun k hk => by (have hk0 : k = 0 := by omega); subst hk0; decide, by decide, by decide⟩
theorem rightB1 : rightB (floorS (bytesOf mapB)) ⟨0, rB1, [], []⟩ = false := yes_false fun h => by
  have h1 := h.mode 0 (by decide)
  have h2 : ModeP [] ⟨0, 1, 7, 1000, 0⟩ 0 := h1
  unfold ModeP OwnP at h2
  simp at h2
theorem rightB2 : rightB (floorS (bytesOf mapB)) ⟨0, rB1, tB, []⟩ = true := yes_true
  { tick := by simp
    rn := by decide
    tn := by decide
    rest := restB1
    job := fun i hi => by
      have hi1 : i < 1 := hi
      obtain rfl : i = 0 := by omega
      exact ⟨by decide, fun k hk => absurd hk (Nat.not_lt_zero _), by decide, floorB 1 (by omega), floorB 2 (by omega)⟩
    shut := fun i hi => absurd hi (Nat.not_lt_zero _)
    role := fun i hi => by
      have hi1 : i < 1 := hi
      obtain rfl : i = 0 := by omega
      exact .inr (.inl ⟨by decide, by decide, rfl⟩)
    mode := fun i hi => by
      have hi2 : i < 2 := hi
      match i, hi2 with
      | 0, _ => exact .inr (.inl ⟨rfl, 0, by decide, findB0, rfl, rfl⟩)
      | 1, _ => exact .inl ⟨.inl rfl, rfl⟩ }
theorem goalB (W H : Int) (l : List Nat) : goalG W H l ⟨0, rB1, tB, []⟩ 0 = (1, true) := by
  have h1 := goal_in (W := W) (H := H) (l := l) (s := ⟨0, rB1, tB, []⟩) (k := 0) (r := ⟨0, 1, 7, 1000, 0⟩) (by decide) rfl
  rw [if_neg (by decide), if_pos (by decide)] at h1
  refine h1.trans ?_
  unfold errandS
  rw [show findS tB (⟨0, 1, 7, 1000, 0⟩ : Rec).c = 0 from findB0, if_neg (by decide), if_pos rfl]
  rfl
theorem sameB1 (s : St) : sameSt s s = true := yes_true ⟨rfl, rfl, rfl, rfl⟩
theorem sameB2 : sameSt ⟨0, rB, [], []⟩ ⟨0, rB1, tB, []⟩ = false := yes_false fun h => by
  have h1 : ([] : List Rec) = tB := h.2.2.1
  cases h1
end Go.Proofs.Ytincamjkfpcpiaa.Vm
