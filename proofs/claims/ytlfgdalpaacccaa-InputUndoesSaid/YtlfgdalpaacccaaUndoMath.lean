/- The mathematics of what is undone. No program is named here. -/
import Derived.Test.YtlfgdalpaacccaaInMath
namespace Go.Proofs.Ytlfgdalpaacccaa.Vm
open Go Go.RowKit

section
variable {fl : Int → Bool} {s : St} {a : Int}
theorem code5 (b c : Int) : codeS fl s ⟨5, a, b, c⟩ = codeB fl s ⟨5, a, b, c⟩ := by
  unfold codeS; rw [if_neg (by simp), if_neg (by simp), if_neg (by simp), if_neg (by simp), if_pos rfl]
theorem code6 (b c : Int) : codeS fl s ⟨6, a, b, c⟩ = codeC fl s ⟨6, a, b, c⟩ := by
  unfold codeS; rw [if_neg (by simp), if_neg (by simp), if_neg (by simp), if_neg (by simp), if_neg (by simp), if_pos rfl]
theorem code2 (b c : Int) : codeS fl s ⟨2, a, b, c⟩ = codeF s ⟨2, a, b, c⟩ := by
  unfold codeS; rw [if_neg (by simp), if_pos rfl]
theorem code3 (b c : Int) : codeS fl s ⟨3, a, b, c⟩ = codeR s ⟨3, a, b, c⟩ := by
  unfold codeS; rw [if_neg (by simp), if_neg (by simp), if_pos rfl]
theorem turn5 (b c : Int) : turnS s ⟨5, a, b, c⟩ = turnB s ⟨5, a, b, c⟩ := by
  unfold turnS; rw [if_neg (by simp), if_neg (by simp), if_neg (by simp), if_neg (by simp), if_pos rfl]
theorem turn6 (b c : Int) : turnS s ⟨6, a, b, c⟩ = turnC s ⟨6, a, b, c⟩ := by
  unfold turnS; rw [if_neg (by simp), if_neg (by simp), if_neg (by simp), if_neg (by simp), if_neg (by simp)]
theorem turn2 (b c : Int) : turnS s ⟨2, a, b, c⟩ = turnF s ⟨2, a, b, c⟩ := by
  unfold turnS; rw [if_neg (by simp), if_pos rfl]
theorem turn3 (b c : Int) : turnS s ⟨3, a, b, c⟩ = turnR s ⟨3, a, b, c⟩ := by
  unfold turnS; rw [if_neg (by simp), if_neg (by simp), if_pos rfl]

/-- What was blocked is cleared. -/
theorem undo_block (h : RightP fl s) (he : codeS fl s ⟨5, a, 0, 0⟩ = 0) : codeS fl (applyS fl s ⟨5, a, 0, 0⟩) ⟨6, a, 0, 0⟩ = 0 ∧ applyS fl (applyS fl s ⟨5, a, 0, 0⟩) ⟨6, a, 0, 0⟩ = s := by
  have h1 : applyS fl s ⟨5, a, 0, 0⟩ = turnB s ⟨5, a, 0, 0⟩ := by unfold applyS; rw [if_pos he, turn5]
  rw [code5] at he
  obtain ⟨hf, hn⟩ := codeB_zero he
  simp only [] at hf hn
  have hc : codeS fl (turnB s ⟨5, a, 0, 0⟩) ⟨6, a, 0, 0⟩ = 0 := by
    rw [code6]
    unfold codeC
    rw [if_neg (by rw [hf]; simp)]
    exact if_pos ((mem_ins s.bl).2 (.inl rfl))
  rw [h1]
  refine ⟨hc, ?_⟩
  unfold applyS
  rw [if_pos hc, turn6]
  unfold turnC turnB
  simp only []
  rw [del_ins (up_right h).pairs hn]
/-- Who failed and is repaired. -/
theorem undo_fault_err (hh : codeS fl s ⟨2, a, 0, 0⟩ ≠ 0) : codeS fl s ⟨2, a, 0, 0⟩ = 5 ∨ codeS fl s ⟨2, a, 0, 0⟩ = 10 := by
  rw [code2] at hh ⊢
  by_cases hr : IsR s a
  · rw [codeF_yes hr] at hh ⊢
    split
    · exact .inr rfl
    · next h => rw [if_neg h] at hh; exact absurd rfl hh
  · exact .inl (codeF_no hr)
theorem undo_fault (h : RightP fl s) (hh : codeS fl s ⟨2, a, 0, 0⟩ = 0) :
    codeS fl (applyS fl s ⟨2, a, 0, 0⟩) ⟨3, a, 0, 0⟩ = 0 ∧ IsR s a ∧ (applyS fl (applyS fl s ⟨2, a, 0, 0⟩) ⟨3, a, 0, 0⟩).rs.length = s.rs.length ∧
    ((s.rs.getD a.toNat zr).b = 2 → ((applyS fl (applyS fl s ⟨2, a, 0, 0⟩) ⟨3, a, 0, 0⟩).rs.getD a.toNat zr).b = 2) ∧
    ((s.rs.getD a.toNat zr).b ≠ 2 → ((applyS fl (applyS fl s ⟨2, a, 0, 0⟩) ⟨3, a, 0, 0⟩).rs.getD a.toNat zr).b = 0) := by
  have h1 : applyS fl s ⟨2, a, 0, 0⟩ = turnF s ⟨2, a, 0, 0⟩ := by unfold applyS; rw [if_pos hh, turn2]
  rw [code2] at hh
  obtain ⟨hr, hb⟩ := codeF_zero hh
  simp only [] at hr hb
  have hi := isR_nat hr
  have hr1 : IsR (turnF s ⟨2, a, 0, 0⟩) a := by
    unfold IsR at hr ⊢
    unfold turnF
    simp only [List.length_set]
    exact hr
  have hat : (turnF s ⟨2, a, 0, 0⟩).rs.getD a.toNat zr = faultR (s.rs.getD a.toNat zr) := by
    unfold turnF
    exact set_at hi _
  have hc : codeS fl (turnF s ⟨2, a, 0, 0⟩) ⟨3, a, 0, 0⟩ = 0 := by
    rw [code3, codeR_yes hr1]
    simp only []
    rw [hat]
    rfl
  rw [h1]
  have h2 : applyS fl (turnF s ⟨2, a, 0, 0⟩) ⟨3, a, 0, 0⟩ = turnR (turnF s ⟨2, a, 0, 0⟩) ⟨3, a, 0, 0⟩ := by unfold applyS; rw [if_pos hc, turn3]
  have hi1 := isR_nat hr1
  have hat2 : (turnR (turnF s ⟨2, a, 0, 0⟩) ⟨3, a, 0, 0⟩).rs.getD a.toNat zr = repairR (faultR (s.rs.getD a.toNat zr)) := by
    unfold turnR
    simp only []
    rw [set_at hi1, hat]
  have hm := h.mode _ hi
  rw [h2, hat2]
  refine ⟨hc, hr, by unfold turnR turnF; simp, fun h3 => ?_, fun h3 => ?_⟩
  · unfold ModeP at hm
    have hpos : 1 ≤ (s.rs.getD a.toNat zr).c := by
      rcases hm with ⟨h4, _⟩ | ⟨h4, _⟩ | ⟨_, h4⟩ | ⟨h4, _⟩
      · omega
      · omega
      · exact h4.id_pos h
      · omega
    unfold repairR faultR
    simp only []
    rw [if_neg (show ¬ (s.rs.getD a.toNat zr).b = 1 by omega), if_neg (by omega)]
  · unfold ModeP at hm
    unfold repairR faultR
    simp only []
    rcases hm with ⟨h4, h5⟩ | ⟨h4, _⟩ | ⟨h4, _⟩ | ⟨h4, _⟩
    · rw [h5]; simp
    · rw [h4]; simp
    · exact absurd h4 h3
    · exact absurd h4 hb
end
end Go.Proofs.Ytlfgdalpaacccaa.Vm
