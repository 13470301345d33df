/- The plain mathematics of distances: none is as great as the number of the cells. No program is named here. -/
import Derived.Test.YtiejinphofkjaaaLeadMath
namespace Go.Proofs.Ytiejinphofkjaaa.Vm

theorem pigeon {N n : Nat} (f : Nat → Nat) (hf : ∀ m, m ≤ n → f m < N) (hi : ∀ i j, i < j → j ≤ n → f i ≠ f j) : n < N := by
  have key : ∀ m, m ≤ n + 1 → ∃ l : List Bool, l.length = N ∧ seenN l = m ∧ ∀ c, l.getD c false = true → ∃ k, k < m ∧ f k = c := by
    intro m
    induction m with
    | zero => intro _; exact ⟨List.replicate N false, by simp, seenN_none N, fun c hc => by
        simp [List.getD, List.getElem?_replicate] at hc
        split at hc <;> simp at hc⟩
    | succ m ih =>
      intro hm
      obtain ⟨l, h1, h2, h3⟩ := ih (by omega)
      have hfm := hf m (by omega)
      have hno : l.getD (f m) false = false := by
        cases hb : l.getD (f m) false with
        | false => rfl
        | true =>
          obtain ⟨k, hk, hk2⟩ := h3 _ hb
          exact absurd hk2 (hi k m hk (by omega))
      refine ⟨l.set (f m) true, by simpa using h1, by rw [seenN_set _ _ (by omega) hno, h2], fun c hc => ?_⟩
      by_cases hc2 : c = f m
      · exact ⟨m, by omega, hc2.symm⟩
      · rw [getD_set_ne hc2] at hc
        obtain ⟨k, hk, hk2⟩ := h3 c hc
        exact ⟨k, by omega, hk2⟩
  obtain ⟨l, h1, h2, _⟩ := key (n + 1) (Nat.le_refl _)
  have := seenN_le l
  omega

theorem FarS.downs {S : Nat → List Nat} {to : Nat} : ∀ {n c : Nat}, FarS S to c n → ∀ m, m ≤ n → ∃ x, FarS S to x m := by
  intro n
  induction n with
  | zero => intro c h m hm; obtain rfl : m = 0 := by omega
            exact ⟨c, h⟩
  | succ n ih =>
    intro c h m hm
    by_cases he : m = n + 1
    · subst he; exact ⟨c, h⟩
    · obtain ⟨x, _, hx⟩ := h.step
      exact ih hx m (by omega)
theorem FarS.lt {S : Nat → List Nat} {to c n N : Nat} (h : FarS S to c n) (hS : ∀ b c, b ∈ S c → c < N) (hto : to < N) : n < N := by
  have hd := h.downs
  refine pigeon (fun m => if hm : m ≤ n then (hd m hm).choose else 0) (fun m hm => ?_) (fun i j hij hj => ?_)
  · simp only [hm, dif_pos]
    have h2 := (hd m hm).choose_spec
    generalize (hd m hm).choose = x at h2
    cases m with
    | zero => have : x = to := far_zero.1 h2; omega
    | succ m => obtain ⟨y, hy, _⟩ := h2.step; exact hS y x hy
  · have hi : i ≤ n := by omega
    simp only [hi, hj, dif_pos]
    intro e
    have h1 := (hd i hi).choose_spec
    have h2 := (hd j hj).choose_spec
    rw [e] at h1
    have := h1.only h2
    omega
theorem farG_lt {W H : Int} {l : List Nat} {bl : List Int} {a b : Int} : farG W H l bl a b ≤ (l.length : Int) := by
  unfold farG
  split
  · rename_i h
    rcases farI_case (stepsS W H l bl) b.toNat a.toNat with ⟨n, h1, h2⟩ | ⟨h1, _⟩
    · rw [h1]
      have hb := floorS_in h.2
      have := h2.lt (N := l.length) (fun b c hb => step_from hb) (by omega)
      omega
    · omega
  · omega
end Go.Proofs.Ytiejinphofkjaaa.Vm
