/- The mathematics of what inputs keep. No program is named here. -/
import Derived.Test.YtlfgdalpaacccaaInMath
namespace Go.Proofs.Ytlfgdalpaacccaa.Vm
open Go Go.RowKit

/-- What an input keeps of a state. -/
structure Keeps (s s' : St) : Prop where
  tick : s'.tick = s.tick
  rn : s'.rs.length = s.rs.length
  tn : s.ts.length ≤ s'.ts.length
  rob : ∀ k, k < s.rs.length → (s'.rs.getD k zr).a = (s.rs.getD k zr).a ∧ (s'.rs.getD k zr).d = (s.rs.getD k zr).d
  job : ∀ k, k < s.ts.length → ((s'.ts.getD k zr).a = (s.ts.getD k zr).a ∧ (s'.ts.getD k zr).b = (s.ts.getD k zr).b ∧ (s'.ts.getD k zr).c = (s.ts.getD k zr).c) ∧
    ((s'.ts.getD k zr).d = (s.ts.getD k zr).d ∨ (s.ts.getD k zr).d = 2 ∧ (s'.ts.getD k zr).d = 1)
theorem Keeps.refl (s : St) : Keeps s s := ⟨rfl, rfl, Nat.le_refl _, fun _ _ => ⟨rfl, rfl⟩, fun _ _ => ⟨⟨rfl, rfl, rfl⟩, .inl rfl⟩⟩
theorem Keeps.same {s : St} {bl : List Int} : Keeps s ⟨s.tick, s.rs, s.ts, bl⟩ := ⟨rfl, rfl, Nat.le_refl _, fun _ _ => ⟨rfl, rfl⟩, fun _ _ => ⟨⟨rfl, rfl, rfl⟩, .inl rfl⟩⟩
theorem Keeps.set {s : St} {i : Nat} {r : Rec} {bl : List Int} (ha : r.a = (s.rs.getD i zr).a) (hd : r.d = (s.rs.getD i zr).d) : Keeps s ⟨s.tick, s.rs.set i r, s.ts, bl⟩ :=
  ⟨rfl, by simp, Nat.le_refl _, fun k hk => by
    by_cases e : k = i
    · subst e
      show ((s.rs.set k r).getD k zr).a = _ ∧ ((s.rs.set k r).getD k zr).d = _
      rw [set_at hk]
      exact ⟨ha, hd⟩
    · show ((s.rs.set i r).getD k zr).a = _ ∧ ((s.rs.set i r).getD k zr).d = _
      rw [set_off e]
      exact ⟨rfl, rfl⟩, fun _ _ => ⟨⟨rfl, rfl, rfl⟩, .inl rfl⟩⟩
theorem Keeps.tasks {s s' : St} (h : Keeps s ⟨s'.tick, s'.rs, s.ts, s'.bl⟩) (hn : s.ts.length ≤ s'.ts.length) (hj : ∀ k, k < s.ts.length → ((s'.ts.getD k zr).a = (s.ts.getD k zr).a ∧ (s'.ts.getD k zr).b = (s.ts.getD k zr).b ∧ (s'.ts.getD k zr).c = (s.ts.getD k zr).c) ∧
    ((s'.ts.getD k zr).d = (s.ts.getD k zr).d ∨ (s.ts.getD k zr).d = 2 ∧ (s'.ts.getD k zr).d = 1)) : Keeps s s' := ⟨h.tick, h.rn, hn, h.rob, hj⟩
theorem turn_keeps {fl : Int → Bool} {s : St} {x : Inp} (h : RightP fl s) (hc : codeS fl s x = 0) : Keeps s (turnS s x) := by
  unfold codeS at hc
  unfold turnS
  by_cases h1 : x.k = 1
  · rw [if_pos h1] at hc ⊢
    exact Keeps.tasks (s' := turnO s x) (Keeps.refl s) (by unfold turnO; simp) fun k hk => by
      show (((s.ts ++ [(⟨x.a, x.b, x.c, 1, -1⟩ : Rec)]).getD k zr).a = _ ∧ ((s.ts ++ [(⟨x.a, x.b, x.c, 1, -1⟩ : Rec)]).getD k zr).b = _ ∧ ((s.ts ++ [(⟨x.a, x.b, x.c, 1, -1⟩ : Rec)]).getD k zr).c = _) ∧ (((s.ts ++ [(⟨x.a, x.b, x.c, 1, -1⟩ : Rec)]).getD k zr).d = _ ∨ _)
      rw [getD_app_lt hk]
      exact ⟨⟨rfl, rfl, rfl⟩, .inl rfl⟩
  rw [if_neg h1] at hc ⊢
  by_cases h2 : x.k = 2
  · rw [if_pos h2] at hc ⊢
    obtain ⟨hr, hb⟩ := codeF_zero hc
    have hi := isR_nat hr
    have hbase : Keeps s ⟨s.tick, s.rs.set x.a.toNat (faultR (s.rs.getD x.a.toNat zr)), s.ts, s.bl⟩ := Keeps.set rfl rfl
    unfold turnF
    by_cases hm : (s.rs.getD x.a.toNat zr).b = 1
    · rw [if_pos hm]
      refine Keeps.tasks (s' := ⟨s.tick, s.rs.set x.a.toNat (faultR (s.rs.getD x.a.toNat zr)), freeT s.ts (s.rs.getD x.a.toNat zr).c, s.bl⟩) hbase (by simp only []; rw [freeT_len]; exact Nat.le_refl _) fun k hk => ⟨freeT_at _ _ k, ?_⟩
      have hmo := h.mode _ hi
      unfold ModeP at hmo
      have hown : OwnP s.ts (s.rs.getD x.a.toNat zr).c x.a.toNat 2 := by
        rcases hmo with ⟨h4, _⟩ | ⟨_, h4⟩ | ⟨h4, _⟩ | ⟨h4, _⟩
        · omega
        · exact h4
        · omega
        · omega
      obtain ⟨m, hm1, hm2, hm3, _⟩ := hown
      show ((freeT s.ts (s.rs.getD x.a.toNat zr).c).getD k zr).d = _ ∨ _ ∧ ((freeT s.ts (s.rs.getD x.a.toNat zr).c).getD k zr).d = 1
      unfold freeT
      rw [hm2, if_neg (by omega), Int.toNat_natCast]
      by_cases e : k = m
      · subst e
        rw [set_at hm1]
        exact .inr ⟨hm3, rfl⟩
      · rw [set_off e]
        exact .inl rfl
    · rw [if_neg hm]; exact hbase
  rw [if_neg h2] at hc ⊢
  by_cases h3 : x.k = 3
  · rw [if_pos h3]; exact Keeps.set rfl rfl
  rw [if_neg h3] at hc ⊢
  by_cases h4 : x.k = 4
  · rw [if_pos h4]; exact Keeps.set rfl rfl
  rw [if_neg h4]
  by_cases h5 : x.k = 5
  · rw [if_pos h5]; exact Keeps.same
  rw [if_neg h5]; exact Keeps.same
theorem apply_keeps {fl : Int → Bool} {s : St} {x : Inp} (h : RightP fl s) : Keeps s (applyS fl s x) := by
  unfold applyS
  split
  · next hc => exact turn_keeps h hc
  · exact Keeps.refl s
theorem apply_err {fl : Int → Bool} {s : St} {x : Inp} (h : codeS fl s x ≠ 0) : applyS fl s x = s := by unfold applyS; rw [if_neg h]
end Go.Proofs.Ytlfgdalpaacccaa.Vm
