/- Slices of slices of ints that come in; the contracts of layer 9's document functions goes and Lists, and of its law's light. -/
import Derived.Test.YtacigmjdppoonaaPlanMath
import Derived.Test.YtacigmjdppoonaaIntsZ
import Derived.Test.YtacigmjdppoonaaWords
import Derived.Deep.LoopGhost
namespace Go.Proofs.Ytacigmjdppoonaa.Vm
open Go Go.RowKit

/-- A slice of slices of ints. -/
def RowL (w : World) (B : Nat) (a : Option Addr) (n c : Nat) (ls : List (List Int)) : Prop :=
  ls.length = n ∧ n ≤ c ∧ c ≤ maxLen ∧ (0 < n → ∃ b off, a = some ⟨b, off, none⟩ ∧ b < B ∧ ∀ i, i < n → ∃ ai ni ci, w.cell? ⟨b, off + i, none⟩ = some (.slice ai ni ci) ∧ RowZ .i64 w B ai ni ci (ls.getD i []))
section
variable {w w' : World} {B B' n c : Nat} {a : Option Addr} {ls : List (List Int)}
theorem RowL.below (h : RowL w B a n c ls) (hb : Below B w w') : RowL w' B a n c ls := by
  obtain ⟨h1, h2, h3, h4⟩ := h
  refine ⟨h1, h2, h3, fun hn => ?_⟩
  obtain ⟨b, off, e, hB, hc⟩ := h4 hn
  refine ⟨b, off, e, hB, fun i hi => ?_⟩
  obtain ⟨ai, ni, ci, h5, h6⟩ := hc i hi
  exact ⟨ai, ni, ci, (hb.cell (p := ⟨b, off + i, none⟩) hB).trans h5, h6.below hb⟩
theorem RowL.mono (h : RowL w B a n c ls) (hB : B ≤ B') : RowL w B' a n c ls := by
  obtain ⟨h1, h2, h3, h4⟩ := h
  refine ⟨h1, h2, h3, fun hn => ?_⟩
  obtain ⟨b, off, e, hb, hc⟩ := h4 hn
  refine ⟨b, off, e, by omega, fun i hi => ?_⟩
  obtain ⟨ai, ni, ci, h5, h6⟩ := hc i hi
  exact ⟨ai, ni, ci, h5, h6.mono hB⟩
theorem RowL.cells (h : RowL w B a n c ls) (hn : 0 < n) : ∃ b off, a = some ⟨b, off, none⟩ ∧ b < B ∧ ∀ i, i < n → ∃ ai ni ci, w.cell? ⟨b, off + i, none⟩ = some (.slice ai ni ci) ∧ RowZ .i64 w B ai ni ci (ls.getD i []) := h.2.2.2 hn
/-- All but the first k. -/
theorem RowL.drop (h : RowL w B a n c ls) {k : Nat} (hk : k ≤ n) (hkc : k < c) : ∃ a', (∀ b off, a = some ⟨b, off, none⟩ → a' = some ⟨b, off + k, none⟩) ∧ RowL w B a' (n - k) (c - k) (ls.drop k) := by
  obtain ⟨h1, h2, h3, h4⟩ := h
  rcases Nat.eq_zero_or_pos n with h0 | h0
  · refine ⟨a.map fun p => ⟨p.block, p.off + k, none⟩, fun b off e => by rw [e]; rfl, by simp [h1], by omega, by omega, fun hn => by omega⟩
  · obtain ⟨b, off, rfl, hb, hc⟩ := h4 h0
    refine ⟨some ⟨b, off + k, none⟩, fun b' off' e => by injection e with e; injection e with e1 e2 _; subst e1 e2; rfl, by simp [h1], by omega, by omega, fun hn => ⟨b, off + k, rfl, hb, fun i hi => ?_⟩⟩
    obtain ⟨ai, ni, ci, h5, h6⟩ := hc (k + i) (by omega)
    refine ⟨ai, ni, ci, by rw [Nat.add_assoc]; exact h5, ?_⟩
    have e : (ls.drop k).getD i [] = ls.getD (k + i) [] := by simp [List.getD, List.getElem?_drop]
    rw [e]
    exact h6
theorem rowL_nil (w : World) (B : Nat) : RowL w B none 0 0 [] := ⟨rfl, Nat.le_refl _, by simp [maxLen], fun h => absurd h (by omega)⟩
end

theorem may_cut {bl : List Int} {oth : List (List Int)} {p : Nat} {f t : Int} (h1 : ∀ j, j < bl.length → ¬ (bl.getD j 0 = t ∧ f ≠ t))
    (h2 : ∀ j, j < oth.length → ¬ (p + 1 < (oth.getD j []).length ∧ ((oth.getD j []).getD (p + 1) 0 = t ∨ ((oth.getD j []).getD (p + 1) 0 = f ∧ (oth.getD j []).getD p 0 = t)))) : MayP bl oth p f t := by
  refine ⟨fun hm => ?_, fun q hq hl => ?_⟩
  · obtain ⟨j, hj, e⟩ := List.getElem_of_mem hm
    have := h1 j hj
    simp only [List.getD, List.getElem?_eq_getElem hj, Option.getD_some, e] at this
    exact Classical.byContradiction fun hne => this ⟨trivial, hne⟩
  · obtain ⟨j, hj, e⟩ := List.getElem_of_mem hq
    have := h2 j hj
    have e' : oth.getD j [] = q := by simp [List.getD, hj, e]
    rw [e'] at this
    exact ⟨fun h => this ⟨hl, .inl h⟩, fun h => this ⟨hl, .inr h⟩⟩
theorem may_bl {bl : List Int} {oth : List (List Int)} {p j : Nat} {f t : Int} (hj : j < bl.length) (h : bl.getD j 0 = t ∧ f ≠ t) : ¬ MayP bl oth p f t := fun hm => h.2 (hm.1 (by rw [← h.1]; simp [List.getD, hj]))
theorem may_oth {bl : List Int} {oth : List (List Int)} {p j : Nat} {f t : Int} (hj : j < oth.length) (h1 : p + 1 < (oth.getD j []).length) (h2 : (oth.getD j []).getD (p + 1) 0 = t ∨ ((oth.getD j []).getD (p + 1) 0 = f ∧ (oth.getD j []).getD p 0 = t)) : ¬ MayP bl oth p f t := fun hm => by
  have := hm.2 (oth.getD j []) (by simp [List.getD, hj]) h1
  rcases h2 with h | h
  · exact this.1 h
  · exact this.2 h

end Go.Proofs.Ytacigmjdppoonaa.Vm
