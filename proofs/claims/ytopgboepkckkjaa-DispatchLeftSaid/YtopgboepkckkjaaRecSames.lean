/- The contracts of state.areSame, of slices.Equal at tasks and at ints: are two lists one? -/
import Derived.Test.YtopgboepkckkjaaStMath
import Derived.Test.YtopgboepkckkjaaWords
import Derived.Test.YtopgboepkckkjaaIntsZ
import Derived.Laws.StructEq
import Derived.Deep.QuietTactic
import Derived.BigQuiet
namespace Go.Proofs.Ytopgboepkckkjaa.Vm
open Go Go.RowKit

instance : DecidableEq Rec := fun x y =>
  if h : x.a = y.a ∧ x.b = y.b ∧ x.c = y.c ∧ x.d = y.d ∧ x.e = y.e then .isTrue (Rec.same h.1 h.2.1 h.2.2.1 h.2.2.2.1 h.2.2.2.2)
  else .isFalse (fun e => h (by subst e; exact ⟨rfl, rfl, rfl, rfl, rfl⟩))
theorem rec_eq {x y : Rec} (h : x = y) : (x.a == y.a) = true ∧ (x.b == y.b) = true ∧ (x.c == y.c) = true ∧ (x.d == y.d) = true ∧ (x.e == y.e) = true := by
  subst h; simp
theorem rec_ne {x y : Rec} (h : x ≠ y) : (x.a == y.a) = false ∨ ((x.a == y.a) = true ∧ (x.b == y.b) = false) ∨ ((x.a == y.a) = true ∧ (x.b == y.b) = true ∧ (x.c == y.c) = false) ∨
    ((x.a == y.a) = true ∧ (x.b == y.b) = true ∧ (x.c == y.c) = true ∧ (x.d == y.d) = false) ∨ ((x.a == y.a) = true ∧ (x.b == y.b) = true ∧ (x.c == y.c) = true ∧ (x.d == y.d) = true ∧ (x.e == y.e) = false) := by
  have hh : ¬ (x.a = y.a ∧ x.b = y.b ∧ x.c = y.c ∧ x.d = y.d ∧ x.e = y.e) := fun e => h (Rec.same e.1 e.2.1 e.2.2.1 e.2.2.2.1 e.2.2.2.2)
  simp only [beq_eq_false_iff_ne, beq_iff_eq]
  by_cases h1 : x.a = y.a
  · by_cases h2 : x.b = y.b
    · by_cases h3 : x.c = y.c
      · by_cases h4 : x.d = y.d
        · exact .inr (.inr (.inr (.inr ⟨h1, h2, h3, h4, fun h5 => hh ⟨h1, h2, h3, h4, h5⟩⟩)))
        · exact .inr (.inr (.inr (.inl ⟨h1, h2, h3, h4⟩)))
      · exact .inr (.inr (.inl ⟨h1, h2, h3⟩))
    · exact .inr (.inl ⟨h1, h2⟩)
  · exact .inl h1
/-- Equal as far as k. -/
theorem take_moreR {xs ys : List Rec} {k n : Nat} (hx : xs.length = n) (hy : ys.length = n) (hk : k < n) (h : xs.take k = ys.take k) (he : xs.getD k zr = ys.getD k zr) : xs.take (k + 1) = ys.take (k + 1) := by
  rw [List.take_succ_eq_append_getElem (by omega), List.take_succ_eq_append_getElem (by omega), h]
  simp only [List.getD, List.getElem?_eq_getElem (show k < xs.length by omega), List.getElem?_eq_getElem (show k < ys.length by omega), Option.getD_some] at he
  rw [he]
theorem ne_atR {xs ys : List Rec} {k : Nat} (he : xs.getD k zr ≠ ys.getD k zr) : xs ≠ ys := fun h => he (by rw [h])



end Go.Proofs.Ytopgboepkckkjaa.Vm
