/- Files by their names, as a function, and what is done to them. No function of the program is named here. -/
import Derived.Test.YtkfjbpcngmipnaaDiskMath
import Derived.Sort.KeysCollected
namespace Go.Proofs.Ytkfjbpcngmipnaa.Vm
open Go

/-- The file of a name. -/
def lookF (F : List FileS) (y : ByteArray) : Option FileS := F.find? fun f => decide (f.name = y)
section
variable {F : List FileS} {n y : ByteArray} {f g : FileS} {i : Nat}
theorem lookF_mem (h : lookF F y = some f) : f ∈ F ∧ f.name = y := ⟨List.mem_of_find?_eq_some h, by simpa using List.find?_some h⟩
theorem lookF_none : lookF F y = none ↔ ∀ g ∈ F, g.name ≠ y := by
  unfold lookF
  rw [List.find?_eq_none]
  simp
theorem atS_cons_eq (h : f.name = n) : atS (f :: F) n = 0 := by simp [atS, List.findIdx_cons, h]
theorem atS_cons_ne (h : f.name ≠ n) : atS (f :: F) n = atS F n + 1 := by simp [atS, List.findIdx_cons, h]
theorem lookF_cons : lookF (f :: F) y = if f.name = y then some f else lookF F y := by
  unfold lookF
  rw [List.find?_cons]
  by_cases h : f.name = y <;> simp [h]
theorem lookF_at : ∀ {F : List FileS}, atS F n < F.length → lookF F n = some (F.getD (atS F n) zfile)
  | [], h => by simp at h
  | f :: F, h => by
    rw [lookF_cons]
    by_cases e : f.name = n
    · rw [if_pos e, atS_cons_eq e]; rfl
    · rw [if_neg e, atS_cons_ne e] at *
      rw [lookF_at (by simpa using h)]
      simp
theorem lookF_off (h : ¬ atS F n < F.length) : lookF F n = none := lookF_none.2 (atS_none h)
theorem lookF_some (h : atS F n < F.length) : (lookF F n).isSome = true := by rw [lookF_at h]; rfl
theorem lookF_is : (lookF F n).isSome = decide (atS F n < F.length) := by
  by_cases h : atS F n < F.length
  · rw [lookF_some h]; exact (decide_eq_true h).symm
  · rw [lookF_off h]; exact (decide_eq_false h).symm
theorem lookF_set : ∀ {F : List FileS}, atS F n < F.length → g.name = n → lookF (F.set (atS F n) g) y = if y = n then some g else lookF F y
  | [], h, _ => by simp at h
  | f :: F, h, hg => by
    by_cases e : f.name = n
    · rw [atS_cons_eq e, List.set_cons_zero, lookF_cons, lookF_cons, hg, e]
      by_cases ey : y = n
      · simp [ey]
      · simp [ey, Ne.symm ey]
    · rw [atS_cons_ne e] at h ⊢
      rw [List.set_cons_succ, lookF_cons, lookF_cons, lookF_set (by simpa using h) hg]
      by_cases ey : y = n
      · subst ey; simp [e]
      · simp [ey]
theorem lookF_in (hn : ∀ g ∈ F, g.name ≠ f.name) : lookF (inS F f) y = if y = f.name then some f else lookF F y := by
  have h := congrArg (fun l : List FileS => l.find? fun g => decide (g.name = y)) (List.takeWhile_append_dropWhile (p := fun g : FileS => !nlt f.name g.name) (l := F))
  unfold lookF inS
  simp only [List.find?_append, List.find?_cons] at h ⊢
  by_cases e : y = f.name
  · have ht : (F.takeWhile fun g => !nlt f.name g.name).find? (fun g => decide (g.name = y)) = none := by
      rw [List.find?_eq_none]
      intro g hg
      have := hn g ((List.takeWhile_sublist _).subset hg)
      rw [e]
      simpa using this
    rw [ht, if_pos e]
    simp [e]
  · rw [if_neg e, ← h]
    simp [Ne.symm e]
theorem lookF_erase : ∀ {F : List FileS}, Asc F → lookF (F.eraseIdx (atS F n)) y = if y = n then none else lookF F y
  | [], _ => by simp [lookF]
  | f :: F, hA => by
    by_cases e : f.name = n
    · rw [atS_cons_eq e, List.eraseIdx_cons_zero, lookF_cons, e]
      by_cases ey : y = n
      · rw [if_pos ey, lookF_none]
        intro g hg hgn
        have := (List.pairwise_cons.1 hA).1 g hg
        rw [hgn, ey, e, nlt_irrefl] at this
        cases this
      · rw [if_neg ey, if_neg (Ne.symm ey)]
    · rw [atS_cons_ne e, List.eraseIdx_cons_succ, lookF_cons, lookF_cons, lookF_erase (List.pairwise_cons.1 hA).2]
      by_cases ey : y = n
      · subst ey; simp [e]
      · simp [ey]
theorem Asc.at_lt (hA : Asc F) {j : Nat} (hj : j < F.length) (hij : i < j) : nlt (F.getD i zfile).name (F.getD j zfile).name = true := by
  have := List.pairwise_iff_getElem.1 hA i j (by omega) hj hij
  simpa [List.getD, hj, show i < F.length by omega] using this
theorem Asc.atS (hA : Asc F) (hi : i < F.length) : Vm.atS F (F.getD i zfile).name = i := by
  unfold Vm.atS
  rw [List.findIdx_eq hi]
  refine ⟨by simp [List.getD, hi], fun j hj => ?_⟩
  have := nlt_ne (hA.at_lt hi hj)
  simpa [List.getD, hi, show j < F.length by omega] using this
theorem Asc.nodup (hA : Asc F) : (F.map fun f => f.name.data.toList).Nodup := by
  refine List.pairwise_map.2 ((show List.Pairwise (fun f g : FileS => nlt f.name g.name = true) F from hA).imp ?_)
  intro f g h e
  refine nlt_ne h ?_
  cases hf : f.name; cases hg : g.name
  rw [hf, hg] at e
  congr 1
  exact Array.toList_inj.1 e
theorem less_lt : ∀ {x y : List UInt8}, Op.bytesLess x y = true → x < y
  | _, [], h => by simp [Op.bytesLess] at h
  | [], _ :: _, _ => List.nil_lt_cons _ _
  | a :: x, b :: y, h => by
    simp only [Op.bytesLess, Bool.or_eq_true, decide_eq_true_eq, Bool.and_eq_true, beq_iff_eq] at h
    rcases h with h | ⟨rfl, h⟩
    · exact List.cons_lt_cons_iff.2 (.inl h)
    · exact List.cons_lt_cons_iff.2 (.inr ⟨rfl, less_lt h⟩)
theorem nlt_le {a b : ByteArray} (h : nlt a b = true) : leB a.data.toList b.data.toList = true := by
  unfold nlt at h
  rw [ByteArray.toList_eq, ByteArray.toList_eq] at h
  exact decide_eq_true (List.le_of_lt (less_lt h))
/-- Names in order stay so when sorted. -/
theorem Asc.sorted (hA : Asc F) {ss : List (List UInt8)} (hp : ss.Perm (F.map fun f => f.name.data.toList)) : ss.mergeSort leB = F.map fun f => f.name.data.toList := by
  rw [mergeSort_of_perm hp]
  exact List.mergeSort_of_pairwise (List.pairwise_map.2 (hA.imp fun h => nlt_le h))
theorem lookF_names (hx : ∃ g ∈ F, g.name = y) : (lookF F y).isSome = true := by
  cases e : lookF F y with
  | some _ => rfl
  | none => obtain ⟨g, hg, h⟩ := hx; exact absurd h (lookF_none.1 e g hg)
end
end Go.Proofs.Ytkfjbpcngmipnaa.Vm
