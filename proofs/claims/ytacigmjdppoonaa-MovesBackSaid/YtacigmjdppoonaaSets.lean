/- The contracts of package dist's set: setOf, has. -/
import Derived.Test.YtacigmjdppoonaaOwns
import Derived.Test.YtacigmjdppoonaaWords
import Derived.Maps.OwnSet
import Derived.Maps.AppendAt
namespace Go.Proofs.Ytacigmjdppoonaa.Vm
open Go Go.RowKit Go.Maps

theorem key_law : Keyed Try.prog 3 := int_keyed Try.underlying3
def keysZ (bl : List Int) : List Lit := bl.map (Lit.int .i64)
/-- In block mb lies a set of just these numbers. -/
def ShutIn (w : World) (mb m : Nat) (bl : List Int) : Prop := w.ownsMap Try.prog 3 (unitElem (H := Unit)) mb m (setOf (.agg []) (keysZ bl))

theorem any_keys (x : Int) : ∀ l : List Int, l.any ((fun y : Lit => y.sameKey (.int .i64 x)) ∘ Lit.int .i64) = decide (x ∈ l)
  | [] => by simp
  | a :: r => by
    rw [List.any_cons, any_keys x r]
    have e : ((fun y : Lit => y.sameKey (.int .i64 x)) ∘ Lit.int .i64) a = decide (IntKind.i64 = IntKind.i64 ∧ a = x) := rfl
    rw [e]
    by_cases h : a = x
    · subst h; simp
    · have h' : ¬ x = a := fun e => h e.symm
      simp [h, h']
theorem has_keys (bl : List Int) (x : Int) : Maps.has (setOf (H := Unit) (.agg []) (keysZ bl)) (.int .i64 x) = decide (x ∈ bl) := by
  unfold keysZ
  rw [has_setOf _ _ _ (fun y hy => by obtain ⟨_, _, rfl⟩ := List.mem_map.1 hy; trivial), List.any_map]
  exact any_keys x _

theorem ShutIn.keep {w w' : World} {mb m : Nat} {bl : List Int} (h : ShutIn w mb m bl) (hk : w'.heap[mb]? = w.heap[mb]?) : ShutIn w' mb m bl := by
  obtain ⟨es, clock, hb, r⟩ := h
  exact ⟨es, clock, hk.trans hb, r⟩
theorem ShutIn.lt {w : World} {mb m : Nat} {bl : List Int} (h : ShutIn w mb m bl) : mb < w.heap.size := World.ownsMap.lt h


end Go.Proofs.Ytacigmjdppoonaa.Vm
