/- Maps of ints as functions, a set of ints. -/
import Derived.Test.YtacigmjdppoonaaAppendZ
import Derived.Test.YtacigmjdppoonaaSets
import Derived.Maps.OwnSet
import Derived.Maps.OwnOps
import Derived.WalkLawsBesides
namespace Go.Proofs.Ytacigmjdppoonaa.Vm
open Go Go.RowKit Go.Maps
set_option maxRecDepth 100000

theorem zero_intI (w : World) : (zeroValue 3).run Try.prog w = .ok (.int .i64 0) w := by kernel_rfl
theorem lit_neI {x y : Int} (h : x ≠ y) : (Lit.int .i64 x) ≠ (Lit.int .i64 y) := fun e => h (by injection e)

/-- In block mb lies a map of ints that says what f says. -/
def MapIn (w : World) (mb n : Nat) (f : Int → Option Int) : Prop :=
  ∃ D : DataW Unit, w.ownsMap Try.prog 3 (plainElem Try.prog 3) mb n D ∧ IsMap D ∧ (∀ z, f z = none → Maps.has D (.int .i64 z) = false) ∧
    ∀ z x, f z = some x → Maps.has D (.int .i64 z) = true ∧ ∀ u, D.atKey (.int .i64 z) u = .lit (.int .i64 x)
theorem MapIn.keep {w w' : World} {mb n : Nat} {f : Int → Option Int} (h : MapIn w mb n f) (hk : w'.heap[mb]? = w.heap[mb]?) : MapIn w' mb n f := by
  obtain ⟨D, ⟨es, clock, hb, r⟩, h2⟩ := h
  exact ⟨D, ⟨es, clock, hk.trans hb, r⟩, h2⟩
theorem MapIn.lt {w : World} {mb n : Nat} {f : Int → Option Int} (h : MapIn w mb n f) : mb < w.heap.size := by
  obtain ⟨D, hown, _⟩ := h
  exact World.ownsMap.lt hown
theorem mapIn_new (w : World) {f : Int → Option Int} (hf : ∀ z, f z = none) : MapIn (w.alloc (.map #[] 0)) w.heap.size 0 f :=
  ⟨.map [], World.ownsMap_made w Try.prog 3 (plainElem Try.prog 3), isMap_empty, fun _ _ => rfl, fun z x hz => by rw [hf z] at hz; cases hz⟩
theorem MapIn.to {w : World} {mb n : Nat} {f g : Int → Option Int} (h : MapIn w mb n f) (hg : ∀ z, g z = f z) : MapIn w mb n g := by
  obtain ⟨D, hown, hm, h0, h1⟩ := h
  exact ⟨D, hown, hm, fun z hz => h0 z (by rw [← hg z]; exact hz), fun z x hz => h1 z x (by rw [← hg z]; exact hz)⟩

end Go.Proofs.Ytacigmjdppoonaa.Vm
