/- Maps of ints as functions, a set of ints. -/
import Derived.Test.YtopgboepkckkjaaAppendZ
import Derived.Test.YtopgboepkckkjaaSets
import Derived.Maps.OwnSet
import Derived.Maps.OwnOps
import Derived.WalkLawsBesides
namespace Go.Proofs.Ytopgboepkckkjaa.Vm
open Go Go.RowKit Go.Maps
set_option maxRecDepth 100000

theorem zero_intI (w : World) : (zeroValue 3).run Try.prog w = .ok (.int .i64 0) w := by kernel_rfl
theorem lit_neI {x y : Int} (h : x ≠ y) : (Lit.int .i64 x) ≠ (Lit.int .i64 y) := fun e => h (by injection e)
theorem make_setI (n : Nat) (w : World) : (Instr.makeMap 81 (some (.int .i64 (n : Int)))).run Try.prog w = .ok (.map (some w.heap.size)) (w.alloc (.map #[] 0)) := by
  simp [Instr.makeMap, go_sem, Result.andThen]

/-- In block mb lies a map of ints that says what f says. -/
def MapIn (w : World) (mb n : Nat) (f : Int → Option Int) : Prop :=
  ∃ D : DataW Unit, w.ownsMap Try.prog 3 (plainElem Try.prog 3) mb n D ∧ IsMap D ∧ (∀ z, f z = none → Maps.has D (.int .i64 z) = false) ∧
    ∀ z x, f z = some x → Maps.has D (.int .i64 z) = true ∧ ∀ u, D.atKey (.int .i64 z) u = .lit (.int .i64 x)
theorem MapIn.keep {w w' : World} {mb n : Nat} {f : Int → Option Int} (h : MapIn w mb n f) (hk : w'.heap[mb]? = w.heap[mb]?) : MapIn w' mb n f := by
  obtain ⟨D, ⟨es, clock, hb, r⟩, h2⟩ := h
  exact ⟨D, ⟨es, clock, hk.trans hb, r⟩, h2⟩
theorem MapIn.lt {w : World} {mb n : Nat} {f : Int → Option Int} (h : MapIn w mb n f) : mb < w.heap.size := by
  obtain ⟨D, hown, _⟩ := h
  exact World.ownsMap.lt hown
theorem mapIn_new (w : World) {f : Int → Option Int} (hf : ∀ z, f z = none) : MapIn (w.alloc (.map #[] 0)) w.heap.size 0 f :=
  ⟨.map [], World.ownsMap_made w Try.prog 3 (plainElem Try.prog 3), isMap_empty, fun _ _ => rfl, fun z x hz => by rw [hf z] at hz; cases hz⟩
theorem MapIn.to {w : World} {mb n : Nat} {f g : Int → Option Int} (h : MapIn w mb n f) (hg : ∀ z, g z = f z) : MapIn w mb n g := by
  obtain ⟨D, hown, hm, h0, h1⟩ := h
  exact ⟨D, hown, hm, fun z hz => h0 z (by rw [← hg z]; exact hz), fun z x hz => h1 z x (by rw [← hg z]; exact hz)⟩

theorem ShutIn.look {w : World} {mb m : Nat} {bl : List Int} (h : ShutIn w mb m bl) {z : Int} (hz : (Lit.int .i64 z).wf = true) :
    (Instr.lookup 81 (.map (some mb)) (.int .i64 z) true).run Try.prog w = .ok (.tuple #[.agg #[], .bool (decide (z ∈ bl))]) w := by
  have hkey : keyOf Try.prog 3 (.int .i64 z) = some (.int .i64 z) := keyOf_int_mk Try.underlying3 hz
  obtain ⟨v, ps, hrun, hv⟩ := World.ownsMap.look_ok h key_law Try.underlying81 (zero_unit w) unitElem_mk hkey
  obtain ⟨rfl, _⟩ := unitElem_inv hv
  rw [hrun, has_keys]
theorem ShutIn.put {w : World} {mb k : Nat} {bl : List Int} (h : ShutIn w mb k (bl.take k)) (hk : k < 1000000) (hl : k < bl.length) (hz : (Lit.int .i64 (bl.getD k 0)).wf = true) :
    ∃ w', (Instr.mapUpdate 81 (.map (some mb)) (.int .i64 (bl.getD k 0)) (.agg #[])).run Try.prog w = .ok () w' ∧ ShutIn w' mb (k + 1) (bl.take (k + 1)) ∧ w.grownBy w' (some mb) := by
  have hkey : keyOf Try.prog 3 (.int .i64 (bl.getD k 0)) = some (.int .i64 (bl.getD k 0)) := keyOf_int_mk Try.underlying3 hz
  have hsn : setOf (H := Unit) (.agg []) (keysZ (bl.take (k + 1))) = (setOf (.agg []) (keysZ (bl.take k))).put (.int .i64 (bl.getD k 0)) (.agg []) := by
    unfold keysZ
    rw [List.take_add_one, List.map_append, ← setOf_snoc]
    simp [List.getD, hl]
  obtain ⟨w', hrun, hown', hg⟩ := World.ownsMap.update h key_law Try.underlying81 (by unfold maxLen; omega) hkey unitElem_mk
  refine ⟨w', hrun, ?_, hg⟩
  unfold ShutIn
  rw [hsn]
  exact hown'
end Go.Proofs.Ytopgboepkckkjaa.Vm
