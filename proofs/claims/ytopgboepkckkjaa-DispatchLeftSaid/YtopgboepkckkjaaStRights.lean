/- The contract of state's tasksAgree. The contract of state's tasksAreRight. The contract of state's blockedAreRight. The contract of state.Right. -/
import Derived.Test.YtopgboepkckkjaaRobots
namespace Go.Proofs.Ytopgboepkckkjaa.Vm
open Go Go.RowKit Go.Maps

/-- In block mb lies the map of the places of the first k tasks, whose Ids differ. -/
def IdxIn (w : World) (mb k : Nat) (ts : List Rec) : Prop :=
  ∃ D : DataW Unit, w.ownsMap Try.prog 3 (plainElem Try.prog 3) mb k D ∧ IsMap D ∧
    (∀ j, j < k → Maps.has D (.int .i64 (ts.getD j zr).a) = true ∧ ∀ z, D.atKey (.int .i64 (ts.getD j zr).a) z = .lit (.int .i64 (j : Int))) ∧
    (∀ id, (∀ j, j < k → (ts.getD j zr).a ≠ id) → Maps.has D (.int .i64 id) = false)
theorem IdxIn.keep {w w' : World} {mb k : Nat} {ts : List Rec} (h : IdxIn w mb k ts) (hk : w'.heap[mb]? = w.heap[mb]?) : IdxIn w' mb k ts := by
  obtain ⟨D, ⟨es, clock, hb, r⟩, h2⟩ := h
  exact ⟨D, ⟨es, clock, hk.trans hb, r⟩, h2⟩
theorem idxIn_new (w : World) (ts : List Rec) : IdxIn (w.alloc (.map #[] 0)) w.heap.size 0 ts :=
  ⟨.map [], World.ownsMap_made w Try.prog 3 (plainElem Try.prog 3), isMap_empty, fun j hj => absurd hj (Nat.not_lt_zero _), fun id _ => rfl⟩
theorem lit_ne {x y : Int} (h : x ≠ y) : (Lit.int .i64 x) ≠ (Lit.int .i64 y) := fun e => h (by injection e)
/-- One place more. -/
theorem idx_put {D : DataW Unit} {k : Nat} {ts : List Rec} (hm : IsMap D)
    (h1 : ∀ j, j < k → Maps.has D (.int .i64 (ts.getD j zr).a) = true ∧ ∀ z, D.atKey (.int .i64 (ts.getD j zr).a) z = .lit (.int .i64 (j : Int)))
    (h2 : ∀ id, (∀ j, j < k → (ts.getD j zr).a ≠ id) → Maps.has D (.int .i64 id) = false) (hd : ∀ j, j < k → (ts.getD j zr).a ≠ (ts.getD k zr).a) :
    IsMap (D.put (.int .i64 (ts.getD k zr).a) (.lit (.int .i64 (k : Int)))) ∧
    (∀ j, j < k + 1 → Maps.has (D.put (.int .i64 (ts.getD k zr).a) (.lit (.int .i64 (k : Int)))) (.int .i64 (ts.getD j zr).a) = true ∧ ∀ z, (D.put (.int .i64 (ts.getD k zr).a) (.lit (.int .i64 (k : Int)))).atKey (.int .i64 (ts.getD j zr).a) z = .lit (.int .i64 (j : Int))) ∧
    (∀ id, (∀ j, j < k + 1 → (ts.getD j zr).a ≠ id) → Maps.has (D.put (.int .i64 (ts.getD k zr).a) (.lit (.int .i64 (k : Int)))) (.int .i64 id) = false) := by
  refine ⟨hm.put _ _, fun j hj => ?_, fun id hid => ?_⟩
  · by_cases e : j = k
    · subst e
      have hkl : WideAt.IsKeyLit (Lit.int .i64 (ts.getD j zr).a) := trivial
      exact ⟨has_put_same hm hkl _, fun z => atKey_put_same hm hkl _ z⟩
    · have hne := lit_ne (hd j (by omega))
      refine ⟨?_, fun z => ?_⟩
      · rw [has_put_other hne]; exact (h1 j (by omega)).1
      · rw [atKey_put_other hne]; exact (h1 j (by omega)).2 z
  · rw [has_put_other (lit_ne (fun e => hid k (by omega) e.symm))]
    exact h2 id fun j hj => hid j (by omega)

/-- A look-up whose answer is known. -/
theorem lookup_known {P : Program} (w : World) {ops : Array Oper} {rest : List Oper} {o : Oper} {a : Act} {Q : Exit → Act → World → Prop} (hg : o.guard = none) (m x : Operand) (t : TypeId) (hop : o.op = Op.lookup t m x true)
    (k e : TypeId) (K : Keyed P k) (ht : P.underlying t = some (.map k e)) (he : P.underlying e = some (.int .i64)) (hz : (zeroValue e).run P w = .ok (.int .i64 0) w) (b n : Nat) (D : DataW Unit)
    (hm : a.eval m = .map (some b)) (hown : w.ownsMap P k (plainElem P e) b n D) (key : Value) (kl : Lit) (hx : a.eval x = key) (hkey : keyOf P k key = some kl)
    (c : Int) (q : Bool) (hc : D.atKey kl (.lit (.int .i64 0)) = .lit (.int .i64 c)) (hq : Maps.has D kl = q)
    (hK : wpList P ops Q rest (a.put o.dst (.tuple #[.int .i64 c, .bool q])) w) : wpList P ops Q (o :: rest) a w :=
  wpList_lookup_own_ok_int w hg m x t hop k e .i64 K ht he hz b n D hm hown key kl hx hkey fun c' h' _ => by
    have h2 : c' = c := by
      have h3 := h'.symm.trans hc
      injection h3 with h4
      injection h4
    subst h2 hq
    exact hK

theorem mode_none {ts : List Rec} {r : Rec} {i : Nat} (h : findS ts r.c = -1) : ModeP ts r i ↔ FitP r zr := by
  have hn : ∀ st, ¬ OwnP ts r.c i st := fun st ⟨k, _, e, _⟩ => by omega
  unfold ModeP FitP
  simp [hn, zr]
theorem mode_own {ts : List Rec} {r : Rec} {i k : Nat} (hk : k < ts.length) (h : findS ts r.c = k) (he : (ts.getD k zr).e = i) : ModeP ts r i ↔ FitP r (ts.getD k zr) := by
  have hn : ∀ st, OwnP ts r.c i st ↔ (ts.getD k zr).d = st := fun st => ⟨fun ⟨j, _, e, h2, _⟩ => by
    obtain rfl : j = k := by omega
    exact h2, fun h2 => ⟨k, hk, h, h2, he⟩⟩
  unfold ModeP FitP
  simp only [hn]
theorem mode_other {ts : List Rec} {r : Rec} {i k : Nat} (h : findS ts r.c = k) (he : (ts.getD k zr).e ≠ i) : ModeP ts r i ↔ FitP r zr := by
  have hn : ∀ st, ¬ OwnP ts r.c i st := fun st ⟨j, _, e, _, h3⟩ => by
    obtain rfl : j = k := by omega
    exact he h3
  unfold ModeP FitP
  simp [hn, zr]

theorem zero_int (w : World) : (zeroValue 3).run Try.prog w = .ok (.int .i64 0) w := by kernel_rfl

/-- Tasks and robots belong to each other. -/
def AgreeP (rs ts : List Rec) : Prop := (∀ i, i < ts.length → RoleP rs (ts.getD i zr)) ∧ ∀ i, i < rs.length → ModeP ts (rs.getD i zr) i

end Go.Proofs.Ytopgboepkckkjaa.Vm

namespace Go.Proofs.Ytopgboepkckkjaa.Vm
open Go Go.RowKit

end Go.Proofs.Ytopgboepkckkjaa.Vm

namespace Go.Proofs.Ytopgboepkckkjaa.Vm
open Go Go.RowKit

end Go.Proofs.Ytopgboepkckkjaa.Vm

namespace Go.Proofs.Ytopgboepkckkjaa.Vm
open Go Go.RowKit

theorem job_ids {fl : Int → Bool} {ts : List Rec} (h : ∀ i, i < ts.length → JobP fl ts i) : (∀ i, i < ts.length → ∀ k, k < i → (ts.getD k zr).a ≠ (ts.getD i zr).a) ∧ ∀ i, i < ts.length → (Lit.int .i64 (ts.getD i zr).a).wf = true :=
  ⟨fun i hi => (h i hi).2.1, fun i hi => by
    have h1 := (h i hi).1
    obtain ⟨k, hk⟩ := Int.eq_ofNat_of_zero_le (show 0 ≤ (ts.getD i zr).a by omega)
    rw [hk]
    exact WalkArith.wf_i64 (by omega)⟩

/-- The answer of Right. -/
noncomputable def rightB (fl : Int → Bool) (s : St) : Bool := yes (RightP fl s)

end Go.Proofs.Ytopgboepkckkjaa.Vm
