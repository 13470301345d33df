/- The contracts of state's hasItsRobot and hasItsTask. -/
import Derived.Test.YtlfgdalpaacccaaRobots
import Derived.Deep.QuietTactic
import Derived.BigQuiet
namespace Go.Proofs.Ytlfgdalpaacccaa.Vm
open Go Go.RowKit

theorem quiet_left {P : Program} {f : FuncId} {args : Array Value} {w : World} {n : Nat} {v : Value}
    (h : Calls P f args (w.drewN n) fun e w' => e = .returned v ∧ w.drewN n = w') : Calls P f args (w.drewN n) fun e w'' => e = .returned v ∧ ∃ m, w'' = w.drewN m :=
  h.mono fun _ _ ⟨he, hm⟩ => ⟨he, n, hm.symm⟩

/-- A robot's Mode and Task, and the task that is its own. -/
def FitP (r o : Rec) : Prop := (r.b = 0 ∨ r.b = 3) ∧ r.c = 0 ∨ r.b = 1 ∧ o.d = 2 ∨ r.b = 2 ∧ o.d = 3 ∨ r.b = 4 ∧ (r.c = 0 ∨ o.d = 3)
theorem yes_beq {p : Prop} {x y : Int} (h : p ↔ x = y) : yes p = (x == y) := by
  by_cases e : x = y
  · rw [yes_true (h.2 e), beq_iff_eq.2 e]
  · rw [yes_false (fun q => e (h.1 q)), beq_eq_false_iff_ne.2 e]
theorem fit_03 {r o : Rec} (h : r.b = 0 ∨ r.b = 3) : yes (FitP r o) = (r.c == 0) := yes_beq (by unfold FitP; omega)
theorem fit_1 {r o : Rec} (h : r.b = 1) : yes (FitP r o) = (o.d == 2) := yes_beq (by unfold FitP; omega)
theorem fit_2 {r o : Rec} (h : r.b = 2) : yes (FitP r o) = (o.d == 3) := yes_beq (by unfold FitP; omega)
theorem fit_4 {r o : Rec} (h : r.b = 4) (hc : r.c = 0) : yes (FitP r o) = true := yes_true (by unfold FitP; omega)
theorem fit_4' {r o : Rec} (h : r.b = 4) (hc : r.c ≠ 0) : yes (FitP r o) = (o.d == 3) := yes_beq (by unfold FitP; omega)
theorem fit_x {r o : Rec} (h0 : r.b ≠ 0) (h1 : r.b ≠ 1) (h2 : r.b ≠ 2) (h3 : r.b ≠ 3) (h4 : r.b ≠ 4) : yes (FitP r o) = false := yes_false (by unfold FitP; omega)
theorem role_1 {rs : List Rec} {t : Rec} (h : t.d = 1) : yes (RoleP rs t) = (t.e == -1) := yes_beq (by unfold RoleP; omega)
theorem role_23 {rs : List Rec} {t : Rec} (h : t.d = 2 ∨ t.d = 3) (he : 0 ≤ t.e ∧ t.e < rs.length) : yes (RoleP rs t) = ((rs.getD t.e.toNat zr).c == t.a) := yes_beq (by unfold RoleP; omega)
theorem role_23' {rs : List Rec} {t : Rec} (h : t.d = 2 ∨ t.d = 3) (he : ¬ (0 ≤ t.e ∧ t.e < rs.length)) : yes (RoleP rs t) = false := yes_false (by unfold RoleP; omega)
theorem role_4 {rs : List Rec} {t : Rec} (h : t.d = 4) : yes (RoleP rs t) = yes (0 ≤ t.e ∧ t.e < rs.length) := yes_same (by unfold RoleP; omega)
theorem role_x {rs : List Rec} {t : Rec} (h1 : t.d ≠ 1) (h2 : t.d ≠ 2) (h3 : t.d ≠ 3) (h4 : t.d ≠ 4) : yes (RoleP rs t) = false := yes_false (by unfold RoleP; omega)


end Go.Proofs.Ytlfgdalpaacccaa.Vm
