/- The contract of state's set.add. The contracts of state's within, isRobot, robotsAreRight. The contracts of state's hasItsRobot and hasItsTask. -/
import Derived.Test.YtopgboepkckkjaaSets
import Derived.Test.YtopgboepkckkjaaStWords
import Derived.Deep.AppendLies
import Derived.Deep.QuietTactic
import Derived.BigQuiet
namespace Go.Proofs.Ytopgboepkckkjaa.Vm
open Go Go.RowKit Go.Maps

theorem grown_alloc (w : World) (o : Obj) (row : Option Nat) : w.grownBy (w.alloc o) row :=
  have h := World.grownBy_alloc w o none
  ⟨h.os, h.tape, h.output, h.size, fun i hi _ => h.block i hi (by simp)⟩


end Go.Proofs.Ytopgboepkckkjaa.Vm

namespace Go.Proofs.Ytopgboepkckkjaa.Vm
open Go Go.RowKit



theorem floor_yes {W H c : Int} {s : ByteArray} (w : World) (hs : s.size ≤ maxLen) (h : floorS (bytesOf s) c = true) :
    Calls Try.prog 43 #[gridV W H s, .int .i64 c] w fun e w' => e = .returned (.bool true) ∧ Below w.heap.size w w' := by
  have := floor_any W H c s w hs
  rwa [h] at this
theorem floor_no {W H c : Int} {s : ByteArray} (w : World) (hs : s.size ≤ maxLen) (h : floorS (bytesOf s) c = false) :
    Calls Try.prog 43 #[gridV W H s, .int .i64 c] w fun e w' => e = .returned (.bool false) ∧ Below w.heap.size w w' := by
  have := floor_any W H c s w hs
  rwa [h] at this
theorem floor_wf {s : ByteArray} {c : Int} (hs : s.size ≤ maxLen) (h : floorS (bytesOf s) c = true) : (Lit.int .i64 c).wf = true := by
  have := floorS_in h
  rw [bytesOf_len] at this
  unfold maxLen at hs
  obtain ⟨k, rfl⟩ := Int.eq_ofNat_of_zero_le this.1
  exact WalkArith.wf_i64 (by omega)


/-- What a loop over robots holds: nothing below B has turned, and the map of the first k cells. -/
theorem restP_no1 {fl : Int → Bool} {rs : List Rec} {i : Nat} (hi : i < rs.length) (h : fl (rs.getD i zr).a = false) : ¬ ∀ j, j < rs.length → RestP fl rs j := fun hh => by
  have := (hh i hi).1
  rw [h] at this
  cases this
theorem restP_no2 {fl : Int → Bool} {rs : List Rec} {i : Nat} (hi : i < rs.length) (h : (rs.getD i zr).a ∈ (rs.take i).map Rec.a) : ¬ ∀ j, j < rs.length → RestP fl rs j := fun hh => by
  obtain ⟨j, hj, e⟩ := (mem_takeR (by omega)).1 h
  exact (hh i hi).2.1 j hj e

end Go.Proofs.Ytopgboepkckkjaa.Vm

namespace Go.Proofs.Ytopgboepkckkjaa.Vm
open Go Go.RowKit

theorem quiet_left {P : Program} {f : FuncId} {args : Array Value} {w : World} {n : Nat} {v : Value}
    (h : Calls P f args (w.drewN n) fun e w' => e = .returned v ∧ w.drewN n = w') : Calls P f args (w.drewN n) fun e w'' => e = .returned v ∧ ∃ m, w'' = w.drewN m :=
  h.mono fun _ _ ⟨he, hm⟩ => ⟨he, n, hm.symm⟩

/-- A robot's Mode and Task, and the task that is its own. -/
def FitP (r o : Rec) : Prop := (r.b = 0 ∨ r.b = 3) ∧ r.c = 0 ∨ r.b = 1 ∧ o.d = 2 ∨ r.b = 2 ∧ o.d = 3 ∨ r.b = 4 ∧ (r.c = 0 ∨ o.d = 3)
theorem yes_beq {p : Prop} {x y : Int} (h : p ↔ x = y) : yes p = (x == y) := by
  by_cases e : x = y
  · rw [yes_true (h.2 e), beq_iff_eq.2 e]
  · rw [yes_false (fun q => e (h.1 q)), beq_eq_false_iff_ne.2 e]
theorem fit_03 {r o : Rec} (h : r.b = 0 ∨ r.b = 3) : yes (FitP r o) = (r.c == 0) := yes_beq (by unfold FitP; omega)
theorem fit_1 {r o : Rec} (h : r.b = 1) : yes (FitP r o) = (o.d == 2) := yes_beq (by unfold FitP; omega)
theorem fit_2 {r o : Rec} (h : r.b = 2) : yes (FitP r o) = (o.d == 3) := yes_beq (by unfold FitP; omega)
theorem fit_4 {r o : Rec} (h : r.b = 4) (hc : r.c = 0) : yes (FitP r o) = true := yes_true (by unfold FitP; omega)
theorem fit_4' {r o : Rec} (h : r.b = 4) (hc : r.c ≠ 0) : yes (FitP r o) = (o.d == 3) := yes_beq (by unfold FitP; omega)
theorem fit_x {r o : Rec} (h0 : r.b ≠ 0) (h1 : r.b ≠ 1) (h2 : r.b ≠ 2) (h3 : r.b ≠ 3) (h4 : r.b ≠ 4) : yes (FitP r o) = false := yes_false (by unfold FitP; omega)
theorem role_1 {rs : List Rec} {t : Rec} (h : t.d = 1) : yes (RoleP rs t) = (t.e == -1) := yes_beq (by unfold RoleP; omega)
theorem role_23 {rs : List Rec} {t : Rec} (h : t.d = 2 ∨ t.d = 3) (he : 0 ≤ t.e ∧ t.e < rs.length) : yes (RoleP rs t) = ((rs.getD t.e.toNat zr).c == t.a) := yes_beq (by unfold RoleP; omega)
theorem role_23' {rs : List Rec} {t : Rec} (h : t.d = 2 ∨ t.d = 3) (he : ¬ (0 ≤ t.e ∧ t.e < rs.length)) : yes (RoleP rs t) = false := yes_false (by unfold RoleP; omega)
theorem role_4 {rs : List Rec} {t : Rec} (h : t.d = 4) : yes (RoleP rs t) = yes (0 ≤ t.e ∧ t.e < rs.length) := yes_same (by unfold RoleP; omega)
theorem role_x {rs : List Rec} {t : Rec} (h1 : t.d ≠ 1) (h2 : t.d ≠ 2) (h3 : t.d ≠ 3) (h4 : t.d ≠ 4) : yes (RoleP rs t) = false := yes_false (by unfold RoleP; omega)


end Go.Proofs.Ytopgboepkckkjaa.Vm
