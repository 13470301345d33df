/-
  No cell of these rows narrows 'for every input' (looked for: loops, veiled, ifaces, maps, wideKeys, modest, calm, conditions, laid).
  DERIVED. THE GIVEN ROWS OF THIS SEAT. 4 by the template 'for every input the law returns true; each argument reads behind the call as it read before'; 0 by the template 'total and deterministic' (their statements: YtiejinphofkjaaaTotals.lean).
  GIVEN WITH THE SEED: the statements are not yours to turn. If you find one false, say at which input.
  Laid BY PROGRAM, IN A SANDBOX (cutbox-rows.mjs): the forced cells as the released guide's own fill.sh prints them over the translation 2a8c6be0e1e8ef58… (all of the seat's roots in one cut). By AI agents, Wed Nov 11 2026. No macro, syntax, notation, axiom, sorry.
-/
import Derived.Test.YtiejinphofkjaaaChecked
import GoSem.Claim
import GoSem.ClaimJoined
import GoSem.ClaimMapViews
import Derived.JoinedTies
import Derived.KernelRfl
namespace Go.Proofs.Ytiejinphofkjaaa
/- THE CELL 'sum', in the pinned program and in every row, IS THE sha256 OF THE DUMP (.gsa) THAT YtiejinphofkjaaaProg.lean LOADS. Nothing in Lean hashes anything: it is a label: what it is worth is what the hold of that sum in a sandbox is worth. -/
noncomputable def Try.pinned : Pinned := { name := "ytiejinphofkjaaa", sum := "2a8c6be0e1e8ef58c6216f92c8eda799f10073e1f25584cf7edaec0f4ad4503e", checked := Try.checked }
namespace Rows
def none {H : Type} : Left H := { results := [], args := [] }

/-- 'tuggerlaw09.PlanPaths': WHATEVER THE INPUT: true; the input reads as it did. -/
def planPathsSpec : ChangeSpec := { name := "planPaths", fn := fun _ => fun
  | [d1, d2, d3] => { results := [.lit (.bool true)], args := [d1, d2, d3] }
  | _ => none }
def planPathsRow : OpenClaim := { program := "ytiejinphofkjaaa", sum := "2a8c6be0e1e8ef58c6216f92c8eda799f10073e1f25584cf7edaec0f4ad4503e", func := "tugger/tuggerlaw09.PlanPaths", spec := "planPaths", unfollowed := true, recurses := true, plainKeys := false, apart := false }
def PlanPathsSaid : Prop := planPathsRow.holds Try.pinned (OpenSpec.ofChange planPathsSpec)

/-- ITS FALSE NEIGHBOUR: 'it returns false'. Refute it at one input. -/
def planPathsWrong : ChangeSpec := { name := "planPaths", fn := fun _ => fun
  | [d1, d2, d3] => { results := [.lit (.bool false)], args := [d1, d2, d3] }
  | _ => none }
def PlanPathsWrongFalsely : Prop := planPathsRow.holds Try.pinned (OpenSpec.ofChange planPathsWrong)

/-- 'tuggerlaw09.PlanPlans': WHATEVER THE INPUT: true; the input reads as it did. -/
def planPlansSpec : ChangeSpec := { name := "planPlans", fn := fun _ => fun
  | [d1, d2] => { results := [.lit (.bool true)], args := [d1, d2] }
  | _ => none }
def planPlansRow : OpenClaim := { program := "ytiejinphofkjaaa", sum := "2a8c6be0e1e8ef58c6216f92c8eda799f10073e1f25584cf7edaec0f4ad4503e", func := "tugger/tuggerlaw09.PlanPlans", spec := "planPlans", unfollowed := true, recurses := true, plainKeys := false, apart := false }
def PlanPlansSaid : Prop := planPlansRow.holds Try.pinned (OpenSpec.ofChange planPlansSpec)

/-- ITS FALSE NEIGHBOUR: 'it returns false'. Refute it at one input. -/
def planPlansWrong : ChangeSpec := { name := "planPlans", fn := fun _ => fun
  | [d1, d2] => { results := [.lit (.bool false)], args := [d1, d2] }
  | _ => none }
def PlanPlansWrongFalsely : Prop := planPlansRow.holds Try.pinned (OpenSpec.ofChange planPlansWrong)

/-- 'tuggerlaw09.PlanClear': WHATEVER THE INPUT: true; the input reads as it did. -/
def planClearSpec : ChangeSpec := { name := "planClear", fn := fun _ => fun
  | [d1, d2, d3] => { results := [.lit (.bool true)], args := [d1, d2, d3] }
  | _ => none }
def planClearRow : OpenClaim := { program := "ytiejinphofkjaaa", sum := "2a8c6be0e1e8ef58c6216f92c8eda799f10073e1f25584cf7edaec0f4ad4503e", func := "tugger/tuggerlaw09.PlanClear", spec := "planClear", unfollowed := true, recurses := true, plainKeys := false, apart := false }
def PlanClearSaid : Prop := planClearRow.holds Try.pinned (OpenSpec.ofChange planClearSpec)

/-- ITS FALSE NEIGHBOUR: 'it returns false'. Refute it at one input. -/
def planClearWrong : ChangeSpec := { name := "planClear", fn := fun _ => fun
  | [d1, d2, d3] => { results := [.lit (.bool false)], args := [d1, d2, d3] }
  | _ => none }
def PlanClearWrongFalsely : Prop := planClearRow.holds Try.pinned (OpenSpec.ofChange planClearWrong)

/-- 'tuggerlaw09.PlanNear': WHATEVER THE INPUT: true; the input reads as it did. -/
def planNearSpec : ChangeSpec := { name := "planNear", fn := fun _ => fun
  | [d1, d2, d3] => { results := [.lit (.bool true)], args := [d1, d2, d3] }
  | _ => none }
def planNearRow : OpenClaim := { program := "ytiejinphofkjaaa", sum := "2a8c6be0e1e8ef58c6216f92c8eda799f10073e1f25584cf7edaec0f4ad4503e", func := "tugger/tuggerlaw09.PlanNear", spec := "planNear", unfollowed := true, recurses := true, plainKeys := false, apart := false }
def PlanNearSaid : Prop := planNearRow.holds Try.pinned (OpenSpec.ofChange planNearSpec)

/-- ITS FALSE NEIGHBOUR: 'it returns false'. Refute it at one input. -/
def planNearWrong : ChangeSpec := { name := "planNear", fn := fun _ => fun
  | [d1, d2, d3] => { results := [.lit (.bool false)], args := [d1, d2, d3] }
  | _ => none }
def PlanNearWrongFalsely : Prop := planNearRow.holds Try.pinned (OpenSpec.ofChange planNearWrong)

/- THE SECOND FORM. 'bulk': how many values and letters a reading holds, each counted each time it is reached (what is shared counts as often as it is met; a slice's spare places count too). A statement '..UptoSaid' is the law's where the arguments, and the package variables that the reading takes, are together of bulk at most 1048576: NARROWER than '..Said'. Prove '..Said' where nothing that the law and all that it calls make is longer than what came in: it says more and counts as full. Else prove '..UptoSaid'. A law counts once. -/
mutual
def uptoBulk {H : Type} : DataW H → Nat
  | .lit (.string bytes) => bytes.length + 1
  | .lit _ => 1
  | .nil => 1
  | .ptr d => uptoBulk d + 1
  | .slice elems spare => uptoBulkAll elems + uptoBulkAll spare + 1
  | .agg parts => uptoBulkAll parts + 1
  | .iface _ d => uptoBulk d + 1
  | .map entries => uptoBulkEntries entries + 1
  | .held _ => 1
def uptoBulkAll {H : Type} : List (DataW H) → Nat
  | [] => 0
  | d :: r => uptoBulk d + uptoBulkAll r
def uptoBulkEntries {H : Type} : List (Lit × DataW H) → Nat
  | [] => 0
  | x :: r => uptoBulkEntry x + uptoBulkEntries r
def uptoBulkEntry {H : Type} : Lit × DataW H → Nat
  | (.string bytes, d) => bytes.length + uptoBulk d + 1
  | (_, d) => uptoBulk d + 1
 end
def uptoSmall : (H : Type) → List (DataW H) → Bool := fun _ ds => decide (uptoBulkAll ds ≤ 1048576)
def OpenSpec.upto (s : _root_.Go.ChangeSpec) : _root_.Go.OpenSpec := { _root_.Go.OpenSpec.ofChange s with cond := some uptoSmall }

/-- 'tuggerlaw09.PlanPaths', WHERE WHAT IT READS IS OF BULK AT MOST 1048576: true; the input reads as it did. -/
def planPathsUptoRow : OpenClaim := { program := "ytiejinphofkjaaa", sum := "2a8c6be0e1e8ef58c6216f92c8eda799f10073e1f25584cf7edaec0f4ad4503e", func := "tugger/tuggerlaw09.PlanPaths", spec := "planPaths", unfollowed := true, recurses := true, plainKeys := false, apart := false, narrowed := true }
def PlanPathsUptoSaid : Prop := planPathsUptoRow.holds Try.pinned (OpenSpec.upto planPathsSpec)

/-- 'tuggerlaw09.PlanPlans', WHERE WHAT IT READS IS OF BULK AT MOST 1048576: true; the input reads as it did. -/
def planPlansUptoRow : OpenClaim := { program := "ytiejinphofkjaaa", sum := "2a8c6be0e1e8ef58c6216f92c8eda799f10073e1f25584cf7edaec0f4ad4503e", func := "tugger/tuggerlaw09.PlanPlans", spec := "planPlans", unfollowed := true, recurses := true, plainKeys := false, apart := false, narrowed := true }
def PlanPlansUptoSaid : Prop := planPlansUptoRow.holds Try.pinned (OpenSpec.upto planPlansSpec)

/-- 'tuggerlaw09.PlanClear', WHERE WHAT IT READS IS OF BULK AT MOST 1048576: true; the input reads as it did. -/
def planClearUptoRow : OpenClaim := { program := "ytiejinphofkjaaa", sum := "2a8c6be0e1e8ef58c6216f92c8eda799f10073e1f25584cf7edaec0f4ad4503e", func := "tugger/tuggerlaw09.PlanClear", spec := "planClear", unfollowed := true, recurses := true, plainKeys := false, apart := false, narrowed := true }
def PlanClearUptoSaid : Prop := planClearUptoRow.holds Try.pinned (OpenSpec.upto planClearSpec)

/-- 'tuggerlaw09.PlanNear', WHERE WHAT IT READS IS OF BULK AT MOST 1048576: true; the input reads as it did. -/
def planNearUptoRow : OpenClaim := { program := "ytiejinphofkjaaa", sum := "2a8c6be0e1e8ef58c6216f92c8eda799f10073e1f25584cf7edaec0f4ad4503e", func := "tugger/tuggerlaw09.PlanNear", spec := "planNear", unfollowed := true, recurses := true, plainKeys := false, apart := false, narrowed := true }
def PlanNearUptoSaid : Prop := planNearUptoRow.holds Try.pinned (OpenSpec.upto planNearSpec)

end Rows
end Go.Proofs.Ytiejinphofkjaaa
