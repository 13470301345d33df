/-
  No cell of these rows narrows 'for every input' (looked for: loops, veiled, ifaces, maps, wideKeys, modest, calm, conditions, laid).
  DERIVED. THE GIVEN ROWS OF THIS SEAT. 4 by the template 'for every input the law returns true; each argument reads behind the call as it read before'; 0 by the template 'total and deterministic' (their statements: YteibhacpghobpaaTotals.lean).
  GIVEN WITH THE SEED: the statements are not yours to turn. If you find one false, say at which input.
  Laid BY PROGRAM, IN A SANDBOX (cutbox-rows.mjs): the forced cells as the released guide's own fill.sh prints them over the translation 625963ce2a00344f… (all of the seat's roots in one cut). By AI agents, Wed Nov 11 2026. No macro, syntax, notation, axiom, sorry.
-/
import Derived.Test.YteibhacpghobpaaChecked
import GoSem.Claim
import GoSem.ClaimJoined
import GoSem.ClaimMapViews
import Derived.JoinedTies
import Derived.KernelRfl
namespace Go.Proofs.Yteibhacpghobpaa
/- THE CELL 'sum', in the pinned program and in every row, IS THE sha256 OF THE DUMP (.gsa) THAT YteibhacpghobpaaProg.lean LOADS. Nothing in Lean hashes anything: it is a label: what it is worth is what the hold of that sum in a sandbox is worth. -/
noncomputable def Try.pinned : Pinned := { name := "yteibhacpghobpaa", sum := "625963ce2a00344f71ae722c8396a62790507f05cdcf4c3694a7e22b550be1b6", checked := Try.checked }
namespace Rows
def none {H : Type} : Left H := { results := [], args := [] }

/-- 'tuggerlaw03.GridParses': WHATEVER THE INPUT: true; the input reads as it did. -/
def gridParsesSpec : ChangeSpec := { name := "gridParses", fn := fun _ => fun
  | [d1, d2] => { results := [.lit (.bool true)], args := [d1, d2] }
  | _ => none }
def gridParsesRow : OpenClaim := { program := "yteibhacpghobpaa", sum := "625963ce2a00344f71ae722c8396a62790507f05cdcf4c3694a7e22b550be1b6", func := "tugger/tuggerlaw03.GridParses", spec := "gridParses", unfollowed := true, recurses := true, apart := false }
def GridParsesSaid : Prop := gridParsesRow.holds Try.pinned (OpenSpec.ofChange gridParsesSpec)

/-- ITS FALSE NEIGHBOUR: 'it returns false'. Refute it at one input. -/
def gridParsesWrong : ChangeSpec := { name := "gridParses", fn := fun _ => fun
  | [d1, d2] => { results := [.lit (.bool false)], args := [d1, d2] }
  | _ => none }
def GridParsesWrongFalsely : Prop := gridParsesRow.holds Try.pinned (OpenSpec.ofChange gridParsesWrong)

/-- 'tuggerlaw03.GridGoes': WHATEVER THE INPUT: true; the input reads as it did. -/
def gridGoesSpec : ChangeSpec := { name := "gridGoes", fn := fun _ => fun
  | [d1, d2, d3] => { results := [.lit (.bool true)], args := [d1, d2, d3] }
  | _ => none }
def gridGoesRow : OpenClaim := { program := "yteibhacpghobpaa", sum := "625963ce2a00344f71ae722c8396a62790507f05cdcf4c3694a7e22b550be1b6", func := "tugger/tuggerlaw03.GridGoes", spec := "gridGoes", unfollowed := true, recurses := true, apart := false }
def GridGoesSaid : Prop := gridGoesRow.holds Try.pinned (OpenSpec.ofChange gridGoesSpec)

/-- ITS FALSE NEIGHBOUR: 'it returns false'. Refute it at one input. -/
def gridGoesWrong : ChangeSpec := { name := "gridGoes", fn := fun _ => fun
  | [d1, d2, d3] => { results := [.lit (.bool false)], args := [d1, d2, d3] }
  | _ => none }
def GridGoesWrongFalsely : Prop := gridGoesRow.holds Try.pinned (OpenSpec.ofChange gridGoesWrong)

/-- 'tuggerlaw03.GridBack': WHATEVER THE INPUT: true; the input reads as it did. -/
def gridBackSpec : ChangeSpec := { name := "gridBack", fn := fun _ => fun
  | [d1, d2] => { results := [.lit (.bool true)], args := [d1, d2] }
  | _ => none }
def gridBackRow : OpenClaim := { program := "yteibhacpghobpaa", sum := "625963ce2a00344f71ae722c8396a62790507f05cdcf4c3694a7e22b550be1b6", func := "tugger/tuggerlaw03.GridBack", spec := "gridBack", unfollowed := true, recurses := true, apart := false }
def GridBackSaid : Prop := gridBackRow.holds Try.pinned (OpenSpec.ofChange gridBackSpec)

/-- ITS FALSE NEIGHBOUR: 'it returns false'. Refute it at one input. -/
def gridBackWrong : ChangeSpec := { name := "gridBack", fn := fun _ => fun
  | [d1, d2] => { results := [.lit (.bool false)], args := [d1, d2] }
  | _ => none }
def GridBackWrongFalsely : Prop := gridBackRow.holds Try.pinned (OpenSpec.ofChange gridBackWrong)

/-- 'tuggerlaw03.GridTurns': WHATEVER THE INPUT: true; the input reads as it did. -/
def gridTurnsSpec : ChangeSpec := { name := "gridTurns", fn := fun _ => fun
  | [d1, d2] => { results := [.lit (.bool true)], args := [d1, d2] }
  | _ => none }
def gridTurnsRow : OpenClaim := { program := "yteibhacpghobpaa", sum := "625963ce2a00344f71ae722c8396a62790507f05cdcf4c3694a7e22b550be1b6", func := "tugger/tuggerlaw03.GridTurns", spec := "gridTurns", unfollowed := true, recurses := true, apart := false }
def GridTurnsSaid : Prop := gridTurnsRow.holds Try.pinned (OpenSpec.ofChange gridTurnsSpec)

/-- ITS FALSE NEIGHBOUR: 'it returns false'. Refute it at one input. -/
def gridTurnsWrong : ChangeSpec := { name := "gridTurns", fn := fun _ => fun
  | [d1, d2] => { results := [.lit (.bool false)], args := [d1, d2] }
  | _ => none }
def GridTurnsWrongFalsely : Prop := gridTurnsRow.holds Try.pinned (OpenSpec.ofChange gridTurnsWrong)

/- THE SECOND FORM. 'bulk': how many values and letters a reading holds, each counted each time it is reached (what is shared counts as often as it is met; a slice's spare places count too). A statement '..UptoSaid' is the law's where the arguments, and the package variables that the reading takes, are together of bulk at most 1048576: NARROWER than '..Said'. Prove '..Said' where nothing that the law and all that it calls make is longer than what came in: it says more and counts as full. Else prove '..UptoSaid'. A law counts once. -/
mutual
def uptoBulk {H : Type} : DataW H → Nat
  | .lit (.string bytes) => bytes.length + 1
  | .lit _ => 1
  | .nil => 1
  | .ptr d => uptoBulk d + 1
  | .slice elems spare => uptoBulkAll elems + uptoBulkAll spare + 1
  | .agg parts => uptoBulkAll parts + 1
  | .iface _ d => uptoBulk d + 1
  | .map entries => uptoBulkEntries entries + 1
  | .held _ => 1
def uptoBulkAll {H : Type} : List (DataW H) → Nat
  | [] => 0
  | d :: r => uptoBulk d + uptoBulkAll r
def uptoBulkEntries {H : Type} : List (Lit × DataW H) → Nat
  | [] => 0
  | x :: r => uptoBulkEntry x + uptoBulkEntries r
def uptoBulkEntry {H : Type} : Lit × DataW H → Nat
  | (.string bytes, d) => bytes.length + uptoBulk d + 1
  | (_, d) => uptoBulk d + 1
 end
def uptoSmall : (H : Type) → List (DataW H) → Bool := fun _ ds => decide (uptoBulkAll ds ≤ 1048576)
def OpenSpec.upto (s : _root_.Go.ChangeSpec) : _root_.Go.OpenSpec := { _root_.Go.OpenSpec.ofChange s with cond := some uptoSmall }

/-- 'tuggerlaw03.GridParses', WHERE WHAT IT READS IS OF BULK AT MOST 1048576: true; the input reads as it did. -/
def gridParsesUptoRow : OpenClaim := { program := "yteibhacpghobpaa", sum := "625963ce2a00344f71ae722c8396a62790507f05cdcf4c3694a7e22b550be1b6", func := "tugger/tuggerlaw03.GridParses", spec := "gridParses", unfollowed := true, recurses := true, apart := false, narrowed := true }
def GridParsesUptoSaid : Prop := gridParsesUptoRow.holds Try.pinned (OpenSpec.upto gridParsesSpec)

/-- 'tuggerlaw03.GridGoes', WHERE WHAT IT READS IS OF BULK AT MOST 1048576: true; the input reads as it did. -/
def gridGoesUptoRow : OpenClaim := { program := "yteibhacpghobpaa", sum := "625963ce2a00344f71ae722c8396a62790507f05cdcf4c3694a7e22b550be1b6", func := "tugger/tuggerlaw03.GridGoes", spec := "gridGoes", unfollowed := true, recurses := true, apart := false, narrowed := true }
def GridGoesUptoSaid : Prop := gridGoesUptoRow.holds Try.pinned (OpenSpec.upto gridGoesSpec)

/-- 'tuggerlaw03.GridBack', WHERE WHAT IT READS IS OF BULK AT MOST 1048576: true; the input reads as it did. -/
def gridBackUptoRow : OpenClaim := { program := "yteibhacpghobpaa", sum := "625963ce2a00344f71ae722c8396a62790507f05cdcf4c3694a7e22b550be1b6", func := "tugger/tuggerlaw03.GridBack", spec := "gridBack", unfollowed := true, recurses := true, apart := false, narrowed := true }
def GridBackUptoSaid : Prop := gridBackUptoRow.holds Try.pinned (OpenSpec.upto gridBackSpec)

/-- 'tuggerlaw03.GridTurns', WHERE WHAT IT READS IS OF BULK AT MOST 1048576: true; the input reads as it did. -/
def gridTurnsUptoRow : OpenClaim := { program := "yteibhacpghobpaa", sum := "625963ce2a00344f71ae722c8396a62790507f05cdcf4c3694a7e22b550be1b6", func := "tugger/tuggerlaw03.GridTurns", spec := "gridTurns", unfollowed := true, recurses := true, apart := false, narrowed := true }
def GridTurnsUptoSaid : Prop := gridTurnsUptoRow.holds Try.pinned (OpenSpec.upto gridTurnsSpec)

end Rows
end Go.Proofs.Yteibhacpghobpaa
