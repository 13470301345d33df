/-
  No cell of these rows narrows 'for every input' (looked for: loops, veiled, ifaces, maps, wideKeys, modest, calm, conditions, laid).
  DERIVED. THE GIVEN ROWS OF THIS SEAT. 3 by the template 'for every input the law returns true; each argument reads behind the call as it read before'; 0 by the template 'total and deterministic' (their statements: YtlfgdalpaacccaaTotals.lean).
  GIVEN WITH THE SEED: the statements are not yours to turn. If you find one false, say at which input.
  Laid BY PROGRAM, IN A SANDBOX (cutbox-rows.mjs): the forced cells as the released guide's own fill.sh prints them over the translation b6b45341986be7be… (all of the seat's roots in one cut). By AI agents, Wed Nov 11 2026. No macro, syntax, notation, axiom, sorry.
-/
import Derived.Test.YtlfgdalpaacccaaChecked
import GoSem.Claim
import GoSem.ClaimJoined
import GoSem.ClaimMapViews
import Derived.JoinedTies
import Derived.KernelRfl
namespace Go.Proofs.Ytlfgdalpaacccaa
/- THE CELL 'sum', in the pinned program and in every row, IS THE sha256 OF THE DUMP (.gsa) THAT YtlfgdalpaacccaaProg.lean LOADS. Nothing in Lean hashes anything: it is a label: what it is worth is what the hold of that sum in a sandbox is worth. -/
noncomputable def Try.pinned : Pinned := { name := "ytlfgdalpaacccaa", sum := "b6b45341986be7befa93df58687238b1e16243575074c0c5cf2e91e42d6568e4", checked := Try.checked }
namespace Rows
def none {H : Type} : Left H := { results := [], args := [] }

/-- 'tuggerlaw06.InputTells': WHATEVER THE INPUT: true; the input reads as it did. -/
def inputTellsSpec : ChangeSpec := { name := "inputTells", fn := fun _ => fun
  | [d1, d2, d3] => { results := [.lit (.bool true)], args := [d1, d2, d3] }
  | _ => none }
def inputTellsRow : OpenClaim := { program := "ytlfgdalpaacccaa", sum := "b6b45341986be7befa93df58687238b1e16243575074c0c5cf2e91e42d6568e4", func := "tugger/tuggerlaw06.InputTells", spec := "inputTells", inPlace := ["slices.overlaps[int]"], unfollowed := true, recurses := true, apart := false }
def InputTellsSaid : Prop := inputTellsRow.holds Try.pinned (OpenSpec.ofChange inputTellsSpec)

/-- ITS FALSE NEIGHBOUR: 'it returns false'. Refute it at one input. -/
def inputTellsWrong : ChangeSpec := { name := "inputTells", fn := fun _ => fun
  | [d1, d2, d3] => { results := [.lit (.bool false)], args := [d1, d2, d3] }
  | _ => none }
def InputTellsWrongFalsely : Prop := inputTellsRow.holds Try.pinned (OpenSpec.ofChange inputTellsWrong)

/-- 'tuggerlaw06.InputKeeps': WHATEVER THE INPUT: true; the input reads as it did. -/
def inputKeepsSpec : ChangeSpec := { name := "inputKeeps", fn := fun _ => fun
  | [d1, d2, d3] => { results := [.lit (.bool true)], args := [d1, d2, d3] }
  | _ => none }
def inputKeepsRow : OpenClaim := { program := "ytlfgdalpaacccaa", sum := "b6b45341986be7befa93df58687238b1e16243575074c0c5cf2e91e42d6568e4", func := "tugger/tuggerlaw06.InputKeeps", spec := "inputKeeps", inPlace := ["slices.overlaps[int]"], unfollowed := true, recurses := true, apart := false }
def InputKeepsSaid : Prop := inputKeepsRow.holds Try.pinned (OpenSpec.ofChange inputKeepsSpec)

/-- ITS FALSE NEIGHBOUR: 'it returns false'. Refute it at one input. -/
def inputKeepsWrong : ChangeSpec := { name := "inputKeeps", fn := fun _ => fun
  | [d1, d2, d3] => { results := [.lit (.bool false)], args := [d1, d2, d3] }
  | _ => none }
def InputKeepsWrongFalsely : Prop := inputKeepsRow.holds Try.pinned (OpenSpec.ofChange inputKeepsWrong)

/-- 'tuggerlaw06.InputUndoes': WHATEVER THE INPUT: true; the input reads as it did. -/
def inputUndoesSpec : ChangeSpec := { name := "inputUndoes", fn := fun _ => fun
  | [d1, d2, d3] => { results := [.lit (.bool true)], args := [d1, d2, d3] }
  | _ => none }
def inputUndoesRow : OpenClaim := { program := "ytlfgdalpaacccaa", sum := "b6b45341986be7befa93df58687238b1e16243575074c0c5cf2e91e42d6568e4", func := "tugger/tuggerlaw06.InputUndoes", spec := "inputUndoes", inPlace := ["slices.overlaps[int]"], unfollowed := true, recurses := true, apart := false }
def InputUndoesSaid : Prop := inputUndoesRow.holds Try.pinned (OpenSpec.ofChange inputUndoesSpec)

/-- ITS FALSE NEIGHBOUR: 'it returns false'. Refute it at one input. -/
def inputUndoesWrong : ChangeSpec := { name := "inputUndoes", fn := fun _ => fun
  | [d1, d2, d3] => { results := [.lit (.bool false)], args := [d1, d2, d3] }
  | _ => none }
def InputUndoesWrongFalsely : Prop := inputUndoesRow.holds Try.pinned (OpenSpec.ofChange inputUndoesWrong)

/- THE SECOND FORM. 'bulk': how many values and letters a reading holds, each counted each time it is reached (what is shared counts as often as it is met; a slice's spare places count too). A statement '..UptoSaid' is the law's where the arguments, and the package variables that the reading takes, are together of bulk at most 1048576: NARROWER than '..Said'. Prove '..Said' where nothing that the law and all that it calls make is longer than what came in: it says more and counts as full. Else prove '..UptoSaid'. A law counts once. -/
mutual
def uptoBulk {H : Type} : DataW H → Nat
  | .lit (.string bytes) => bytes.length + 1
  | .lit _ => 1
  | .nil => 1
  | .ptr d => uptoBulk d + 1
  | .slice elems spare => uptoBulkAll elems + uptoBulkAll spare + 1
  | .agg parts => uptoBulkAll parts + 1
  | .iface _ d => uptoBulk d + 1
  | .map entries => uptoBulkEntries entries + 1
  | .held _ => 1
def uptoBulkAll {H : Type} : List (DataW H) → Nat
  | [] => 0
  | d :: r => uptoBulk d + uptoBulkAll r
def uptoBulkEntries {H : Type} : List (Lit × DataW H) → Nat
  | [] => 0
  | x :: r => uptoBulkEntry x + uptoBulkEntries r
def uptoBulkEntry {H : Type} : Lit × DataW H → Nat
  | (.string bytes, d) => bytes.length + uptoBulk d + 1
  | (_, d) => uptoBulk d + 1
 end
def uptoSmall : (H : Type) → List (DataW H) → Bool := fun _ ds => decide (uptoBulkAll ds ≤ 1048576)
def OpenSpec.upto (s : _root_.Go.ChangeSpec) : _root_.Go.OpenSpec := { _root_.Go.OpenSpec.ofChange s with cond := some uptoSmall }

/-- 'tuggerlaw06.InputTells', WHERE WHAT IT READS IS OF BULK AT MOST 1048576: true; the input reads as it did. -/
def inputTellsUptoRow : OpenClaim := { program := "ytlfgdalpaacccaa", sum := "b6b45341986be7befa93df58687238b1e16243575074c0c5cf2e91e42d6568e4", func := "tugger/tuggerlaw06.InputTells", spec := "inputTells", inPlace := ["slices.overlaps[int]"], unfollowed := true, recurses := true, apart := false, narrowed := true }
def InputTellsUptoSaid : Prop := inputTellsUptoRow.holds Try.pinned (OpenSpec.upto inputTellsSpec)

/-- 'tuggerlaw06.InputKeeps', WHERE WHAT IT READS IS OF BULK AT MOST 1048576: true; the input reads as it did. -/
def inputKeepsUptoRow : OpenClaim := { program := "ytlfgdalpaacccaa", sum := "b6b45341986be7befa93df58687238b1e16243575074c0c5cf2e91e42d6568e4", func := "tugger/tuggerlaw06.InputKeeps", spec := "inputKeeps", inPlace := ["slices.overlaps[int]"], unfollowed := true, recurses := true, apart := false, narrowed := true }
def InputKeepsUptoSaid : Prop := inputKeepsUptoRow.holds Try.pinned (OpenSpec.upto inputKeepsSpec)

/-- 'tuggerlaw06.InputUndoes', WHERE WHAT IT READS IS OF BULK AT MOST 1048576: true; the input reads as it did. -/
def inputUndoesUptoRow : OpenClaim := { program := "ytlfgdalpaacccaa", sum := "b6b45341986be7befa93df58687238b1e16243575074c0c5cf2e91e42d6568e4", func := "tugger/tuggerlaw06.InputUndoes", spec := "inputUndoes", inPlace := ["slices.overlaps[int]"], unfollowed := true, recurses := true, apart := false, narrowed := true }
def InputUndoesUptoSaid : Prop := inputUndoesUptoRow.holds Try.pinned (OpenSpec.upto inputUndoesSpec)

end Rows
end Go.Proofs.Ytlfgdalpaacccaa
