/-
  No cell of these rows narrows 'for every input' (looked for: loops, veiled, ifaces, maps, wideKeys, modest, calm, conditions, laid).
  DERIVED. THE GIVEN ROWS OF THIS SEAT. 3 by the template 'for every input the law returns true; each argument reads behind the call as it read before'; 0 by the template 'total and deterministic' (their statements: YtopgboepkckkjaaTotals.lean).
  GIVEN WITH THE SEED: the statements are not yours to turn. If you find one false, say at which input.
  Laid BY PROGRAM, IN A SANDBOX (cutbox-rows.mjs): the forced cells as the released guide's own fill.sh prints them over the translation 2fd8c6c788b86a3f… (all of the seat's roots in one cut). By AI agents, Wed Nov 11 2026. No macro, syntax, notation, axiom, sorry.
-/
import Derived.Test.YtopgboepkckkjaaChecked
import GoSem.Claim
import GoSem.ClaimJoined
import GoSem.ClaimMapViews
import Derived.JoinedTies
import Derived.KernelRfl
namespace Go.Proofs.Ytopgboepkckkjaa
/- THE CELL 'sum', in the pinned program and in every row, IS THE sha256 OF THE DUMP (.gsa) THAT YtopgboepkckkjaaProg.lean LOADS. Nothing in Lean hashes anything: it is a label: what it is worth is what the hold of that sum in a sandbox is worth. -/
noncomputable def Try.pinned : Pinned := { name := "ytopgboepkckkjaa", sum := "2fd8c6c788b86a3fac5fe3e1879d8a9f52b00fd6561ec7c86d77d1569715811e", checked := Try.checked }
namespace Rows
def none {H : Type} : Left H := { results := [], args := [] }

/-- 'tuggerlaw10.DispatchTells': WHATEVER THE INPUT: true; the input reads as it did. -/
def dispatchTellsSpec : ChangeSpec := { name := "dispatchTells", fn := fun _ => fun
  | [d1, d2, d3] => { results := [.lit (.bool true)], args := [d1, d2, d3] }
  | _ => none }
def dispatchTellsRow : OpenClaim := { program := "ytopgboepkckkjaa", sum := "2fd8c6c788b86a3fac5fe3e1879d8a9f52b00fd6561ec7c86d77d1569715811e", func := "tugger/tuggerlaw10.DispatchTells", spec := "dispatchTells", unfollowed := true, recurses := true, apart := false }
def DispatchTellsSaid : Prop := dispatchTellsRow.holds Try.pinned (OpenSpec.ofChange dispatchTellsSpec)

/-- ITS FALSE NEIGHBOUR: 'it returns false'. Refute it at one input. -/
def dispatchTellsWrong : ChangeSpec := { name := "dispatchTells", fn := fun _ => fun
  | [d1, d2, d3] => { results := [.lit (.bool false)], args := [d1, d2, d3] }
  | _ => none }
def DispatchTellsWrongFalsely : Prop := dispatchTellsRow.holds Try.pinned (OpenSpec.ofChange dispatchTellsWrong)

/-- 'tuggerlaw10.DispatchOnce': WHATEVER THE INPUT: true; the input reads as it did. -/
def dispatchOnceSpec : ChangeSpec := { name := "dispatchOnce", fn := fun _ => fun
  | [d1, d2] => { results := [.lit (.bool true)], args := [d1, d2] }
  | _ => none }
def dispatchOnceRow : OpenClaim := { program := "ytopgboepkckkjaa", sum := "2fd8c6c788b86a3fac5fe3e1879d8a9f52b00fd6561ec7c86d77d1569715811e", func := "tugger/tuggerlaw10.DispatchOnce", spec := "dispatchOnce", unfollowed := true, recurses := true, apart := false }
def DispatchOnceSaid : Prop := dispatchOnceRow.holds Try.pinned (OpenSpec.ofChange dispatchOnceSpec)

/-- ITS FALSE NEIGHBOUR: 'it returns false'. Refute it at one input. -/
def dispatchOnceWrong : ChangeSpec := { name := "dispatchOnce", fn := fun _ => fun
  | [d1, d2] => { results := [.lit (.bool false)], args := [d1, d2] }
  | _ => none }
def DispatchOnceWrongFalsely : Prop := dispatchOnceRow.holds Try.pinned (OpenSpec.ofChange dispatchOnceWrong)

/-- 'tuggerlaw10.DispatchLeft': WHATEVER THE INPUT: true; the input reads as it did. -/
def dispatchLeftSpec : ChangeSpec := { name := "dispatchLeft", fn := fun _ => fun
  | [d1, d2] => { results := [.lit (.bool true)], args := [d1, d2] }
  | _ => none }
def dispatchLeftRow : OpenClaim := { program := "ytopgboepkckkjaa", sum := "2fd8c6c788b86a3fac5fe3e1879d8a9f52b00fd6561ec7c86d77d1569715811e", func := "tugger/tuggerlaw10.DispatchLeft", spec := "dispatchLeft", unfollowed := true, recurses := true, apart := false }
def DispatchLeftSaid : Prop := dispatchLeftRow.holds Try.pinned (OpenSpec.ofChange dispatchLeftSpec)

/-- ITS FALSE NEIGHBOUR: 'it returns false'. Refute it at one input. -/
def dispatchLeftWrong : ChangeSpec := { name := "dispatchLeft", fn := fun _ => fun
  | [d1, d2] => { results := [.lit (.bool false)], args := [d1, d2] }
  | _ => none }
def DispatchLeftWrongFalsely : Prop := dispatchLeftRow.holds Try.pinned (OpenSpec.ofChange dispatchLeftWrong)

/- THE SECOND FORM. 'bulk': how many values and letters a reading holds, each counted each time it is reached (what is shared counts as often as it is met; a slice's spare places count too). A statement '..UptoSaid' is the law's where the arguments, and the package variables that the reading takes, are together of bulk at most 1048576: NARROWER than '..Said'. Prove '..Said' where nothing that the law and all that it calls make is longer than what came in: it says more and counts as full. Else prove '..UptoSaid'. A law counts once. -/
mutual
def uptoBulk {H : Type} : DataW H → Nat
  | .lit (.string bytes) => bytes.length + 1
  | .lit _ => 1
  | .nil => 1
  | .ptr d => uptoBulk d + 1
  | .slice elems spare => uptoBulkAll elems + uptoBulkAll spare + 1
  | .agg parts => uptoBulkAll parts + 1
  | .iface _ d => uptoBulk d + 1
  | .map entries => uptoBulkEntries entries + 1
  | .held _ => 1
def uptoBulkAll {H : Type} : List (DataW H) → Nat
  | [] => 0
  | d :: r => uptoBulk d + uptoBulkAll r
def uptoBulkEntries {H : Type} : List (Lit × DataW H) → Nat
  | [] => 0
  | x :: r => uptoBulkEntry x + uptoBulkEntries r
def uptoBulkEntry {H : Type} : Lit × DataW H → Nat
  | (.string bytes, d) => bytes.length + uptoBulk d + 1
  | (_, d) => uptoBulk d + 1
 end
def uptoSmall : (H : Type) → List (DataW H) → Bool := fun _ ds => decide (uptoBulkAll ds ≤ 1048576)
def OpenSpec.upto (s : _root_.Go.ChangeSpec) : _root_.Go.OpenSpec := { _root_.Go.OpenSpec.ofChange s with cond := some uptoSmall }

/-- 'tuggerlaw10.DispatchTells', WHERE WHAT IT READS IS OF BULK AT MOST 1048576: true; the input reads as it did. -/
def dispatchTellsUptoRow : OpenClaim := { program := "ytopgboepkckkjaa", sum := "2fd8c6c788b86a3fac5fe3e1879d8a9f52b00fd6561ec7c86d77d1569715811e", func := "tugger/tuggerlaw10.DispatchTells", spec := "dispatchTells", unfollowed := true, recurses := true, apart := false, narrowed := true }
def DispatchTellsUptoSaid : Prop := dispatchTellsUptoRow.holds Try.pinned (OpenSpec.upto dispatchTellsSpec)

/-- 'tuggerlaw10.DispatchOnce', WHERE WHAT IT READS IS OF BULK AT MOST 1048576: true; the input reads as it did. -/
def dispatchOnceUptoRow : OpenClaim := { program := "ytopgboepkckkjaa", sum := "2fd8c6c788b86a3fac5fe3e1879d8a9f52b00fd6561ec7c86d77d1569715811e", func := "tugger/tuggerlaw10.DispatchOnce", spec := "dispatchOnce", unfollowed := true, recurses := true, apart := false, narrowed := true }
def DispatchOnceUptoSaid : Prop := dispatchOnceUptoRow.holds Try.pinned (OpenSpec.upto dispatchOnceSpec)

/-- 'tuggerlaw10.DispatchLeft', WHERE WHAT IT READS IS OF BULK AT MOST 1048576: true; the input reads as it did. -/
def dispatchLeftUptoRow : OpenClaim := { program := "ytopgboepkckkjaa", sum := "2fd8c6c788b86a3fac5fe3e1879d8a9f52b00fd6561ec7c86d77d1569715811e", func := "tugger/tuggerlaw10.DispatchLeft", spec := "dispatchLeft", unfollowed := true, recurses := true, apart := false, narrowed := true }
def DispatchLeftUptoSaid : Prop := dispatchLeftUptoRow.holds Try.pinned (OpenSpec.upto dispatchLeftSpec)

end Rows
end Go.Proofs.Ytopgboepkckkjaa
