/-
  No cell of these rows narrows 'for every input' (looked for: loops, veiled, ifaces, maps, wideKeys, modest, calm, conditions, laid).
  DERIVED. THE GIVEN ROWS OF THIS SEAT. 3 by the template 'for every input the law returns true; each argument reads behind the call as it read before'; 0 by the template 'total and deterministic' (their statements: YtacigmjdppoonaaTotals.lean).
  GIVEN WITH THE SEED: the statements are not yours to turn. If you find one false, say at which input.
  Laid BY PROGRAM, IN A SANDBOX (cutbox-rows.mjs): the forced cells as the released guide's own fill.sh prints them over the translation 42131e87d803abef… (all of the seat's roots in one cut). By AI agents, Wed Nov 11 2026. No macro, syntax, notation, axiom, sorry.
-/
import Derived.Test.YtacigmjdppoonaaChecked
import GoSem.Claim
import GoSem.ClaimJoined
import GoSem.ClaimMapViews
import Derived.JoinedTies
import Derived.KernelRfl
namespace Go.Proofs.Ytacigmjdppoonaa
/- THE CELL 'sum', in the pinned program and in every row, IS THE sha256 OF THE DUMP (.gsa) THAT YtacigmjdppoonaaProg.lean LOADS. Nothing in Lean hashes anything: it is a label: what it is worth is what the hold of that sum in a sandbox is worth. -/
noncomputable def Try.pinned : Pinned := { name := "ytacigmjdppoonaa", sum := "42131e87d803abef2de08fb883e4c1916668fde24ef108f6ef17ca4550961306", checked := Try.checked }
namespace Rows
def none {H : Type} : Left H := { results := [], args := [] }

/-- 'tuggerlaw12.MovesTells': WHATEVER THE INPUT: true; the input reads as it did. -/
def movesTellsSpec : ChangeSpec := { name := "movesTells", fn := fun _ => fun
  | [d1, d2] => { results := [.lit (.bool true)], args := [d1, d2] }
  | _ => none }
def movesTellsRow : OpenClaim := { program := "ytacigmjdppoonaa", sum := "42131e87d803abef2de08fb883e4c1916668fde24ef108f6ef17ca4550961306", func := "tugger/tuggerlaw12.MovesTells", spec := "movesTells", unfollowed := true, recurses := true, apart := false }
def MovesTellsSaid : Prop := movesTellsRow.holds Try.pinned (OpenSpec.ofChange movesTellsSpec)

/-- ITS FALSE NEIGHBOUR: 'it returns false'. Refute it at one input. -/
def movesTellsWrong : ChangeSpec := { name := "movesTells", fn := fun _ => fun
  | [d1, d2] => { results := [.lit (.bool false)], args := [d1, d2] }
  | _ => none }
def MovesTellsWrongFalsely : Prop := movesTellsRow.holds Try.pinned (OpenSpec.ofChange movesTellsWrong)

/-- 'tuggerlaw12.MovesBack': WHATEVER THE INPUT: true; the input reads as it did. -/
def movesBackSpec : ChangeSpec := { name := "movesBack", fn := fun _ => fun
  | [d1, d2] => { results := [.lit (.bool true)], args := [d1, d2] }
  | _ => none }
def movesBackRow : OpenClaim := { program := "ytacigmjdppoonaa", sum := "42131e87d803abef2de08fb883e4c1916668fde24ef108f6ef17ca4550961306", func := "tugger/tuggerlaw12.MovesBack", spec := "movesBack", unfollowed := true, recurses := true, apart := false }
def MovesBackSaid : Prop := movesBackRow.holds Try.pinned (OpenSpec.ofChange movesBackSpec)

/-- ITS FALSE NEIGHBOUR: 'it returns false'. Refute it at one input. -/
def movesBackWrong : ChangeSpec := { name := "movesBack", fn := fun _ => fun
  | [d1, d2] => { results := [.lit (.bool false)], args := [d1, d2] }
  | _ => none }
def MovesBackWrongFalsely : Prop := movesBackRow.holds Try.pinned (OpenSpec.ofChange movesBackWrong)

/-- 'tuggerlaw12.MovesFold': WHATEVER THE INPUT: true; the input reads as it did. -/
def movesFoldSpec : ChangeSpec := { name := "movesFold", fn := fun _ => fun
  | [d1, d2] => { results := [.lit (.bool true)], args := [d1, d2] }
  | _ => none }
def movesFoldRow : OpenClaim := { program := "ytacigmjdppoonaa", sum := "42131e87d803abef2de08fb883e4c1916668fde24ef108f6ef17ca4550961306", func := "tugger/tuggerlaw12.MovesFold", spec := "movesFold", unfollowed := true, recurses := true, apart := false }
def MovesFoldSaid : Prop := movesFoldRow.holds Try.pinned (OpenSpec.ofChange movesFoldSpec)

/-- ITS FALSE NEIGHBOUR: 'it returns false'. Refute it at one input. -/
def movesFoldWrong : ChangeSpec := { name := "movesFold", fn := fun _ => fun
  | [d1, d2] => { results := [.lit (.bool false)], args := [d1, d2] }
  | _ => none }
def MovesFoldWrongFalsely : Prop := movesFoldRow.holds Try.pinned (OpenSpec.ofChange movesFoldWrong)

/- THE SECOND FORM. 'bulk': how many values and letters a reading holds, each counted each time it is reached (what is shared counts as often as it is met; a slice's spare places count too). A statement '..UptoSaid' is the law's where the arguments, and the package variables that the reading takes, are together of bulk at most 1048576: NARROWER than '..Said'. Prove '..Said' where nothing that the law and all that it calls make is longer than what came in: it says more and counts as full. Else prove '..UptoSaid'. A law counts once. -/
mutual
def uptoBulk {H : Type} : DataW H → Nat
  | .lit (.string bytes) => bytes.length + 1
  | .lit _ => 1
  | .nil => 1
  | .ptr d => uptoBulk d + 1
  | .slice elems spare => uptoBulkAll elems + uptoBulkAll spare + 1
  | .agg parts => uptoBulkAll parts + 1
  | .iface _ d => uptoBulk d + 1
  | .map entries => uptoBulkEntries entries + 1
  | .held _ => 1
def uptoBulkAll {H : Type} : List (DataW H) → Nat
  | [] => 0
  | d :: r => uptoBulk d + uptoBulkAll r
def uptoBulkEntries {H : Type} : List (Lit × DataW H) → Nat
  | [] => 0
  | x :: r => uptoBulkEntry x + uptoBulkEntries r
def uptoBulkEntry {H : Type} : Lit × DataW H → Nat
  | (.string bytes, d) => bytes.length + uptoBulk d + 1
  | (_, d) => uptoBulk d + 1
 end
def uptoSmall : (H : Type) → List (DataW H) → Bool := fun _ ds => decide (uptoBulkAll ds ≤ 1048576)
def OpenSpec.upto (s : _root_.Go.ChangeSpec) : _root_.Go.OpenSpec := { _root_.Go.OpenSpec.ofChange s with cond := some uptoSmall }

/-- 'tuggerlaw12.MovesTells', WHERE WHAT IT READS IS OF BULK AT MOST 1048576: true; the input reads as it did. -/
def movesTellsUptoRow : OpenClaim := { program := "ytacigmjdppoonaa", sum := "42131e87d803abef2de08fb883e4c1916668fde24ef108f6ef17ca4550961306", func := "tugger/tuggerlaw12.MovesTells", spec := "movesTells", unfollowed := true, recurses := true, apart := false, narrowed := true }
def MovesTellsUptoSaid : Prop := movesTellsUptoRow.holds Try.pinned (OpenSpec.upto movesTellsSpec)

/-- 'tuggerlaw12.MovesBack', WHERE WHAT IT READS IS OF BULK AT MOST 1048576: true; the input reads as it did. -/
def movesBackUptoRow : OpenClaim := { program := "ytacigmjdppoonaa", sum := "42131e87d803abef2de08fb883e4c1916668fde24ef108f6ef17ca4550961306", func := "tugger/tuggerlaw12.MovesBack", spec := "movesBack", unfollowed := true, recurses := true, apart := false, narrowed := true }
def MovesBackUptoSaid : Prop := movesBackUptoRow.holds Try.pinned (OpenSpec.upto movesBackSpec)

/-- 'tuggerlaw12.MovesFold', WHERE WHAT IT READS IS OF BULK AT MOST 1048576: true; the input reads as it did. -/
def movesFoldUptoRow : OpenClaim := { program := "ytacigmjdppoonaa", sum := "42131e87d803abef2de08fb883e4c1916668fde24ef108f6ef17ca4550961306", func := "tugger/tuggerlaw12.MovesFold", spec := "movesFold", unfollowed := true, recurses := true, apart := false, narrowed := true }
def MovesFoldUptoSaid : Prop := movesFoldUptoRow.holds Try.pinned (OpenSpec.upto movesFoldSpec)

end Rows
end Go.Proofs.Ytacigmjdppoonaa
