/-
  No cell of these rows narrows 'for every input' (looked for: loops, veiled, ifaces, maps, wideKeys, modest, calm, conditions, laid).
  DERIVED. THE GIVEN ROWS OF THIS SEAT. 3 by the template 'for every input the law returns true; each argument reads behind the call as it read before'; 0 by the template 'total and deterministic' (their statements: YtccdblbnphmpjaaTotals.lean).
  GIVEN WITH THE SEED: the statements are not yours to turn. If you find one false, say at which input.
  Laid BY PROGRAM, IN A SANDBOX (cutbox-rows.mjs): the forced cells as the released guide's own fill.sh prints them over the translation 1109242e3a33c18a… (all of the seat's roots in one cut). By AI agents, Wed Nov 11 2026. No macro, syntax, notation, axiom, sorry.
-/
import Derived.Test.YtccdblbnphmpjaaChecked
import GoSem.Claim
import GoSem.ClaimJoined
import GoSem.ClaimMapViews
import Derived.JoinedTies
import Derived.KernelRfl
namespace Go.Proofs.Ytccdblbnphmpjaa
/- THE CELL 'sum', in the pinned program and in every row, IS THE sha256 OF THE DUMP (.gsa) THAT YtccdblbnphmpjaaProg.lean LOADS. Nothing in Lean hashes anything: it is a label: what it is worth is what the hold of that sum in a sandbox is worth. -/
noncomputable def Try.pinned : Pinned := { name := "ytccdblbnphmpjaa", sum := "1109242e3a33c18a4ab3a025b22681200936eb58c5f8ffac743a6f77a6d5e33c", checked := Try.checked }
namespace Rows
def none {H : Type} : Left H := { results := [], args := [] }

/-- 'tuggerlaw08.GateTells': WHATEVER THE INPUT: true; the input reads as it did. -/
def gateTellsSpec : ChangeSpec := { name := "gateTells", fn := fun _ => fun
  | [d] => { results := [.lit (.bool true)], args := [d] }
  | _ => none }
def gateTellsRow : OpenClaim := { program := "ytccdblbnphmpjaa", sum := "1109242e3a33c18a4ab3a025b22681200936eb58c5f8ffac743a6f77a6d5e33c", func := "tugger/tuggerlaw08.GateTells", spec := "gateTells", unfollowed := true, recurses := true, plainKeys := false, apart := false }
def GateTellsSaid : Prop := gateTellsRow.holds Try.pinned (OpenSpec.ofChange gateTellsSpec)

/-- ITS FALSE NEIGHBOUR: 'it returns false'. Refute it at one input. -/
def gateTellsWrong : ChangeSpec := { name := "gateTells", fn := fun _ => fun
  | [d] => { results := [.lit (.bool false)], args := [d] }
  | _ => none }
def GateTellsWrongFalsely : Prop := gateTellsRow.holds Try.pinned (OpenSpec.ofChange gateTellsWrong)

/-- 'tuggerlaw08.GateSafe': WHATEVER THE INPUT: true; the input reads as it did. -/
def gateSafeSpec : ChangeSpec := { name := "gateSafe", fn := fun _ => fun
  | [d] => { results := [.lit (.bool true)], args := [d] }
  | _ => none }
def gateSafeRow : OpenClaim := { program := "ytccdblbnphmpjaa", sum := "1109242e3a33c18a4ab3a025b22681200936eb58c5f8ffac743a6f77a6d5e33c", func := "tugger/tuggerlaw08.GateSafe", spec := "gateSafe", unfollowed := true, recurses := true, plainKeys := false, apart := false }
def GateSafeSaid : Prop := gateSafeRow.holds Try.pinned (OpenSpec.ofChange gateSafeSpec)

/-- ITS FALSE NEIGHBOUR: 'it returns false'. Refute it at one input. -/
def gateSafeWrong : ChangeSpec := { name := "gateSafe", fn := fun _ => fun
  | [d] => { results := [.lit (.bool false)], args := [d] }
  | _ => none }
def GateSafeWrongFalsely : Prop := gateSafeRow.holds Try.pinned (OpenSpec.ofChange gateSafeWrong)

/-- 'tuggerlaw08.GateFree': WHATEVER THE INPUT: true; the input reads as it did. -/
def gateFreeSpec : ChangeSpec := { name := "gateFree", fn := fun _ => fun
  | [d] => { results := [.lit (.bool true)], args := [d] }
  | _ => none }
def gateFreeRow : OpenClaim := { program := "ytccdblbnphmpjaa", sum := "1109242e3a33c18a4ab3a025b22681200936eb58c5f8ffac743a6f77a6d5e33c", func := "tugger/tuggerlaw08.GateFree", spec := "gateFree", unfollowed := true, recurses := true, plainKeys := false, apart := false }
def GateFreeSaid : Prop := gateFreeRow.holds Try.pinned (OpenSpec.ofChange gateFreeSpec)

/-- ITS FALSE NEIGHBOUR: 'it returns false'. Refute it at one input. -/
def gateFreeWrong : ChangeSpec := { name := "gateFree", fn := fun _ => fun
  | [d] => { results := [.lit (.bool false)], args := [d] }
  | _ => none }
def GateFreeWrongFalsely : Prop := gateFreeRow.holds Try.pinned (OpenSpec.ofChange gateFreeWrong)

/- THE SECOND FORM. 'bulk': how many values and letters a reading holds, each counted each time it is reached (what is shared counts as often as it is met; a slice's spare places count too). A statement '..UptoSaid' is the law's where the arguments, and the package variables that the reading takes, are together of bulk at most 1048576: NARROWER than '..Said'. Prove '..Said' where nothing that the law and all that it calls make is longer than what came in: it says more and counts as full. Else prove '..UptoSaid'. A law counts once. -/
mutual
def uptoBulk {H : Type} : DataW H → Nat
  | .lit (.string bytes) => bytes.length + 1
  | .lit _ => 1
  | .nil => 1
  | .ptr d => uptoBulk d + 1
  | .slice elems spare => uptoBulkAll elems + uptoBulkAll spare + 1
  | .agg parts => uptoBulkAll parts + 1
  | .iface _ d => uptoBulk d + 1
  | .map entries => uptoBulkEntries entries + 1
  | .held _ => 1
def uptoBulkAll {H : Type} : List (DataW H) → Nat
  | [] => 0
  | d :: r => uptoBulk d + uptoBulkAll r
def uptoBulkEntries {H : Type} : List (Lit × DataW H) → Nat
  | [] => 0
  | x :: r => uptoBulkEntry x + uptoBulkEntries r
def uptoBulkEntry {H : Type} : Lit × DataW H → Nat
  | (.string bytes, d) => bytes.length + uptoBulk d + 1
  | (_, d) => uptoBulk d + 1
 end
def uptoSmall : (H : Type) → List (DataW H) → Bool := fun _ ds => decide (uptoBulkAll ds ≤ 1048576)
def OpenSpec.upto (s : _root_.Go.ChangeSpec) : _root_.Go.OpenSpec := { _root_.Go.OpenSpec.ofChange s with cond := some uptoSmall }

/-- 'tuggerlaw08.GateTells', WHERE WHAT IT READS IS OF BULK AT MOST 1048576: true; the input reads as it did. -/
def gateTellsUptoRow : OpenClaim := { program := "ytccdblbnphmpjaa", sum := "1109242e3a33c18a4ab3a025b22681200936eb58c5f8ffac743a6f77a6d5e33c", func := "tugger/tuggerlaw08.GateTells", spec := "gateTells", unfollowed := true, recurses := true, plainKeys := false, apart := false, narrowed := true }
def GateTellsUptoSaid : Prop := gateTellsUptoRow.holds Try.pinned (OpenSpec.upto gateTellsSpec)

/-- 'tuggerlaw08.GateSafe', WHERE WHAT IT READS IS OF BULK AT MOST 1048576: true; the input reads as it did. -/
def gateSafeUptoRow : OpenClaim := { program := "ytccdblbnphmpjaa", sum := "1109242e3a33c18a4ab3a025b22681200936eb58c5f8ffac743a6f77a6d5e33c", func := "tugger/tuggerlaw08.GateSafe", spec := "gateSafe", unfollowed := true, recurses := true, plainKeys := false, apart := false, narrowed := true }
def GateSafeUptoSaid : Prop := gateSafeUptoRow.holds Try.pinned (OpenSpec.upto gateSafeSpec)

/-- 'tuggerlaw08.GateFree', WHERE WHAT IT READS IS OF BULK AT MOST 1048576: true; the input reads as it did. -/
def gateFreeUptoRow : OpenClaim := { program := "ytccdblbnphmpjaa", sum := "1109242e3a33c18a4ab3a025b22681200936eb58c5f8ffac743a6f77a6d5e33c", func := "tugger/tuggerlaw08.GateFree", spec := "gateFree", unfollowed := true, recurses := true, plainKeys := false, apart := false, narrowed := true }
def GateFreeUptoSaid : Prop := gateFreeUptoRow.holds Try.pinned (OpenSpec.upto gateFreeSpec)

end Rows
end Go.Proofs.Ytccdblbnphmpjaa
