/-
  NARROWER THAN 'FOR EVERY INPUT', by the rows' own cells (each row's printed sentence says how): FnExactParseLabel: laid.
  DERIVED. THE GIVEN ROWS OF THIS SEAT. 1 by the template 'for every input the law returns true; each argument reads behind the call as it read before'; 0 by the template 'total and deterministic' (their statements: YtodiekkehbeojahDoorTotals.lean).
  GIVEN WITH THE SEED: the statements are not yours to turn. If you find one false, say at which input.
  Laid BY PROGRAM, IN A SANDBOX (cutbox-rows.mjs): the forced cells as the released guide's own fill.sh prints them over the translation 00baf3b63103357a… (all of the seat's roots in one cut). By AI agents, Wed Nov 11 2026. No macro, syntax, notation, axiom, sorry.
-/
import Derived.Test.YtodiekkehbeojahDoorChecked
import GoSem.Claim
import GoSem.ClaimJoined
import GoSem.ClaimMapViews
import Derived.JoinedTies
import Derived.KernelRfl
namespace Go.Proofs.YtodiekkehbeojahDoor
/- THE CELL 'sum', in the pinned program and in every row, IS THE sha256 OF THE DUMP (.gsa) THAT YtodiekkehbeojahDoorProg.lean LOADS. Nothing in Lean hashes anything: it is a label: what it is worth is what the hold of that sum in a sandbox is worth. -/
noncomputable def Tryd.pinned : Pinned := { name := "ytodiekkehbeojahdoor", sum := "00baf3b63103357af5e2138d0d970095e2571ecb1a994132381f5735258ebd6f", checked := Tryd.checked }
namespace Rows
def none {H : Type} : Left H := { results := [], args := [] }

/- WHAT THE LISTED PACKAGE-LEVEL VARIABLES READ AS WHEN THE CALL BEGINS. Each datum BY PROGRAM (the guide's laid-datum.mjs) off the statement by which the dump's own 'gosem.cut.vars' lays the variable. In a bare row this is a premise. The card (YtodiekkehbeojahDoorCards.lean) ties it to the program's text. -/
def laid_loop_example_g00545_impl_partLetters {H : Type} : DataW H := .agg [.lit (.int .u8 97), .lit (.int .u8 98), .lit (.int .u8 99), .lit (.int .u8 100)]

/-- 'laws.FnExactParseLabel': WHATEVER THE INPUT: true; the input reads as it did. -/
def fnExactParseLabelSpec : ChangeSpec := { name := "fnExactParseLabel", vars := ["loop.example/g00545/impl.partLetters"], fn := fun _ => fun
  | [d, g1] => { results := [.lit (.bool true)], args := [d], vars := [g1] }
  | _ => none }
def fnExactParseLabelRow : OpenClaim := { program := "ytodiekkehbeojahdoor", sum := "00baf3b63103357af5e2138d0d970095e2571ecb1a994132381f5735258ebd6f", func := "loop.example/g00545/laws.FnExactParseLabel", spec := "fnExactParseLabel", recurses := true, named := ["loop.example/g00545/impl.partLetters"], apart := false, laid := [("loop.example/g00545/impl.partLetters", laid_loop_example_g00545_impl_partLetters)] }
def FnExactParseLabelSaid : Prop := fnExactParseLabelRow.holds Tryd.pinned (OpenSpec.ofChange fnExactParseLabelSpec)

/-- ITS FALSE NEIGHBOUR: 'it returns false'. Refute it at one input. -/
def fnExactParseLabelWrong : ChangeSpec := { name := "fnExactParseLabel", vars := ["loop.example/g00545/impl.partLetters"], fn := fun _ => fun
  | [d, g1] => { results := [.lit (.bool false)], args := [d], vars := [g1] }
  | _ => none }
def FnExactParseLabelWrongFalsely : Prop := fnExactParseLabelRow.holds Tryd.pinned (OpenSpec.ofChange fnExactParseLabelWrong)

/- THE SECOND FORM. 'bulk': how many values and letters a reading holds, each counted each time it is reached (what is shared counts as often as it is met; a slice's spare places count too). A statement '..UptoSaid' is the law's where the arguments, and the package variables that the reading takes, are together of bulk at most 1048576: NARROWER than '..Said'. Prove '..Said' where nothing that the law and all that it calls make is longer than what came in: it says more and counts as full. Else prove '..UptoSaid'. A law counts once. -/
mutual
def uptoBulk {H : Type} : DataW H → Nat
  | .lit (.string bytes) => bytes.length + 1
  | .lit _ => 1
  | .nil => 1
  | .ptr d => uptoBulk d + 1
  | .slice elems spare => uptoBulkAll elems + uptoBulkAll spare + 1
  | .agg parts => uptoBulkAll parts + 1
  | .iface _ d => uptoBulk d + 1
  | .map entries => uptoBulkEntries entries + 1
  | .held _ => 1
def uptoBulkAll {H : Type} : List (DataW H) → Nat
  | [] => 0
  | d :: r => uptoBulk d + uptoBulkAll r
def uptoBulkEntries {H : Type} : List (Lit × DataW H) → Nat
  | [] => 0
  | x :: r => uptoBulkEntry x + uptoBulkEntries r
def uptoBulkEntry {H : Type} : Lit × DataW H → Nat
  | (.string bytes, d) => bytes.length + uptoBulk d + 1
  | (_, d) => uptoBulk d + 1
 end
def uptoSmall : (H : Type) → List (DataW H) → Bool := fun _ ds => decide (uptoBulkAll ds ≤ 1048576)
def OpenSpec.upto (s : _root_.Go.ChangeSpec) : _root_.Go.OpenSpec := { _root_.Go.OpenSpec.ofChange s with cond := some uptoSmall }

/-- 'laws.FnExactParseLabel', WHERE WHAT IT READS IS OF BULK AT MOST 1048576: true; the input reads as it did. -/
def fnExactParseLabelUptoRow : OpenClaim := { program := "ytodiekkehbeojahdoor", sum := "00baf3b63103357af5e2138d0d970095e2571ecb1a994132381f5735258ebd6f", func := "loop.example/g00545/laws.FnExactParseLabel", spec := "fnExactParseLabel", recurses := true, named := ["loop.example/g00545/impl.partLetters"], apart := false, laid := [("loop.example/g00545/impl.partLetters", laid_loop_example_g00545_impl_partLetters)], narrowed := true }
def FnExactParseLabelUptoSaid : Prop := fnExactParseLabelUptoRow.holds Tryd.pinned (OpenSpec.upto fnExactParseLabelSpec)

end Rows
end Go.Proofs.YtodiekkehbeojahDoor
