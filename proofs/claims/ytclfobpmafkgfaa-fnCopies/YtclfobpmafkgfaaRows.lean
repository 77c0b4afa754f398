/-
  No cell of these rows narrows 'for every input' (looked for: loops, veiled, ifaces, maps, wideKeys, modest, calm, conditions, laid).
  DERIVED. THE GIVEN ROWS OF THIS SEAT. 6 by the template 'for every input the law returns true; each argument reads behind the call as it read before'; 0 by the template 'total and deterministic' (their statements: YtclfobpmafkgfaaTotals.lean).
  GIVEN WITH THE SEED: the statements are not yours to turn. If you find one false, say at which input.
  Laid BY PROGRAM, IN A SANDBOX (cutbox-rows.mjs): the forced cells as the released guide's own fill.sh prints them over the translation 21a970ea92b225ce… (all of the seat's roots in one cut). By AI agents, Wed Nov 11 2026. No macro, syntax, notation, axiom, sorry.
-/
import Derived.Test.YtclfobpmafkgfaaChecked
import GoSem.Claim
import GoSem.ClaimJoined
import GoSem.ClaimMapViews
import Derived.JoinedTies
import Derived.KernelRfl
namespace Go.Proofs.Ytclfobpmafkgfaa
/- THE CELL 'sum', in the pinned program and in every row, IS THE sha256 OF THE DUMP (.gsa) THAT YtclfobpmafkgfaaProg.lean LOADS. Nothing in Lean hashes anything: it is a label: what it is worth is what the hold of that sum in a sandbox is worth. -/
noncomputable def Try.pinned : Pinned := { name := "ytclfobpmafkgfaa", sum := "21a970ea92b225ce5dfaa08b2a5840630fba40d5396999236f08452fb32c39a7", checked := Try.checked }
namespace Rows
def none {H : Type} : Left H := { results := [], args := [] }

/-- 'laws.FnFills': WHATEVER THE INPUT: true; the input reads as it did. -/
def fnFillsSpec : ChangeSpec := { name := "fnFills", fn := fun _ => fun
  | [d] => { results := [.lit (.bool true)], args := [d] }
  | _ => none }
def fnFillsRow : OpenClaim := { program := "ytclfobpmafkgfaa", sum := "21a970ea92b225ce5dfaa08b2a5840630fba40d5396999236f08452fb32c39a7", func := "loop.example/g00545/laws.FnFills", spec := "fnFills", apart := false }
def FnFillsSaid : Prop := fnFillsRow.holds Try.pinned (OpenSpec.ofChange fnFillsSpec)

/-- ITS FALSE NEIGHBOUR: 'it returns false'. Refute it at one input. -/
def fnFillsWrong : ChangeSpec := { name := "fnFills", fn := fun _ => fun
  | [d] => { results := [.lit (.bool false)], args := [d] }
  | _ => none }
def FnFillsWrongFalsely : Prop := fnFillsRow.holds Try.pinned (OpenSpec.ofChange fnFillsWrong)

/-- 'laws.FnCopies': WHATEVER THE INPUT: true; the input reads as it did. -/
def fnCopiesSpec : ChangeSpec := { name := "fnCopies", fn := fun _ => fun
  | [d] => { results := [.lit (.bool true)], args := [d] }
  | _ => none }
def fnCopiesRow : OpenClaim := { program := "ytclfobpmafkgfaa", sum := "21a970ea92b225ce5dfaa08b2a5840630fba40d5396999236f08452fb32c39a7", func := "loop.example/g00545/laws.FnCopies", spec := "fnCopies", apart := false }
def FnCopiesSaid : Prop := fnCopiesRow.holds Try.pinned (OpenSpec.ofChange fnCopiesSpec)

/-- ITS FALSE NEIGHBOUR: 'it returns false'. Refute it at one input. -/
def fnCopiesWrong : ChangeSpec := { name := "fnCopies", fn := fun _ => fun
  | [d] => { results := [.lit (.bool false)], args := [d] }
  | _ => none }
def FnCopiesWrongFalsely : Prop := fnCopiesRow.holds Try.pinned (OpenSpec.ofChange fnCopiesWrong)

/-- 'laws.FnExactFillWindow': WHATEVER THE INPUT: true; the input reads as it did. -/
def fnExactFillWindowSpec : ChangeSpec := { name := "fnExactFillWindow", fn := fun _ => fun
  | [d1, d2, d3, d4] => { results := [.lit (.bool true)], args := [d1, d2, d3, d4] }
  | _ => none }
def fnExactFillWindowRow : OpenClaim := { program := "ytclfobpmafkgfaa", sum := "21a970ea92b225ce5dfaa08b2a5840630fba40d5396999236f08452fb32c39a7", func := "loop.example/g00545/laws.FnExactFillWindow", spec := "fnExactFillWindow", apart := false }
def FnExactFillWindowSaid : Prop := fnExactFillWindowRow.holds Try.pinned (OpenSpec.ofChange fnExactFillWindowSpec)

/-- ITS FALSE NEIGHBOUR: 'it returns false'. Refute it at one input. -/
def fnExactFillWindowWrong : ChangeSpec := { name := "fnExactFillWindow", fn := fun _ => fun
  | [d1, d2, d3, d4] => { results := [.lit (.bool false)], args := [d1, d2, d3, d4] }
  | _ => none }
def FnExactFillWindowWrongFalsely : Prop := fnExactFillWindowRow.holds Try.pinned (OpenSpec.ofChange fnExactFillWindowWrong)

/-- 'laws.FnExactCopyWindow': WHATEVER THE INPUT: true; the input reads as it did. -/
def fnExactCopyWindowSpec : ChangeSpec := { name := "fnExactCopyWindow", fn := fun _ => fun
  | [d1, d2, d3, d4, d5] => { results := [.lit (.bool true)], args := [d1, d2, d3, d4, d5] }
  | _ => none }
def fnExactCopyWindowRow : OpenClaim := { program := "ytclfobpmafkgfaa", sum := "21a970ea92b225ce5dfaa08b2a5840630fba40d5396999236f08452fb32c39a7", func := "loop.example/g00545/laws.FnExactCopyWindow", spec := "fnExactCopyWindow", apart := false }
def FnExactCopyWindowSaid : Prop := fnExactCopyWindowRow.holds Try.pinned (OpenSpec.ofChange fnExactCopyWindowSpec)

/-- ITS FALSE NEIGHBOUR: 'it returns false'. Refute it at one input. -/
def fnExactCopyWindowWrong : ChangeSpec := { name := "fnExactCopyWindow", fn := fun _ => fun
  | [d1, d2, d3, d4, d5] => { results := [.lit (.bool false)], args := [d1, d2, d3, d4, d5] }
  | _ => none }
def FnExactCopyWindowWrongFalsely : Prop := fnExactCopyWindowRow.holds Try.pinned (OpenSpec.ofChange fnExactCopyWindowWrong)

/-- 'laws.FnExactPointOf': WHATEVER THE INPUT: true; the input reads as it did. -/
def fnExactPointOfSpec : ChangeSpec := { name := "fnExactPointOf", fn := fun _ => fun
  | [d1, d2, d3, d4] => { results := [.lit (.bool true)], args := [d1, d2, d3, d4] }
  | _ => none }
def fnExactPointOfRow : OpenClaim := { program := "ytclfobpmafkgfaa", sum := "21a970ea92b225ce5dfaa08b2a5840630fba40d5396999236f08452fb32c39a7", func := "loop.example/g00545/laws.FnExactPointOf", spec := "fnExactPointOf", apart := false }
def FnExactPointOfSaid : Prop := fnExactPointOfRow.holds Try.pinned (OpenSpec.ofChange fnExactPointOfSpec)

/-- ITS FALSE NEIGHBOUR: 'it returns false'. Refute it at one input. -/
def fnExactPointOfWrong : ChangeSpec := { name := "fnExactPointOf", fn := fun _ => fun
  | [d1, d2, d3, d4] => { results := [.lit (.bool false)], args := [d1, d2, d3, d4] }
  | _ => none }
def FnExactPointOfWrongFalsely : Prop := fnExactPointOfRow.holds Try.pinned (OpenSpec.ofChange fnExactPointOfWrong)

/-- 'laws.FnExactCellAt': WHATEVER THE INPUT: true; the input reads as it did. -/
def fnExactCellAtSpec : ChangeSpec := { name := "fnExactCellAt", fn := fun _ => fun
  | [d1, d2, d3] => { results := [.lit (.bool true)], args := [d1, d2, d3] }
  | _ => none }
def fnExactCellAtRow : OpenClaim := { program := "ytclfobpmafkgfaa", sum := "21a970ea92b225ce5dfaa08b2a5840630fba40d5396999236f08452fb32c39a7", func := "loop.example/g00545/laws.FnExactCellAt", spec := "fnExactCellAt", apart := false }
def FnExactCellAtSaid : Prop := fnExactCellAtRow.holds Try.pinned (OpenSpec.ofChange fnExactCellAtSpec)

/-- ITS FALSE NEIGHBOUR: 'it returns false'. Refute it at one input. -/
def fnExactCellAtWrong : ChangeSpec := { name := "fnExactCellAt", fn := fun _ => fun
  | [d1, d2, d3] => { results := [.lit (.bool false)], args := [d1, d2, d3] }
  | _ => none }
def FnExactCellAtWrongFalsely : Prop := fnExactCellAtRow.holds Try.pinned (OpenSpec.ofChange fnExactCellAtWrong)

/- THE SECOND FORM. 'bulk': how many values and letters a reading holds, each counted each time it is reached (what is shared counts as often as it is met; a slice's spare places count too). A statement '..UptoSaid' is the law's where the arguments, and the package variables that the reading takes, are together of bulk at most 1048576: NARROWER than '..Said'. Prove '..Said' where nothing that the law and all that it calls make is longer than what came in: it says more and counts as full. Else prove '..UptoSaid'. A law counts once. -/
mutual
def uptoBulk {H : Type} : DataW H → Nat
  | .lit (.string bytes) => bytes.length + 1
  | .lit _ => 1
  | .nil => 1
  | .ptr d => uptoBulk d + 1
  | .slice elems spare => uptoBulkAll elems + uptoBulkAll spare + 1
  | .agg parts => uptoBulkAll parts + 1
  | .iface _ d => uptoBulk d + 1
  | .map entries => uptoBulkEntries entries + 1
  | .held _ => 1
def uptoBulkAll {H : Type} : List (DataW H) → Nat
  | [] => 0
  | d :: r => uptoBulk d + uptoBulkAll r
def uptoBulkEntries {H : Type} : List (Lit × DataW H) → Nat
  | [] => 0
  | x :: r => uptoBulkEntry x + uptoBulkEntries r
def uptoBulkEntry {H : Type} : Lit × DataW H → Nat
  | (.string bytes, d) => bytes.length + uptoBulk d + 1
  | (_, d) => uptoBulk d + 1
 end
def uptoSmall : (H : Type) → List (DataW H) → Bool := fun _ ds => decide (uptoBulkAll ds ≤ 1048576)
def OpenSpec.upto (s : _root_.Go.ChangeSpec) : _root_.Go.OpenSpec := { _root_.Go.OpenSpec.ofChange s with cond := some uptoSmall }

/-- 'laws.FnFills', WHERE WHAT IT READS IS OF BULK AT MOST 1048576: true; the input reads as it did. -/
def fnFillsUptoRow : OpenClaim := { program := "ytclfobpmafkgfaa", sum := "21a970ea92b225ce5dfaa08b2a5840630fba40d5396999236f08452fb32c39a7", func := "loop.example/g00545/laws.FnFills", spec := "fnFills", apart := false, narrowed := true }
def FnFillsUptoSaid : Prop := fnFillsUptoRow.holds Try.pinned (OpenSpec.upto fnFillsSpec)

/-- 'laws.FnCopies', WHERE WHAT IT READS IS OF BULK AT MOST 1048576: true; the input reads as it did. -/
def fnCopiesUptoRow : OpenClaim := { program := "ytclfobpmafkgfaa", sum := "21a970ea92b225ce5dfaa08b2a5840630fba40d5396999236f08452fb32c39a7", func := "loop.example/g00545/laws.FnCopies", spec := "fnCopies", apart := false, narrowed := true }
def FnCopiesUptoSaid : Prop := fnCopiesUptoRow.holds Try.pinned (OpenSpec.upto fnCopiesSpec)

/-- 'laws.FnExactFillWindow', WHERE WHAT IT READS IS OF BULK AT MOST 1048576: true; the input reads as it did. -/
def fnExactFillWindowUptoRow : OpenClaim := { program := "ytclfobpmafkgfaa", sum := "21a970ea92b225ce5dfaa08b2a5840630fba40d5396999236f08452fb32c39a7", func := "loop.example/g00545/laws.FnExactFillWindow", spec := "fnExactFillWindow", apart := false, narrowed := true }
def FnExactFillWindowUptoSaid : Prop := fnExactFillWindowUptoRow.holds Try.pinned (OpenSpec.upto fnExactFillWindowSpec)

/-- 'laws.FnExactCopyWindow', WHERE WHAT IT READS IS OF BULK AT MOST 1048576: true; the input reads as it did. -/
def fnExactCopyWindowUptoRow : OpenClaim := { program := "ytclfobpmafkgfaa", sum := "21a970ea92b225ce5dfaa08b2a5840630fba40d5396999236f08452fb32c39a7", func := "loop.example/g00545/laws.FnExactCopyWindow", spec := "fnExactCopyWindow", apart := false, narrowed := true }
def FnExactCopyWindowUptoSaid : Prop := fnExactCopyWindowUptoRow.holds Try.pinned (OpenSpec.upto fnExactCopyWindowSpec)

/-- 'laws.FnExactPointOf', WHERE WHAT IT READS IS OF BULK AT MOST 1048576: true; the input reads as it did. -/
def fnExactPointOfUptoRow : OpenClaim := { program := "ytclfobpmafkgfaa", sum := "21a970ea92b225ce5dfaa08b2a5840630fba40d5396999236f08452fb32c39a7", func := "loop.example/g00545/laws.FnExactPointOf", spec := "fnExactPointOf", apart := false, narrowed := true }
def FnExactPointOfUptoSaid : Prop := fnExactPointOfUptoRow.holds Try.pinned (OpenSpec.upto fnExactPointOfSpec)

/-- 'laws.FnExactCellAt', WHERE WHAT IT READS IS OF BULK AT MOST 1048576: true; the input reads as it did. -/
def fnExactCellAtUptoRow : OpenClaim := { program := "ytclfobpmafkgfaa", sum := "21a970ea92b225ce5dfaa08b2a5840630fba40d5396999236f08452fb32c39a7", func := "loop.example/g00545/laws.FnExactCellAt", spec := "fnExactCellAt", apart := false, narrowed := true }
def FnExactCellAtUptoSaid : Prop := fnExactCellAtUptoRow.holds Try.pinned (OpenSpec.upto fnExactCellAtSpec)

end Rows
end Go.Proofs.Ytclfobpmafkgfaa
