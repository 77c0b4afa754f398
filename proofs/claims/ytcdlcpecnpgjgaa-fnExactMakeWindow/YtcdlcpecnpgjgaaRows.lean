/-
  No cell of these rows narrows 'for every input' (looked for: loops, veiled, ifaces, maps, wideKeys, modest, calm, conditions, laid).
  DERIVED. THE GIVEN ROWS OF THIS SEAT. 6 by the template 'for every input the law returns true; each argument reads behind the call as it read before'; 0 by the template 'total and deterministic' (their statements: YtcdlcpecnpgjgaaTotals.lean).
  GIVEN WITH THE SEED: the statements are not yours to turn. If you find one false, say at which input.
  Laid BY PROGRAM, IN A SANDBOX (cutbox-rows.mjs): the forced cells as the released guide's own fill.sh prints them over the translation 9d8b4403d203da41… (all of the seat's roots in one cut). By AI agents, Wed Nov 11 2026. No macro, syntax, notation, axiom, sorry.
-/
import Derived.Test.YtcdlcpecnpgjgaaChecked
import GoSem.Claim
import GoSem.ClaimJoined
import GoSem.ClaimMapViews
import Derived.JoinedTies
import Derived.KernelRfl
namespace Go.Proofs.Ytcdlcpecnpgjgaa
/- THE CELL 'sum', in the pinned program and in every row, IS THE sha256 OF THE DUMP (.gsa) THAT YtcdlcpecnpgjgaaProg.lean LOADS. Nothing in Lean hashes anything: it is a label: what it is worth is what the hold of that sum in a sandbox is worth. -/
noncomputable def Try.pinned : Pinned := { name := "ytcdlcpecnpgjgaa", sum := "9d8b4403d203da41fbc5059c396b5defd7fc7e26a74e07dd640eb68a061857bf", checked := Try.checked }
namespace Rows
def none {H : Type} : Left H := { results := [], args := [] }

/-- 'laws.FnExactMakeWindow': WHATEVER THE INPUT: true; the input reads as it did. -/
def fnExactMakeWindowSpec : ChangeSpec := { name := "fnExactMakeWindow", fn := fun _ => fun
  | [d1, d2, d3] => { results := [.lit (.bool true)], args := [d1, d2, d3] }
  | _ => none }
def fnExactMakeWindowRow : OpenClaim := { program := "ytcdlcpecnpgjgaa", sum := "9d8b4403d203da41fbc5059c396b5defd7fc7e26a74e07dd640eb68a061857bf", func := "loop.example/g00545/laws.FnExactMakeWindow", spec := "fnExactMakeWindow", apart := false }
def FnExactMakeWindowSaid : Prop := fnExactMakeWindowRow.holds Try.pinned (OpenSpec.ofChange fnExactMakeWindowSpec)

/-- ITS FALSE NEIGHBOUR: 'it returns false'. Refute it at one input. -/
def fnExactMakeWindowWrong : ChangeSpec := { name := "fnExactMakeWindow", fn := fun _ => fun
  | [d1, d2, d3] => { results := [.lit (.bool false)], args := [d1, d2, d3] }
  | _ => none }
def FnExactMakeWindowWrongFalsely : Prop := fnExactMakeWindowRow.holds Try.pinned (OpenSpec.ofChange fnExactMakeWindowWrong)

/-- 'laws.FnExactMapWindow': WHATEVER THE INPUT: true; the input reads as it did. -/
def fnExactMapWindowSpec : ChangeSpec := { name := "fnExactMapWindow", fn := fun _ => fun
  | [d1, d2, d3] => { results := [.lit (.bool true)], args := [d1, d2, d3] }
  | _ => none }
def fnExactMapWindowRow : OpenClaim := { program := "ytcdlcpecnpgjgaa", sum := "9d8b4403d203da41fbc5059c396b5defd7fc7e26a74e07dd640eb68a061857bf", func := "loop.example/g00545/laws.FnExactMapWindow", spec := "fnExactMapWindow", apart := false }
def FnExactMapWindowSaid : Prop := fnExactMapWindowRow.holds Try.pinned (OpenSpec.ofChange fnExactMapWindowSpec)

/-- ITS FALSE NEIGHBOUR: 'it returns false'. Refute it at one input. -/
def fnExactMapWindowWrong : ChangeSpec := { name := "fnExactMapWindow", fn := fun _ => fun
  | [d1, d2, d3] => { results := [.lit (.bool false)], args := [d1, d2, d3] }
  | _ => none }
def FnExactMapWindowWrongFalsely : Prop := fnExactMapWindowRow.holds Try.pinned (OpenSpec.ofChange fnExactMapWindowWrong)

/-- 'laws.FnExactMoveWindow': WHATEVER THE INPUT: true; the input reads as it did. -/
def fnExactMoveWindowSpec : ChangeSpec := { name := "fnExactMoveWindow", fn := fun _ => fun
  | [d1, d2, d3, d4] => { results := [.lit (.bool true)], args := [d1, d2, d3, d4] }
  | _ => none }
def fnExactMoveWindowRow : OpenClaim := { program := "ytcdlcpecnpgjgaa", sum := "9d8b4403d203da41fbc5059c396b5defd7fc7e26a74e07dd640eb68a061857bf", func := "loop.example/g00545/laws.FnExactMoveWindow", spec := "fnExactMoveWindow", apart := false }
def FnExactMoveWindowSaid : Prop := fnExactMoveWindowRow.holds Try.pinned (OpenSpec.ofChange fnExactMoveWindowSpec)

/-- ITS FALSE NEIGHBOUR: 'it returns false'. Refute it at one input. -/
def fnExactMoveWindowWrong : ChangeSpec := { name := "fnExactMoveWindow", fn := fun _ => fun
  | [d1, d2, d3, d4] => { results := [.lit (.bool false)], args := [d1, d2, d3, d4] }
  | _ => none }
def FnExactMoveWindowWrongFalsely : Prop := fnExactMoveWindowRow.holds Try.pinned (OpenSpec.ofChange fnExactMoveWindowWrong)

/-- 'laws.FnExactDropWindow': WHATEVER THE INPUT: true; the input reads as it did. -/
def fnExactDropWindowSpec : ChangeSpec := { name := "fnExactDropWindow", fn := fun _ => fun
  | [d1, d2] => { results := [.lit (.bool true)], args := [d1, d2] }
  | _ => none }
def fnExactDropWindowRow : OpenClaim := { program := "ytcdlcpecnpgjgaa", sum := "9d8b4403d203da41fbc5059c396b5defd7fc7e26a74e07dd640eb68a061857bf", func := "loop.example/g00545/laws.FnExactDropWindow", spec := "fnExactDropWindow", unfollowed := true, recurses := true, apart := false }
def FnExactDropWindowSaid : Prop := fnExactDropWindowRow.holds Try.pinned (OpenSpec.ofChange fnExactDropWindowSpec)

/-- ITS FALSE NEIGHBOUR: 'it returns false'. Refute it at one input. -/
def fnExactDropWindowWrong : ChangeSpec := { name := "fnExactDropWindow", fn := fun _ => fun
  | [d1, d2] => { results := [.lit (.bool false)], args := [d1, d2] }
  | _ => none }
def FnExactDropWindowWrongFalsely : Prop := fnExactDropWindowRow.holds Try.pinned (OpenSpec.ofChange fnExactDropWindowWrong)

/-- 'laws.FnExactRaiseWindow': WHATEVER THE INPUT: true; the input reads as it did. -/
def fnExactRaiseWindowSpec : ChangeSpec := { name := "fnExactRaiseWindow", fn := fun _ => fun
  | [d1, d2] => { results := [.lit (.bool true)], args := [d1, d2] }
  | _ => none }
def fnExactRaiseWindowRow : OpenClaim := { program := "ytcdlcpecnpgjgaa", sum := "9d8b4403d203da41fbc5059c396b5defd7fc7e26a74e07dd640eb68a061857bf", func := "loop.example/g00545/laws.FnExactRaiseWindow", spec := "fnExactRaiseWindow", unfollowed := true, recurses := true, apart := false }
def FnExactRaiseWindowSaid : Prop := fnExactRaiseWindowRow.holds Try.pinned (OpenSpec.ofChange fnExactRaiseWindowSpec)

/-- ITS FALSE NEIGHBOUR: 'it returns false'. Refute it at one input. -/
def fnExactRaiseWindowWrong : ChangeSpec := { name := "fnExactRaiseWindow", fn := fun _ => fun
  | [d1, d2] => { results := [.lit (.bool false)], args := [d1, d2] }
  | _ => none }
def FnExactRaiseWindowWrongFalsely : Prop := fnExactRaiseWindowRow.holds Try.pinned (OpenSpec.ofChange fnExactRaiseWindowWrong)

/-- 'laws.FnStacks': WHATEVER THE INPUT: true; the input reads as it did. -/
def fnStacksSpec : ChangeSpec := { name := "fnStacks", fn := fun _ => fun
  | [d] => { results := [.lit (.bool true)], args := [d] }
  | _ => none }
def fnStacksRow : OpenClaim := { program := "ytcdlcpecnpgjgaa", sum := "9d8b4403d203da41fbc5059c396b5defd7fc7e26a74e07dd640eb68a061857bf", func := "loop.example/g00545/laws.FnStacks", spec := "fnStacks", unfollowed := true, recurses := true, apart := false }
def FnStacksSaid : Prop := fnStacksRow.holds Try.pinned (OpenSpec.ofChange fnStacksSpec)

/-- ITS FALSE NEIGHBOUR: 'it returns false'. Refute it at one input. -/
def fnStacksWrong : ChangeSpec := { name := "fnStacks", fn := fun _ => fun
  | [d] => { results := [.lit (.bool false)], args := [d] }
  | _ => none }
def FnStacksWrongFalsely : Prop := fnStacksRow.holds Try.pinned (OpenSpec.ofChange fnStacksWrong)

/- THE SECOND FORM. 'bulk': how many values and letters a reading holds, each counted each time it is reached (what is shared counts as often as it is met; a slice's spare places count too). A statement '..UptoSaid' is the law's where the arguments, and the package variables that the reading takes, are together of bulk at most 1048576: NARROWER than '..Said'. Prove '..Said' where nothing that the law and all that it calls make is longer than what came in: it says more and counts as full. Else prove '..UptoSaid'. A law counts once. -/
mutual
def uptoBulk {H : Type} : DataW H → Nat
  | .lit (.string bytes) => bytes.length + 1
  | .lit _ => 1
  | .nil => 1
  | .ptr d => uptoBulk d + 1
  | .slice elems spare => uptoBulkAll elems + uptoBulkAll spare + 1
  | .agg parts => uptoBulkAll parts + 1
  | .iface _ d => uptoBulk d + 1
  | .map entries => uptoBulkEntries entries + 1
  | .held _ => 1
def uptoBulkAll {H : Type} : List (DataW H) → Nat
  | [] => 0
  | d :: r => uptoBulk d + uptoBulkAll r
def uptoBulkEntries {H : Type} : List (Lit × DataW H) → Nat
  | [] => 0
  | x :: r => uptoBulkEntry x + uptoBulkEntries r
def uptoBulkEntry {H : Type} : Lit × DataW H → Nat
  | (.string bytes, d) => bytes.length + uptoBulk d + 1
  | (_, d) => uptoBulk d + 1
 end
def uptoSmall : (H : Type) → List (DataW H) → Bool := fun _ ds => decide (uptoBulkAll ds ≤ 1048576)
def OpenSpec.upto (s : _root_.Go.ChangeSpec) : _root_.Go.OpenSpec := { _root_.Go.OpenSpec.ofChange s with cond := some uptoSmall }

/-- 'laws.FnExactMakeWindow', WHERE WHAT IT READS IS OF BULK AT MOST 1048576: true; the input reads as it did. -/
def fnExactMakeWindowUptoRow : OpenClaim := { program := "ytcdlcpecnpgjgaa", sum := "9d8b4403d203da41fbc5059c396b5defd7fc7e26a74e07dd640eb68a061857bf", func := "loop.example/g00545/laws.FnExactMakeWindow", spec := "fnExactMakeWindow", apart := false, narrowed := true }
def FnExactMakeWindowUptoSaid : Prop := fnExactMakeWindowUptoRow.holds Try.pinned (OpenSpec.upto fnExactMakeWindowSpec)

/-- 'laws.FnExactMapWindow', WHERE WHAT IT READS IS OF BULK AT MOST 1048576: true; the input reads as it did. -/
def fnExactMapWindowUptoRow : OpenClaim := { program := "ytcdlcpecnpgjgaa", sum := "9d8b4403d203da41fbc5059c396b5defd7fc7e26a74e07dd640eb68a061857bf", func := "loop.example/g00545/laws.FnExactMapWindow", spec := "fnExactMapWindow", apart := false, narrowed := true }
def FnExactMapWindowUptoSaid : Prop := fnExactMapWindowUptoRow.holds Try.pinned (OpenSpec.upto fnExactMapWindowSpec)

/-- 'laws.FnExactMoveWindow', WHERE WHAT IT READS IS OF BULK AT MOST 1048576: true; the input reads as it did. -/
def fnExactMoveWindowUptoRow : OpenClaim := { program := "ytcdlcpecnpgjgaa", sum := "9d8b4403d203da41fbc5059c396b5defd7fc7e26a74e07dd640eb68a061857bf", func := "loop.example/g00545/laws.FnExactMoveWindow", spec := "fnExactMoveWindow", apart := false, narrowed := true }
def FnExactMoveWindowUptoSaid : Prop := fnExactMoveWindowUptoRow.holds Try.pinned (OpenSpec.upto fnExactMoveWindowSpec)

/-- 'laws.FnExactDropWindow', WHERE WHAT IT READS IS OF BULK AT MOST 1048576: true; the input reads as it did. -/
def fnExactDropWindowUptoRow : OpenClaim := { program := "ytcdlcpecnpgjgaa", sum := "9d8b4403d203da41fbc5059c396b5defd7fc7e26a74e07dd640eb68a061857bf", func := "loop.example/g00545/laws.FnExactDropWindow", spec := "fnExactDropWindow", unfollowed := true, recurses := true, apart := false, narrowed := true }
def FnExactDropWindowUptoSaid : Prop := fnExactDropWindowUptoRow.holds Try.pinned (OpenSpec.upto fnExactDropWindowSpec)

/-- 'laws.FnExactRaiseWindow', WHERE WHAT IT READS IS OF BULK AT MOST 1048576: true; the input reads as it did. -/
def fnExactRaiseWindowUptoRow : OpenClaim := { program := "ytcdlcpecnpgjgaa", sum := "9d8b4403d203da41fbc5059c396b5defd7fc7e26a74e07dd640eb68a061857bf", func := "loop.example/g00545/laws.FnExactRaiseWindow", spec := "fnExactRaiseWindow", unfollowed := true, recurses := true, apart := false, narrowed := true }
def FnExactRaiseWindowUptoSaid : Prop := fnExactRaiseWindowUptoRow.holds Try.pinned (OpenSpec.upto fnExactRaiseWindowSpec)

/-- 'laws.FnStacks', WHERE WHAT IT READS IS OF BULK AT MOST 1048576: true; the input reads as it did. -/
def fnStacksUptoRow : OpenClaim := { program := "ytcdlcpecnpgjgaa", sum := "9d8b4403d203da41fbc5059c396b5defd7fc7e26a74e07dd640eb68a061857bf", func := "loop.example/g00545/laws.FnStacks", spec := "fnStacks", unfollowed := true, recurses := true, apart := false, narrowed := true }
def FnStacksUptoSaid : Prop := fnStacksUptoRow.holds Try.pinned (OpenSpec.upto fnStacksSpec)

end Rows
end Go.Proofs.Ytcdlcpecnpgjgaa
