/-
  No cell of these rows narrows 'for every input' (looked for: loops, veiled, ifaces, maps, wideKeys, modest, calm, conditions, laid).
  DERIVED. THE GIVEN ROWS OF THIS SEAT. 3 by the template 'for every input the law returns true; each argument reads behind the call as it read before'; 0 by the template 'total and deterministic' (their statements: YtefkngpceeclhabTotals.lean).
  GIVEN WITH THE SEED: the statements are not yours to turn. If you find one false, say at which input.
  Laid BY PROGRAM, IN A SANDBOX (cutbox-rows.mjs): the forced cells as the released guide's own fill.sh prints them over the translation 0baf141bd8e766bf… (all of the seat's roots in one cut). By AI agents, Wed Nov 11 2026. No macro, syntax, notation, axiom, sorry.
-/
import Derived.Test.YtefkngpceeclhabChecked
import GoSem.Claim
import GoSem.ClaimJoined
import GoSem.ClaimMapViews
import Derived.JoinedTies
import Derived.KernelRfl
namespace Go.Proofs.Ytefkngpceeclhab
/- THE CELL 'sum', in the pinned program and in every row, IS THE sha256 OF THE DUMP (.gsa) THAT YtefkngpceeclhabProg.lean LOADS. Nothing in Lean hashes anything: it is a label: what it is worth is what the hold of that sum in a sandbox is worth. -/
noncomputable def Try.pinned : Pinned := { name := "ytefkngpceeclhab", sum := "0baf141bd8e766bf65d98816a351d54cde9e872d3548334cabf5103cae67380c", checked := Try.checked }
namespace Rows
def none {H : Type} : Left H := { results := [], args := [] }

/-- 'laws.FnExactPackMsgs': WHATEVER THE INPUT: true; the input reads as it did. -/
def fnExactPackMsgsSpec : ChangeSpec := { name := "fnExactPackMsgs", fn := fun _ => fun
  | [d] => { results := [.lit (.bool true)], args := [d] }
  | _ => none }
def fnExactPackMsgsRow : OpenClaim := { program := "ytefkngpceeclhab", sum := "0baf141bd8e766bf65d98816a351d54cde9e872d3548334cabf5103cae67380c", func := "loop.example/g00545/laws.FnExactPackMsgs", spec := "fnExactPackMsgs", apart := false }
def FnExactPackMsgsSaid : Prop := fnExactPackMsgsRow.holds Try.pinned (OpenSpec.ofChange fnExactPackMsgsSpec)

/-- ITS FALSE NEIGHBOUR: 'it returns false'. Refute it at one input. -/
def fnExactPackMsgsWrong : ChangeSpec := { name := "fnExactPackMsgs", fn := fun _ => fun
  | [d] => { results := [.lit (.bool false)], args := [d] }
  | _ => none }
def FnExactPackMsgsWrongFalsely : Prop := fnExactPackMsgsRow.holds Try.pinned (OpenSpec.ofChange fnExactPackMsgsWrong)

/-- 'laws.FnExactSameQueues': WHATEVER THE INPUT: true; the input reads as it did. -/
def fnExactSameQueuesSpec : ChangeSpec := { name := "fnExactSameQueues", fn := fun _ => fun
  | [d1, d2] => { results := [.lit (.bool true)], args := [d1, d2] }
  | _ => none }
def fnExactSameQueuesRow : OpenClaim := { program := "ytefkngpceeclhab", sum := "0baf141bd8e766bf65d98816a351d54cde9e872d3548334cabf5103cae67380c", func := "loop.example/g00545/laws.FnExactSameQueues", spec := "fnExactSameQueues", unfollowed := true, recurses := true, apart := false }
def FnExactSameQueuesSaid : Prop := fnExactSameQueuesRow.holds Try.pinned (OpenSpec.ofChange fnExactSameQueuesSpec)

/-- ITS FALSE NEIGHBOUR: 'it returns false'. Refute it at one input. -/
def fnExactSameQueuesWrong : ChangeSpec := { name := "fnExactSameQueues", fn := fun _ => fun
  | [d1, d2] => { results := [.lit (.bool false)], args := [d1, d2] }
  | _ => none }
def FnExactSameQueuesWrongFalsely : Prop := fnExactSameQueuesRow.holds Try.pinned (OpenSpec.ofChange fnExactSameQueuesWrong)

/-- 'laws.FnExactIsReply': WHATEVER THE INPUT: true; the input reads as it did. -/
def fnExactIsReplySpec : ChangeSpec := { name := "fnExactIsReply", fn := fun _ => fun
  | [d] => { results := [.lit (.bool true)], args := [d] }
  | _ => none }
def fnExactIsReplyRow : OpenClaim := { program := "ytefkngpceeclhab", sum := "0baf141bd8e766bf65d98816a351d54cde9e872d3548334cabf5103cae67380c", func := "loop.example/g00545/laws.FnExactIsReply", spec := "fnExactIsReply", apart := false }
def FnExactIsReplySaid : Prop := fnExactIsReplyRow.holds Try.pinned (OpenSpec.ofChange fnExactIsReplySpec)

/-- ITS FALSE NEIGHBOUR: 'it returns false'. Refute it at one input. -/
def fnExactIsReplyWrong : ChangeSpec := { name := "fnExactIsReply", fn := fun _ => fun
  | [d] => { results := [.lit (.bool false)], args := [d] }
  | _ => none }
def FnExactIsReplyWrongFalsely : Prop := fnExactIsReplyRow.holds Try.pinned (OpenSpec.ofChange fnExactIsReplyWrong)

/- THE SECOND FORM. 'bulk': how many values and letters a reading holds, each counted each time it is reached (what is shared counts as often as it is met; a slice's spare places count too). A statement '..UptoSaid' is the law's where the arguments, and the package variables that the reading takes, are together of bulk at most 1048576: NARROWER than '..Said'. Prove '..Said' where nothing that the law and all that it calls make is longer than what came in: it says more and counts as full. Else prove '..UptoSaid'. A law counts once. -/
mutual
def uptoBulk {H : Type} : DataW H → Nat
  | .lit (.string bytes) => bytes.length + 1
  | .lit _ => 1
  | .nil => 1
  | .ptr d => uptoBulk d + 1
  | .slice elems spare => uptoBulkAll elems + uptoBulkAll spare + 1
  | .agg parts => uptoBulkAll parts + 1
  | .iface _ d => uptoBulk d + 1
  | .map entries => uptoBulkEntries entries + 1
  | .held _ => 1
def uptoBulkAll {H : Type} : List (DataW H) → Nat
  | [] => 0
  | d :: r => uptoBulk d + uptoBulkAll r
def uptoBulkEntries {H : Type} : List (Lit × DataW H) → Nat
  | [] => 0
  | x :: r => uptoBulkEntry x + uptoBulkEntries r
def uptoBulkEntry {H : Type} : Lit × DataW H → Nat
  | (.string bytes, d) => bytes.length + uptoBulk d + 1
  | (_, d) => uptoBulk d + 1
 end
def uptoSmall : (H : Type) → List (DataW H) → Bool := fun _ ds => decide (uptoBulkAll ds ≤ 1048576)
def OpenSpec.upto (s : _root_.Go.ChangeSpec) : _root_.Go.OpenSpec := { _root_.Go.OpenSpec.ofChange s with cond := some uptoSmall }

/-- 'laws.FnExactPackMsgs', WHERE WHAT IT READS IS OF BULK AT MOST 1048576: true; the input reads as it did. -/
def fnExactPackMsgsUptoRow : OpenClaim := { program := "ytefkngpceeclhab", sum := "0baf141bd8e766bf65d98816a351d54cde9e872d3548334cabf5103cae67380c", func := "loop.example/g00545/laws.FnExactPackMsgs", spec := "fnExactPackMsgs", apart := false, narrowed := true }
def FnExactPackMsgsUptoSaid : Prop := fnExactPackMsgsUptoRow.holds Try.pinned (OpenSpec.upto fnExactPackMsgsSpec)

/-- 'laws.FnExactSameQueues', WHERE WHAT IT READS IS OF BULK AT MOST 1048576: true; the input reads as it did. -/
def fnExactSameQueuesUptoRow : OpenClaim := { program := "ytefkngpceeclhab", sum := "0baf141bd8e766bf65d98816a351d54cde9e872d3548334cabf5103cae67380c", func := "loop.example/g00545/laws.FnExactSameQueues", spec := "fnExactSameQueues", unfollowed := true, recurses := true, apart := false, narrowed := true }
def FnExactSameQueuesUptoSaid : Prop := fnExactSameQueuesUptoRow.holds Try.pinned (OpenSpec.upto fnExactSameQueuesSpec)

/-- 'laws.FnExactIsReply', WHERE WHAT IT READS IS OF BULK AT MOST 1048576: true; the input reads as it did. -/
def fnExactIsReplyUptoRow : OpenClaim := { program := "ytefkngpceeclhab", sum := "0baf141bd8e766bf65d98816a351d54cde9e872d3548334cabf5103cae67380c", func := "loop.example/g00545/laws.FnExactIsReply", spec := "fnExactIsReply", apart := false, narrowed := true }
def FnExactIsReplyUptoSaid : Prop := fnExactIsReplyUptoRow.holds Try.pinned (OpenSpec.upto fnExactIsReplySpec)

end Rows
end Go.Proofs.Ytefkngpceeclhab
