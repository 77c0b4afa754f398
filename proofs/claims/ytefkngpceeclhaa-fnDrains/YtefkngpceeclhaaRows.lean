/-
  No cell of these rows narrows 'for every input' (looked for: loops, veiled, ifaces, maps, wideKeys, modest, calm, conditions, laid).
  DERIVED. THE GIVEN ROWS OF THIS SEAT. 6 by the template 'for every input the law returns true; each argument reads behind the call as it read before'; 0 by the template 'total and deterministic' (their statements: YtefkngpceeclhaaTotals.lean).
  GIVEN WITH THE SEED: the statements are not yours to turn. If you find one false, say at which input.
  Laid BY PROGRAM, IN A SANDBOX (cutbox-rows.mjs): the forced cells as the released guide's own fill.sh prints them over the translation e4fe0c944e8c8096… (all of the seat's roots in one cut). By AI agents, Wed Nov 11 2026. No macro, syntax, notation, axiom, sorry.
-/
import Derived.Test.YtefkngpceeclhaaChecked
import GoSem.Claim
import GoSem.ClaimJoined
import GoSem.ClaimMapViews
import Derived.JoinedTies
import Derived.KernelRfl
namespace Go.Proofs.Ytefkngpceeclhaa
/- THE CELL 'sum', in the pinned program and in every row, IS THE sha256 OF THE DUMP (.gsa) THAT YtefkngpceeclhaaProg.lean LOADS. Nothing in Lean hashes anything: it is a label: what it is worth is what the hold of that sum in a sandbox is worth. -/
noncomputable def Try.pinned : Pinned := { name := "ytefkngpceeclhaa", sum := "e4fe0c944e8c80965ecfe3f335a2d032a02bcc0f76d27656a59cc4e4c473aa09", checked := Try.checked }
namespace Rows
def none {H : Type} : Left H := { results := [], args := [] }

/-- 'laws.FnQueues': WHATEVER THE INPUT: true; the input reads as it did. -/
def fnQueuesSpec : ChangeSpec := { name := "fnQueues", fn := fun _ => fun
  | [d] => { results := [.lit (.bool true)], args := [d] }
  | _ => none }
def fnQueuesRow : OpenClaim := { program := "ytefkngpceeclhaa", sum := "e4fe0c944e8c80965ecfe3f335a2d032a02bcc0f76d27656a59cc4e4c473aa09", func := "loop.example/g00545/laws.FnQueues", spec := "fnQueues", apart := false }
def FnQueuesSaid : Prop := fnQueuesRow.holds Try.pinned (OpenSpec.ofChange fnQueuesSpec)

/-- ITS FALSE NEIGHBOUR: 'it returns false'. Refute it at one input. -/
def fnQueuesWrong : ChangeSpec := { name := "fnQueues", fn := fun _ => fun
  | [d] => { results := [.lit (.bool false)], args := [d] }
  | _ => none }
def FnQueuesWrongFalsely : Prop := fnQueuesRow.holds Try.pinned (OpenSpec.ofChange fnQueuesWrong)

/-- 'laws.FnDrains': WHATEVER THE INPUT: true; the input reads as it did. -/
def fnDrainsSpec : ChangeSpec := { name := "fnDrains", fn := fun _ => fun
  | [d] => { results := [.lit (.bool true)], args := [d] }
  | _ => none }
def fnDrainsRow : OpenClaim := { program := "ytefkngpceeclhaa", sum := "e4fe0c944e8c80965ecfe3f335a2d032a02bcc0f76d27656a59cc4e4c473aa09", func := "loop.example/g00545/laws.FnDrains", spec := "fnDrains", unfollowed := true, recurses := true, apart := false }
def FnDrainsSaid : Prop := fnDrainsRow.holds Try.pinned (OpenSpec.ofChange fnDrainsSpec)

/-- ITS FALSE NEIGHBOUR: 'it returns false'. Refute it at one input. -/
def fnDrainsWrong : ChangeSpec := { name := "fnDrains", fn := fun _ => fun
  | [d] => { results := [.lit (.bool false)], args := [d] }
  | _ => none }
def FnDrainsWrongFalsely : Prop := fnDrainsRow.holds Try.pinned (OpenSpec.ofChange fnDrainsWrong)

/-- 'laws.FnExactQueueFault': WHATEVER THE INPUT: true; the input reads as it did. -/
def fnExactQueueFaultSpec : ChangeSpec := { name := "fnExactQueueFault", fn := fun _ => fun
  | [d] => { results := [.lit (.bool true)], args := [d] }
  | _ => none }
def fnExactQueueFaultRow : OpenClaim := { program := "ytefkngpceeclhaa", sum := "e4fe0c944e8c80965ecfe3f335a2d032a02bcc0f76d27656a59cc4e4c473aa09", func := "loop.example/g00545/laws.FnExactQueueFault", spec := "fnExactQueueFault", apart := false }
def FnExactQueueFaultSaid : Prop := fnExactQueueFaultRow.holds Try.pinned (OpenSpec.ofChange fnExactQueueFaultSpec)

/-- ITS FALSE NEIGHBOUR: 'it returns false'. Refute it at one input. -/
def fnExactQueueFaultWrong : ChangeSpec := { name := "fnExactQueueFault", fn := fun _ => fun
  | [d] => { results := [.lit (.bool false)], args := [d] }
  | _ => none }
def FnExactQueueFaultWrongFalsely : Prop := fnExactQueueFaultRow.holds Try.pinned (OpenSpec.ofChange fnExactQueueFaultWrong)

/-- 'laws.FnExactPushEvent': WHATEVER THE INPUT: true; the input reads as it did. -/
def fnExactPushEventSpec : ChangeSpec := { name := "fnExactPushEvent", fn := fun _ => fun
  | [d1, d2] => { results := [.lit (.bool true)], args := [d1, d2] }
  | _ => none }
def fnExactPushEventRow : OpenClaim := { program := "ytefkngpceeclhaa", sum := "e4fe0c944e8c80965ecfe3f335a2d032a02bcc0f76d27656a59cc4e4c473aa09", func := "loop.example/g00545/laws.FnExactPushEvent", spec := "fnExactPushEvent", apart := false }
def FnExactPushEventSaid : Prop := fnExactPushEventRow.holds Try.pinned (OpenSpec.ofChange fnExactPushEventSpec)

/-- ITS FALSE NEIGHBOUR: 'it returns false'. Refute it at one input. -/
def fnExactPushEventWrong : ChangeSpec := { name := "fnExactPushEvent", fn := fun _ => fun
  | [d1, d2] => { results := [.lit (.bool false)], args := [d1, d2] }
  | _ => none }
def FnExactPushEventWrongFalsely : Prop := fnExactPushEventRow.holds Try.pinned (OpenSpec.ofChange fnExactPushEventWrong)

/-- 'laws.FnExactPushReply': WHATEVER THE INPUT: true; the input reads as it did. -/
def fnExactPushReplySpec : ChangeSpec := { name := "fnExactPushReply", fn := fun _ => fun
  | [d1, d2] => { results := [.lit (.bool true)], args := [d1, d2] }
  | _ => none }
def fnExactPushReplyRow : OpenClaim := { program := "ytefkngpceeclhaa", sum := "e4fe0c944e8c80965ecfe3f335a2d032a02bcc0f76d27656a59cc4e4c473aa09", func := "loop.example/g00545/laws.FnExactPushReply", spec := "fnExactPushReply", apart := false }
def FnExactPushReplySaid : Prop := fnExactPushReplyRow.holds Try.pinned (OpenSpec.ofChange fnExactPushReplySpec)

/-- ITS FALSE NEIGHBOUR: 'it returns false'. Refute it at one input. -/
def fnExactPushReplyWrong : ChangeSpec := { name := "fnExactPushReply", fn := fun _ => fun
  | [d1, d2] => { results := [.lit (.bool false)], args := [d1, d2] }
  | _ => none }
def FnExactPushReplyWrongFalsely : Prop := fnExactPushReplyRow.holds Try.pinned (OpenSpec.ofChange fnExactPushReplyWrong)

/-- 'laws.FnExactDrainQueue': WHATEVER THE INPUT: true; the input reads as it did. -/
def fnExactDrainQueueSpec : ChangeSpec := { name := "fnExactDrainQueue", fn := fun _ => fun
  | [d1, d2] => { results := [.lit (.bool true)], args := [d1, d2] }
  | _ => none }
def fnExactDrainQueueRow : OpenClaim := { program := "ytefkngpceeclhaa", sum := "e4fe0c944e8c80965ecfe3f335a2d032a02bcc0f76d27656a59cc4e4c473aa09", func := "loop.example/g00545/laws.FnExactDrainQueue", spec := "fnExactDrainQueue", apart := false }
def FnExactDrainQueueSaid : Prop := fnExactDrainQueueRow.holds Try.pinned (OpenSpec.ofChange fnExactDrainQueueSpec)

/-- ITS FALSE NEIGHBOUR: 'it returns false'. Refute it at one input. -/
def fnExactDrainQueueWrong : ChangeSpec := { name := "fnExactDrainQueue", fn := fun _ => fun
  | [d1, d2] => { results := [.lit (.bool false)], args := [d1, d2] }
  | _ => none }
def FnExactDrainQueueWrongFalsely : Prop := fnExactDrainQueueRow.holds Try.pinned (OpenSpec.ofChange fnExactDrainQueueWrong)

/- THE SECOND FORM. 'bulk': how many values and letters a reading holds, each counted each time it is reached (what is shared counts as often as it is met; a slice's spare places count too). A statement '..UptoSaid' is the law's where the arguments, and the package variables that the reading takes, are together of bulk at most 1048576: NARROWER than '..Said'. Prove '..Said' where nothing that the law and all that it calls make is longer than what came in: it says more and counts as full. Else prove '..UptoSaid'. A law counts once. -/
mutual
def uptoBulk {H : Type} : DataW H → Nat
  | .lit (.string bytes) => bytes.length + 1
  | .lit _ => 1
  | .nil => 1
  | .ptr d => uptoBulk d + 1
  | .slice elems spare => uptoBulkAll elems + uptoBulkAll spare + 1
  | .agg parts => uptoBulkAll parts + 1
  | .iface _ d => uptoBulk d + 1
  | .map entries => uptoBulkEntries entries + 1
  | .held _ => 1
def uptoBulkAll {H : Type} : List (DataW H) → Nat
  | [] => 0
  | d :: r => uptoBulk d + uptoBulkAll r
def uptoBulkEntries {H : Type} : List (Lit × DataW H) → Nat
  | [] => 0
  | x :: r => uptoBulkEntry x + uptoBulkEntries r
def uptoBulkEntry {H : Type} : Lit × DataW H → Nat
  | (.string bytes, d) => bytes.length + uptoBulk d + 1
  | (_, d) => uptoBulk d + 1
 end
def uptoSmall : (H : Type) → List (DataW H) → Bool := fun _ ds => decide (uptoBulkAll ds ≤ 1048576)
def OpenSpec.upto (s : _root_.Go.ChangeSpec) : _root_.Go.OpenSpec := { _root_.Go.OpenSpec.ofChange s with cond := some uptoSmall }

/-- 'laws.FnQueues', WHERE WHAT IT READS IS OF BULK AT MOST 1048576: true; the input reads as it did. -/
def fnQueuesUptoRow : OpenClaim := { program := "ytefkngpceeclhaa", sum := "e4fe0c944e8c80965ecfe3f335a2d032a02bcc0f76d27656a59cc4e4c473aa09", func := "loop.example/g00545/laws.FnQueues", spec := "fnQueues", apart := false, narrowed := true }
def FnQueuesUptoSaid : Prop := fnQueuesUptoRow.holds Try.pinned (OpenSpec.upto fnQueuesSpec)

/-- 'laws.FnDrains', WHERE WHAT IT READS IS OF BULK AT MOST 1048576: true; the input reads as it did. -/
def fnDrainsUptoRow : OpenClaim := { program := "ytefkngpceeclhaa", sum := "e4fe0c944e8c80965ecfe3f335a2d032a02bcc0f76d27656a59cc4e4c473aa09", func := "loop.example/g00545/laws.FnDrains", spec := "fnDrains", unfollowed := true, recurses := true, apart := false, narrowed := true }
def FnDrainsUptoSaid : Prop := fnDrainsUptoRow.holds Try.pinned (OpenSpec.upto fnDrainsSpec)

/-- 'laws.FnExactQueueFault', WHERE WHAT IT READS IS OF BULK AT MOST 1048576: true; the input reads as it did. -/
def fnExactQueueFaultUptoRow : OpenClaim := { program := "ytefkngpceeclhaa", sum := "e4fe0c944e8c80965ecfe3f335a2d032a02bcc0f76d27656a59cc4e4c473aa09", func := "loop.example/g00545/laws.FnExactQueueFault", spec := "fnExactQueueFault", apart := false, narrowed := true }
def FnExactQueueFaultUptoSaid : Prop := fnExactQueueFaultUptoRow.holds Try.pinned (OpenSpec.upto fnExactQueueFaultSpec)

/-- 'laws.FnExactPushEvent', WHERE WHAT IT READS IS OF BULK AT MOST 1048576: true; the input reads as it did. -/
def fnExactPushEventUptoRow : OpenClaim := { program := "ytefkngpceeclhaa", sum := "e4fe0c944e8c80965ecfe3f335a2d032a02bcc0f76d27656a59cc4e4c473aa09", func := "loop.example/g00545/laws.FnExactPushEvent", spec := "fnExactPushEvent", apart := false, narrowed := true }
def FnExactPushEventUptoSaid : Prop := fnExactPushEventUptoRow.holds Try.pinned (OpenSpec.upto fnExactPushEventSpec)

/-- 'laws.FnExactPushReply', WHERE WHAT IT READS IS OF BULK AT MOST 1048576: true; the input reads as it did. -/
def fnExactPushReplyUptoRow : OpenClaim := { program := "ytefkngpceeclhaa", sum := "e4fe0c944e8c80965ecfe3f335a2d032a02bcc0f76d27656a59cc4e4c473aa09", func := "loop.example/g00545/laws.FnExactPushReply", spec := "fnExactPushReply", apart := false, narrowed := true }
def FnExactPushReplyUptoSaid : Prop := fnExactPushReplyUptoRow.holds Try.pinned (OpenSpec.upto fnExactPushReplySpec)

/-- 'laws.FnExactDrainQueue', WHERE WHAT IT READS IS OF BULK AT MOST 1048576: true; the input reads as it did. -/
def fnExactDrainQueueUptoRow : OpenClaim := { program := "ytefkngpceeclhaa", sum := "e4fe0c944e8c80965ecfe3f335a2d032a02bcc0f76d27656a59cc4e4c473aa09", func := "loop.example/g00545/laws.FnExactDrainQueue", spec := "fnExactDrainQueue", apart := false, narrowed := true }
def FnExactDrainQueueUptoSaid : Prop := fnExactDrainQueueUptoRow.holds Try.pinned (OpenSpec.upto fnExactDrainQueueSpec)

end Rows
end Go.Proofs.Ytefkngpceeclhaa
