/-
  No cell of these rows narrows 'for every input' (looked for: loops, veiled, ifaces, maps, wideKeys, modest, calm, conditions, laid).
  DERIVED. THE GIVEN ROWS OF THIS SEAT. 5 by the template 'for every input the law returns true; each argument reads behind the call as it read before'; 0 by the template 'total and deterministic' (their statements: YtbceacnadkhdoabTotals.lean).
  GIVEN WITH THE SEED: the statements are not yours to turn. If you find one false, say at which input.
  Laid BY PROGRAM, IN A SANDBOX (cutbox-rows.mjs): the forced cells as the released guide's own fill.sh prints them over the translation bc652205c86351e5… (all of the seat's roots in one cut). By AI agents, Wed Nov 11 2026. No macro, syntax, notation, axiom, sorry.
-/
import Derived.Test.YtbceacnadkhdoabChecked
import GoSem.Claim
import GoSem.ClaimJoined
import GoSem.ClaimMapViews
import Derived.JoinedTies
import Derived.KernelRfl
namespace Go.Proofs.Ytbceacnadkhdoab
/- THE CELL 'sum', in the pinned program and in every row, IS THE sha256 OF THE DUMP (.gsa) THAT YtbceacnadkhdoabProg.lean LOADS. Nothing in Lean hashes anything: it is a label: what it is worth is what the hold of that sum in a sandbox is worth. -/
noncomputable def Try.pinned : Pinned := { name := "ytbceacnadkhdoab", sum := "bc652205c86351e54f1026c225def8f5dfd8697d22d847c05354f1bebcfbaedc", checked := Try.checked }
namespace Rows
def none {H : Type} : Left H := { results := [], args := [] }

/-- 'laws.FnExactLessRect': WHATEVER THE INPUT: true; the input reads as it did. -/
def fnExactLessRectSpec : ChangeSpec := { name := "fnExactLessRect", fn := fun _ => fun
  | [d1, d2] => { results := [.lit (.bool true)], args := [d1, d2] }
  | _ => none }
def fnExactLessRectRow : OpenClaim := { program := "ytbceacnadkhdoab", sum := "bc652205c86351e54f1026c225def8f5dfd8697d22d847c05354f1bebcfbaedc", func := "loop.example/g00545/laws.FnExactLessRect", spec := "fnExactLessRect", apart := false }
def FnExactLessRectSaid : Prop := fnExactLessRectRow.holds Try.pinned (OpenSpec.ofChange fnExactLessRectSpec)

/-- ITS FALSE NEIGHBOUR: 'it returns false'. Refute it at one input. -/
def fnExactLessRectWrong : ChangeSpec := { name := "fnExactLessRect", fn := fun _ => fun
  | [d1, d2] => { results := [.lit (.bool false)], args := [d1, d2] }
  | _ => none }
def FnExactLessRectWrongFalsely : Prop := fnExactLessRectRow.holds Try.pinned (OpenSpec.ofChange fnExactLessRectWrong)

/-- 'laws.FnExactAreaOf': WHATEVER THE INPUT: true; the input reads as it did. -/
def fnExactAreaOfSpec : ChangeSpec := { name := "fnExactAreaOf", fn := fun _ => fun
  | [d] => { results := [.lit (.bool true)], args := [d] }
  | _ => none }
def fnExactAreaOfRow : OpenClaim := { program := "ytbceacnadkhdoab", sum := "bc652205c86351e54f1026c225def8f5dfd8697d22d847c05354f1bebcfbaedc", func := "loop.example/g00545/laws.FnExactAreaOf", spec := "fnExactAreaOf", unfollowed := true, recurses := true, apart := false }
def FnExactAreaOfSaid : Prop := fnExactAreaOfRow.holds Try.pinned (OpenSpec.ofChange fnExactAreaOfSpec)

/-- ITS FALSE NEIGHBOUR: 'it returns false'. Refute it at one input. -/
def fnExactAreaOfWrong : ChangeSpec := { name := "fnExactAreaOf", fn := fun _ => fun
  | [d] => { results := [.lit (.bool false)], args := [d] }
  | _ => none }
def FnExactAreaOfWrongFalsely : Prop := fnExactAreaOfRow.holds Try.pinned (OpenSpec.ofChange fnExactAreaOfWrong)

/-- 'laws.FnExactCoverOf': WHATEVER THE INPUT: true; the input reads as it did. -/
def fnExactCoverOfSpec : ChangeSpec := { name := "fnExactCoverOf", fn := fun _ => fun
  | [d1, d2, d3] => { results := [.lit (.bool true)], args := [d1, d2, d3] }
  | _ => none }
def fnExactCoverOfRow : OpenClaim := { program := "ytbceacnadkhdoab", sum := "bc652205c86351e54f1026c225def8f5dfd8697d22d847c05354f1bebcfbaedc", func := "loop.example/g00545/laws.FnExactCoverOf", spec := "fnExactCoverOf", unfollowed := true, recurses := true, apart := false }
def FnExactCoverOfSaid : Prop := fnExactCoverOfRow.holds Try.pinned (OpenSpec.ofChange fnExactCoverOfSpec)

/-- ITS FALSE NEIGHBOUR: 'it returns false'. Refute it at one input. -/
def fnExactCoverOfWrong : ChangeSpec := { name := "fnExactCoverOf", fn := fun _ => fun
  | [d1, d2, d3] => { results := [.lit (.bool false)], args := [d1, d2, d3] }
  | _ => none }
def FnExactCoverOfWrongFalsely : Prop := fnExactCoverOfRow.holds Try.pinned (OpenSpec.ofChange fnExactCoverOfWrong)

/-- 'laws.FnExactRequestFault': WHATEVER THE INPUT: true; the input reads as it did. -/
def fnExactRequestFaultSpec : ChangeSpec := { name := "fnExactRequestFault", fn := fun _ => fun
  | [d] => { results := [.lit (.bool true)], args := [d] }
  | _ => none }
def fnExactRequestFaultRow : OpenClaim := { program := "ytbceacnadkhdoab", sum := "bc652205c86351e54f1026c225def8f5dfd8697d22d847c05354f1bebcfbaedc", func := "loop.example/g00545/laws.FnExactRequestFault", spec := "fnExactRequestFault", apart := false }
def FnExactRequestFaultSaid : Prop := fnExactRequestFaultRow.holds Try.pinned (OpenSpec.ofChange fnExactRequestFaultSpec)

/-- ITS FALSE NEIGHBOUR: 'it returns false'. Refute it at one input. -/
def fnExactRequestFaultWrong : ChangeSpec := { name := "fnExactRequestFault", fn := fun _ => fun
  | [d] => { results := [.lit (.bool false)], args := [d] }
  | _ => none }
def FnExactRequestFaultWrongFalsely : Prop := fnExactRequestFaultRow.holds Try.pinned (OpenSpec.ofChange fnExactRequestFaultWrong)

/-- 'laws.FnExactPackRequest': WHATEVER THE INPUT: true; the input reads as it did. -/
def fnExactPackRequestSpec : ChangeSpec := { name := "fnExactPackRequest", fn := fun _ => fun
  | [d] => { results := [.lit (.bool true)], args := [d] }
  | _ => none }
def fnExactPackRequestRow : OpenClaim := { program := "ytbceacnadkhdoab", sum := "bc652205c86351e54f1026c225def8f5dfd8697d22d847c05354f1bebcfbaedc", func := "loop.example/g00545/laws.FnExactPackRequest", spec := "fnExactPackRequest", apart := false }
def FnExactPackRequestSaid : Prop := fnExactPackRequestRow.holds Try.pinned (OpenSpec.ofChange fnExactPackRequestSpec)

/-- ITS FALSE NEIGHBOUR: 'it returns false'. Refute it at one input. -/
def fnExactPackRequestWrong : ChangeSpec := { name := "fnExactPackRequest", fn := fun _ => fun
  | [d] => { results := [.lit (.bool false)], args := [d] }
  | _ => none }
def FnExactPackRequestWrongFalsely : Prop := fnExactPackRequestRow.holds Try.pinned (OpenSpec.ofChange fnExactPackRequestWrong)

/- THE SECOND FORM. 'bulk': how many values and letters a reading holds, each counted each time it is reached (what is shared counts as often as it is met; a slice's spare places count too). A statement '..UptoSaid' is the law's where the arguments, and the package variables that the reading takes, are together of bulk at most 1048576: NARROWER than '..Said'. Prove '..Said' where nothing that the law and all that it calls make is longer than what came in: it says more and counts as full. Else prove '..UptoSaid'. A law counts once. -/
mutual
def uptoBulk {H : Type} : DataW H → Nat
  | .lit (.string bytes) => bytes.length + 1
  | .lit _ => 1
  | .nil => 1
  | .ptr d => uptoBulk d + 1
  | .slice elems spare => uptoBulkAll elems + uptoBulkAll spare + 1
  | .agg parts => uptoBulkAll parts + 1
  | .iface _ d => uptoBulk d + 1
  | .map entries => uptoBulkEntries entries + 1
  | .held _ => 1
def uptoBulkAll {H : Type} : List (DataW H) → Nat
  | [] => 0
  | d :: r => uptoBulk d + uptoBulkAll r
def uptoBulkEntries {H : Type} : List (Lit × DataW H) → Nat
  | [] => 0
  | x :: r => uptoBulkEntry x + uptoBulkEntries r
def uptoBulkEntry {H : Type} : Lit × DataW H → Nat
  | (.string bytes, d) => bytes.length + uptoBulk d + 1
  | (_, d) => uptoBulk d + 1
 end
def uptoSmall : (H : Type) → List (DataW H) → Bool := fun _ ds => decide (uptoBulkAll ds ≤ 1048576)
def OpenSpec.upto (s : _root_.Go.ChangeSpec) : _root_.Go.OpenSpec := { _root_.Go.OpenSpec.ofChange s with cond := some uptoSmall }

/-- 'laws.FnExactLessRect', WHERE WHAT IT READS IS OF BULK AT MOST 1048576: true; the input reads as it did. -/
def fnExactLessRectUptoRow : OpenClaim := { program := "ytbceacnadkhdoab", sum := "bc652205c86351e54f1026c225def8f5dfd8697d22d847c05354f1bebcfbaedc", func := "loop.example/g00545/laws.FnExactLessRect", spec := "fnExactLessRect", apart := false, narrowed := true }
def FnExactLessRectUptoSaid : Prop := fnExactLessRectUptoRow.holds Try.pinned (OpenSpec.upto fnExactLessRectSpec)

/-- 'laws.FnExactAreaOf', WHERE WHAT IT READS IS OF BULK AT MOST 1048576: true; the input reads as it did. -/
def fnExactAreaOfUptoRow : OpenClaim := { program := "ytbceacnadkhdoab", sum := "bc652205c86351e54f1026c225def8f5dfd8697d22d847c05354f1bebcfbaedc", func := "loop.example/g00545/laws.FnExactAreaOf", spec := "fnExactAreaOf", unfollowed := true, recurses := true, apart := false, narrowed := true }
def FnExactAreaOfUptoSaid : Prop := fnExactAreaOfUptoRow.holds Try.pinned (OpenSpec.upto fnExactAreaOfSpec)

/-- 'laws.FnExactCoverOf', WHERE WHAT IT READS IS OF BULK AT MOST 1048576: true; the input reads as it did. -/
def fnExactCoverOfUptoRow : OpenClaim := { program := "ytbceacnadkhdoab", sum := "bc652205c86351e54f1026c225def8f5dfd8697d22d847c05354f1bebcfbaedc", func := "loop.example/g00545/laws.FnExactCoverOf", spec := "fnExactCoverOf", unfollowed := true, recurses := true, apart := false, narrowed := true }
def FnExactCoverOfUptoSaid : Prop := fnExactCoverOfUptoRow.holds Try.pinned (OpenSpec.upto fnExactCoverOfSpec)

/-- 'laws.FnExactRequestFault', WHERE WHAT IT READS IS OF BULK AT MOST 1048576: true; the input reads as it did. -/
def fnExactRequestFaultUptoRow : OpenClaim := { program := "ytbceacnadkhdoab", sum := "bc652205c86351e54f1026c225def8f5dfd8697d22d847c05354f1bebcfbaedc", func := "loop.example/g00545/laws.FnExactRequestFault", spec := "fnExactRequestFault", apart := false, narrowed := true }
def FnExactRequestFaultUptoSaid : Prop := fnExactRequestFaultUptoRow.holds Try.pinned (OpenSpec.upto fnExactRequestFaultSpec)

/-- 'laws.FnExactPackRequest', WHERE WHAT IT READS IS OF BULK AT MOST 1048576: true; the input reads as it did. -/
def fnExactPackRequestUptoRow : OpenClaim := { program := "ytbceacnadkhdoab", sum := "bc652205c86351e54f1026c225def8f5dfd8697d22d847c05354f1bebcfbaedc", func := "loop.example/g00545/laws.FnExactPackRequest", spec := "fnExactPackRequest", apart := false, narrowed := true }
def FnExactPackRequestUptoSaid : Prop := fnExactPackRequestUptoRow.holds Try.pinned (OpenSpec.upto fnExactPackRequestSpec)

end Rows
end Go.Proofs.Ytbceacnadkhdoab
