/-
  No cell of these rows narrows 'for every input' (looked for: loops, veiled, ifaces, maps, wideKeys, modest, calm, conditions, laid).
  DERIVED. THE GIVEN ROWS OF THIS SEAT. 6 by the template 'for every input the law returns true; each argument reads behind the call as it read before'; 0 by the template 'total and deterministic' (their statements: YtoipcnpemmajaaaTotals.lean).
  GIVEN WITH THE SEED: the statements are not yours to turn. If you find one false, say at which input.
  Laid BY PROGRAM, IN A SANDBOX (cutbox-rows.mjs): the forced cells as the released guide's own fill.sh prints them over the translation d691a475c3bce0f4… (all of the seat's roots in one cut). By AI agents, Wed Nov 11 2026. No macro, syntax, notation, axiom, sorry.
-/
import Derived.Test.YtoipcnpemmajaaaChecked
import GoSem.Claim
import GoSem.ClaimJoined
import GoSem.ClaimMapViews
import Derived.JoinedTies
import Derived.KernelRfl
namespace Go.Proofs.Ytoipcnpemmajaaa
/- THE CELL 'sum', in the pinned program and in every row, IS THE sha256 OF THE DUMP (.gsa) THAT YtoipcnpemmajaaaProg.lean LOADS. Nothing in Lean hashes anything: it is a label: what it is worth is what the hold of that sum in a sandbox is worth. -/
noncomputable def Try.pinned : Pinned := { name := "ytoipcnpemmajaaa", sum := "d691a475c3bce0f4a9d39429d65c81860557dca92ed9b7b6675ae81b60ab849c", checked := Try.checked }
namespace Rows
def none {H : Type} : Left H := { results := [], args := [] }

/-- 'laws.FnHands': WHATEVER THE INPUT: true; the input reads as it did. -/
def fnHandsSpec : ChangeSpec := { name := "fnHands", fn := fun _ => fun
  | [d] => { results := [.lit (.bool true)], args := [d] }
  | _ => none }
def fnHandsRow : OpenClaim := { program := "ytoipcnpemmajaaa", sum := "d691a475c3bce0f4a9d39429d65c81860557dca92ed9b7b6675ae81b60ab849c", func := "loop.example/g00545/laws.FnHands", spec := "fnHands", unfollowed := true, recurses := true, apart := false }
def FnHandsSaid : Prop := fnHandsRow.holds Try.pinned (OpenSpec.ofChange fnHandsSpec)

/-- ITS FALSE NEIGHBOUR: 'it returns false'. Refute it at one input. -/
def fnHandsWrong : ChangeSpec := { name := "fnHands", fn := fun _ => fun
  | [d] => { results := [.lit (.bool false)], args := [d] }
  | _ => none }
def FnHandsWrongFalsely : Prop := fnHandsRow.holds Try.pinned (OpenSpec.ofChange fnHandsWrong)

/-- 'laws.FnTyped': WHATEVER THE INPUT: true; the input reads as it did. -/
def fnTypedSpec : ChangeSpec := { name := "fnTyped", fn := fun _ => fun
  | [d] => { results := [.lit (.bool true)], args := [d] }
  | _ => none }
def fnTypedRow : OpenClaim := { program := "ytoipcnpemmajaaa", sum := "d691a475c3bce0f4a9d39429d65c81860557dca92ed9b7b6675ae81b60ab849c", func := "loop.example/g00545/laws.FnTyped", spec := "fnTyped", unfollowed := true, recurses := true, apart := false }
def FnTypedSaid : Prop := fnTypedRow.holds Try.pinned (OpenSpec.ofChange fnTypedSpec)

/-- ITS FALSE NEIGHBOUR: 'it returns false'. Refute it at one input. -/
def fnTypedWrong : ChangeSpec := { name := "fnTyped", fn := fun _ => fun
  | [d] => { results := [.lit (.bool false)], args := [d] }
  | _ => none }
def FnTypedWrongFalsely : Prop := fnTypedRow.holds Try.pinned (OpenSpec.ofChange fnTypedWrong)

/-- 'laws.FnExactHandFault': WHATEVER THE INPUT: true; the input reads as it did. -/
def fnExactHandFaultSpec : ChangeSpec := { name := "fnExactHandFault", fn := fun _ => fun
  | [d] => { results := [.lit (.bool true)], args := [d] }
  | _ => none }
def fnExactHandFaultRow : OpenClaim := { program := "ytoipcnpemmajaaa", sum := "d691a475c3bce0f4a9d39429d65c81860557dca92ed9b7b6675ae81b60ab849c", func := "loop.example/g00545/laws.FnExactHandFault", spec := "fnExactHandFault", apart := false }
def FnExactHandFaultSaid : Prop := fnExactHandFaultRow.holds Try.pinned (OpenSpec.ofChange fnExactHandFaultSpec)

/-- ITS FALSE NEIGHBOUR: 'it returns false'. Refute it at one input. -/
def fnExactHandFaultWrong : ChangeSpec := { name := "fnExactHandFault", fn := fun _ => fun
  | [d] => { results := [.lit (.bool false)], args := [d] }
  | _ => none }
def FnExactHandFaultWrongFalsely : Prop := fnExactHandFaultRow.holds Try.pinned (OpenSpec.ofChange fnExactHandFaultWrong)

/-- 'laws.FnExactRouteHand': WHATEVER THE INPUT: true; the input reads as it did. -/
def fnExactRouteHandSpec : ChangeSpec := { name := "fnExactRouteHand", fn := fun _ => fun
  | [d1, d2, d3] => { results := [.lit (.bool true)], args := [d1, d2, d3] }
  | _ => none }
def fnExactRouteHandRow : OpenClaim := { program := "ytoipcnpemmajaaa", sum := "d691a475c3bce0f4a9d39429d65c81860557dca92ed9b7b6675ae81b60ab849c", func := "loop.example/g00545/laws.FnExactRouteHand", spec := "fnExactRouteHand", unfollowed := true, recurses := true, apart := false }
def FnExactRouteHandSaid : Prop := fnExactRouteHandRow.holds Try.pinned (OpenSpec.ofChange fnExactRouteHandSpec)

/-- ITS FALSE NEIGHBOUR: 'it returns false'. Refute it at one input. -/
def fnExactRouteHandWrong : ChangeSpec := { name := "fnExactRouteHand", fn := fun _ => fun
  | [d1, d2, d3] => { results := [.lit (.bool false)], args := [d1, d2, d3] }
  | _ => none }
def FnExactRouteHandWrongFalsely : Prop := fnExactRouteHandRow.holds Try.pinned (OpenSpec.ofChange fnExactRouteHandWrong)

/-- 'laws.FnExactInputFault': WHATEVER THE INPUT: true; the input reads as it did. -/
def fnExactInputFaultSpec : ChangeSpec := { name := "fnExactInputFault", fn := fun _ => fun
  | [d1, d2] => { results := [.lit (.bool true)], args := [d1, d2] }
  | _ => none }
def fnExactInputFaultRow : OpenClaim := { program := "ytoipcnpemmajaaa", sum := "d691a475c3bce0f4a9d39429d65c81860557dca92ed9b7b6675ae81b60ab849c", func := "loop.example/g00545/laws.FnExactInputFault", spec := "fnExactInputFault", apart := false }
def FnExactInputFaultSaid : Prop := fnExactInputFaultRow.holds Try.pinned (OpenSpec.ofChange fnExactInputFaultSpec)

/-- ITS FALSE NEIGHBOUR: 'it returns false'. Refute it at one input. -/
def fnExactInputFaultWrong : ChangeSpec := { name := "fnExactInputFault", fn := fun _ => fun
  | [d1, d2] => { results := [.lit (.bool false)], args := [d1, d2] }
  | _ => none }
def FnExactInputFaultWrongFalsely : Prop := fnExactInputFaultRow.holds Try.pinned (OpenSpec.ofChange fnExactInputFaultWrong)

/-- 'laws.FnExactLoseFocus': WHATEVER THE INPUT: true; the input reads as it did. -/
def fnExactLoseFocusSpec : ChangeSpec := { name := "fnExactLoseFocus", fn := fun _ => fun
  | [d1, d2] => { results := [.lit (.bool true)], args := [d1, d2] }
  | _ => none }
def fnExactLoseFocusRow : OpenClaim := { program := "ytoipcnpemmajaaa", sum := "d691a475c3bce0f4a9d39429d65c81860557dca92ed9b7b6675ae81b60ab849c", func := "loop.example/g00545/laws.FnExactLoseFocus", spec := "fnExactLoseFocus", apart := false }
def FnExactLoseFocusSaid : Prop := fnExactLoseFocusRow.holds Try.pinned (OpenSpec.ofChange fnExactLoseFocusSpec)

/-- ITS FALSE NEIGHBOUR: 'it returns false'. Refute it at one input. -/
def fnExactLoseFocusWrong : ChangeSpec := { name := "fnExactLoseFocus", fn := fun _ => fun
  | [d1, d2] => { results := [.lit (.bool false)], args := [d1, d2] }
  | _ => none }
def FnExactLoseFocusWrongFalsely : Prop := fnExactLoseFocusRow.holds Try.pinned (OpenSpec.ofChange fnExactLoseFocusWrong)

/- THE SECOND FORM. 'bulk': how many values and letters a reading holds, each counted each time it is reached (what is shared counts as often as it is met; a slice's spare places count too). A statement '..UptoSaid' is the law's where the arguments, and the package variables that the reading takes, are together of bulk at most 1048576: NARROWER than '..Said'. Prove '..Said' where nothing that the law and all that it calls make is longer than what came in: it says more and counts as full. Else prove '..UptoSaid'. A law counts once. -/
mutual
def uptoBulk {H : Type} : DataW H → Nat
  | .lit (.string bytes) => bytes.length + 1
  | .lit _ => 1
  | .nil => 1
  | .ptr d => uptoBulk d + 1
  | .slice elems spare => uptoBulkAll elems + uptoBulkAll spare + 1
  | .agg parts => uptoBulkAll parts + 1
  | .iface _ d => uptoBulk d + 1
  | .map entries => uptoBulkEntries entries + 1
  | .held _ => 1
def uptoBulkAll {H : Type} : List (DataW H) → Nat
  | [] => 0
  | d :: r => uptoBulk d + uptoBulkAll r
def uptoBulkEntries {H : Type} : List (Lit × DataW H) → Nat
  | [] => 0
  | x :: r => uptoBulkEntry x + uptoBulkEntries r
def uptoBulkEntry {H : Type} : Lit × DataW H → Nat
  | (.string bytes, d) => bytes.length + uptoBulk d + 1
  | (_, d) => uptoBulk d + 1
 end
def uptoSmall : (H : Type) → List (DataW H) → Bool := fun _ ds => decide (uptoBulkAll ds ≤ 1048576)
def OpenSpec.upto (s : _root_.Go.ChangeSpec) : _root_.Go.OpenSpec := { _root_.Go.OpenSpec.ofChange s with cond := some uptoSmall }

/-- 'laws.FnHands', WHERE WHAT IT READS IS OF BULK AT MOST 1048576: true; the input reads as it did. -/
def fnHandsUptoRow : OpenClaim := { program := "ytoipcnpemmajaaa", sum := "d691a475c3bce0f4a9d39429d65c81860557dca92ed9b7b6675ae81b60ab849c", func := "loop.example/g00545/laws.FnHands", spec := "fnHands", unfollowed := true, recurses := true, apart := false, narrowed := true }
def FnHandsUptoSaid : Prop := fnHandsUptoRow.holds Try.pinned (OpenSpec.upto fnHandsSpec)

/-- 'laws.FnTyped', WHERE WHAT IT READS IS OF BULK AT MOST 1048576: true; the input reads as it did. -/
def fnTypedUptoRow : OpenClaim := { program := "ytoipcnpemmajaaa", sum := "d691a475c3bce0f4a9d39429d65c81860557dca92ed9b7b6675ae81b60ab849c", func := "loop.example/g00545/laws.FnTyped", spec := "fnTyped", unfollowed := true, recurses := true, apart := false, narrowed := true }
def FnTypedUptoSaid : Prop := fnTypedUptoRow.holds Try.pinned (OpenSpec.upto fnTypedSpec)

/-- 'laws.FnExactHandFault', WHERE WHAT IT READS IS OF BULK AT MOST 1048576: true; the input reads as it did. -/
def fnExactHandFaultUptoRow : OpenClaim := { program := "ytoipcnpemmajaaa", sum := "d691a475c3bce0f4a9d39429d65c81860557dca92ed9b7b6675ae81b60ab849c", func := "loop.example/g00545/laws.FnExactHandFault", spec := "fnExactHandFault", apart := false, narrowed := true }
def FnExactHandFaultUptoSaid : Prop := fnExactHandFaultUptoRow.holds Try.pinned (OpenSpec.upto fnExactHandFaultSpec)

/-- 'laws.FnExactRouteHand', WHERE WHAT IT READS IS OF BULK AT MOST 1048576: true; the input reads as it did. -/
def fnExactRouteHandUptoRow : OpenClaim := { program := "ytoipcnpemmajaaa", sum := "d691a475c3bce0f4a9d39429d65c81860557dca92ed9b7b6675ae81b60ab849c", func := "loop.example/g00545/laws.FnExactRouteHand", spec := "fnExactRouteHand", unfollowed := true, recurses := true, apart := false, narrowed := true }
def FnExactRouteHandUptoSaid : Prop := fnExactRouteHandUptoRow.holds Try.pinned (OpenSpec.upto fnExactRouteHandSpec)

/-- 'laws.FnExactInputFault', WHERE WHAT IT READS IS OF BULK AT MOST 1048576: true; the input reads as it did. -/
def fnExactInputFaultUptoRow : OpenClaim := { program := "ytoipcnpemmajaaa", sum := "d691a475c3bce0f4a9d39429d65c81860557dca92ed9b7b6675ae81b60ab849c", func := "loop.example/g00545/laws.FnExactInputFault", spec := "fnExactInputFault", apart := false, narrowed := true }
def FnExactInputFaultUptoSaid : Prop := fnExactInputFaultUptoRow.holds Try.pinned (OpenSpec.upto fnExactInputFaultSpec)

/-- 'laws.FnExactLoseFocus', WHERE WHAT IT READS IS OF BULK AT MOST 1048576: true; the input reads as it did. -/
def fnExactLoseFocusUptoRow : OpenClaim := { program := "ytoipcnpemmajaaa", sum := "d691a475c3bce0f4a9d39429d65c81860557dca92ed9b7b6675ae81b60ab849c", func := "loop.example/g00545/laws.FnExactLoseFocus", spec := "fnExactLoseFocus", apart := false, narrowed := true }
def FnExactLoseFocusUptoSaid : Prop := fnExactLoseFocusUptoRow.holds Try.pinned (OpenSpec.upto fnExactLoseFocusSpec)

end Rows
end Go.Proofs.Ytoipcnpemmajaaa
