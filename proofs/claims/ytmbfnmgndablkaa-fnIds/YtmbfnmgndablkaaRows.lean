/-
  No cell of these rows narrows 'for every input' (looked for: loops, veiled, ifaces, maps, wideKeys, modest, calm, conditions, laid).
  DERIVED. THE GIVEN ROWS OF THIS SEAT. 6 by the template 'for every input the law returns true; each argument reads behind the call as it read before'; 0 by the template 'total and deterministic' (their statements: YtmbfnmgndablkaaTotals.lean).
  GIVEN WITH THE SEED: the statements are not yours to turn. If you find one false, say at which input.
  Laid BY PROGRAM, IN A SANDBOX (cutbox-rows.mjs): the forced cells as the released guide's own fill.sh prints them over the translation f6bd51358690ce22… (all of the seat's roots in one cut). By AI agents, Wed Nov 11 2026. No macro, syntax, notation, axiom, sorry.
-/
import Derived.Test.YtmbfnmgndablkaaChecked
import GoSem.Claim
import GoSem.ClaimJoined
import GoSem.ClaimMapViews
import Derived.JoinedTies
import Derived.KernelRfl
namespace Go.Proofs.Ytmbfnmgndablkaa
/- THE CELL 'sum', in the pinned program and in every row, IS THE sha256 OF THE DUMP (.gsa) THAT YtmbfnmgndablkaaProg.lean LOADS. Nothing in Lean hashes anything: it is a label: what it is worth is what the hold of that sum in a sandbox is worth. -/
noncomputable def Try.pinned : Pinned := { name := "ytmbfnmgndablkaa", sum := "f6bd51358690ce2231c2c996b626403c8982328336f01c817bcf441933aa7af1", checked := Try.checked }
namespace Rows
def none {H : Type} : Left H := { results := [], args := [] }

/-- 'laws.FnIds': WHATEVER THE INPUT: true; the input reads as it did. -/
def fnIdsSpec : ChangeSpec := { name := "fnIds", fn := fun _ => fun
  | [d] => { results := [.lit (.bool true)], args := [d] }
  | _ => none }
def fnIdsRow : OpenClaim := { program := "ytmbfnmgndablkaa", sum := "f6bd51358690ce2231c2c996b626403c8982328336f01c817bcf441933aa7af1", func := "loop.example/g00545/laws.FnIds", spec := "fnIds", apart := false }
def FnIdsSaid : Prop := fnIdsRow.holds Try.pinned (OpenSpec.ofChange fnIdsSpec)

/-- ITS FALSE NEIGHBOUR: 'it returns false'. Refute it at one input. -/
def fnIdsWrong : ChangeSpec := { name := "fnIds", fn := fun _ => fun
  | [d] => { results := [.lit (.bool false)], args := [d] }
  | _ => none }
def FnIdsWrongFalsely : Prop := fnIdsRow.holds Try.pinned (OpenSpec.ofChange fnIdsWrong)

/-- 'laws.FnExactSlotOf': WHATEVER THE INPUT: true; the input reads as it did. -/
def fnExactSlotOfSpec : ChangeSpec := { name := "fnExactSlotOf", fn := fun _ => fun
  | [d] => { results := [.lit (.bool true)], args := [d] }
  | _ => none }
def fnExactSlotOfRow : OpenClaim := { program := "ytmbfnmgndablkaa", sum := "f6bd51358690ce2231c2c996b626403c8982328336f01c817bcf441933aa7af1", func := "loop.example/g00545/laws.FnExactSlotOf", spec := "fnExactSlotOf", apart := false }
def FnExactSlotOfSaid : Prop := fnExactSlotOfRow.holds Try.pinned (OpenSpec.ofChange fnExactSlotOfSpec)

/-- ITS FALSE NEIGHBOUR: 'it returns false'. Refute it at one input. -/
def fnExactSlotOfWrong : ChangeSpec := { name := "fnExactSlotOf", fn := fun _ => fun
  | [d] => { results := [.lit (.bool false)], args := [d] }
  | _ => none }
def FnExactSlotOfWrongFalsely : Prop := fnExactSlotOfRow.holds Try.pinned (OpenSpec.ofChange fnExactSlotOfWrong)

/-- 'laws.FnExactNextId': WHATEVER THE INPUT: true; the input reads as it did. -/
def fnExactNextIdSpec : ChangeSpec := { name := "fnExactNextId", fn := fun _ => fun
  | [d1, d2] => { results := [.lit (.bool true)], args := [d1, d2] }
  | _ => none }
def fnExactNextIdRow : OpenClaim := { program := "ytmbfnmgndablkaa", sum := "f6bd51358690ce2231c2c996b626403c8982328336f01c817bcf441933aa7af1", func := "loop.example/g00545/laws.FnExactNextId", spec := "fnExactNextId", apart := false }
def FnExactNextIdSaid : Prop := fnExactNextIdRow.holds Try.pinned (OpenSpec.ofChange fnExactNextIdSpec)

/-- ITS FALSE NEIGHBOUR: 'it returns false'. Refute it at one input. -/
def fnExactNextIdWrong : ChangeSpec := { name := "fnExactNextId", fn := fun _ => fun
  | [d1, d2] => { results := [.lit (.bool false)], args := [d1, d2] }
  | _ => none }
def FnExactNextIdWrongFalsely : Prop := fnExactNextIdRow.holds Try.pinned (OpenSpec.ofChange fnExactNextIdWrong)

/-- 'laws.FnExactIdsFault': WHATEVER THE INPUT: true; the input reads as it did. -/
def fnExactIdsFaultSpec : ChangeSpec := { name := "fnExactIdsFault", fn := fun _ => fun
  | [d] => { results := [.lit (.bool true)], args := [d] }
  | _ => none }
def fnExactIdsFaultRow : OpenClaim := { program := "ytmbfnmgndablkaa", sum := "f6bd51358690ce2231c2c996b626403c8982328336f01c817bcf441933aa7af1", func := "loop.example/g00545/laws.FnExactIdsFault", spec := "fnExactIdsFault", apart := false }
def FnExactIdsFaultSaid : Prop := fnExactIdsFaultRow.holds Try.pinned (OpenSpec.ofChange fnExactIdsFaultSpec)

/-- ITS FALSE NEIGHBOUR: 'it returns false'. Refute it at one input. -/
def fnExactIdsFaultWrong : ChangeSpec := { name := "fnExactIdsFault", fn := fun _ => fun
  | [d] => { results := [.lit (.bool false)], args := [d] }
  | _ => none }
def FnExactIdsFaultWrongFalsely : Prop := fnExactIdsFaultRow.holds Try.pinned (OpenSpec.ofChange fnExactIdsFaultWrong)

/-- 'laws.FnExactOwnOf': WHATEVER THE INPUT: true; the input reads as it did. -/
def fnExactOwnOfSpec : ChangeSpec := { name := "fnExactOwnOf", fn := fun _ => fun
  | [d1, d2] => { results := [.lit (.bool true)], args := [d1, d2] }
  | _ => none }
def fnExactOwnOfRow : OpenClaim := { program := "ytmbfnmgndablkaa", sum := "f6bd51358690ce2231c2c996b626403c8982328336f01c817bcf441933aa7af1", func := "loop.example/g00545/laws.FnExactOwnOf", spec := "fnExactOwnOf", apart := false }
def FnExactOwnOfSaid : Prop := fnExactOwnOfRow.holds Try.pinned (OpenSpec.ofChange fnExactOwnOfSpec)

/-- ITS FALSE NEIGHBOUR: 'it returns false'. Refute it at one input. -/
def fnExactOwnOfWrong : ChangeSpec := { name := "fnExactOwnOf", fn := fun _ => fun
  | [d1, d2] => { results := [.lit (.bool false)], args := [d1, d2] }
  | _ => none }
def FnExactOwnOfWrongFalsely : Prop := fnExactOwnOfRow.holds Try.pinned (OpenSpec.ofChange fnExactOwnOfWrong)

/-- 'laws.FnExactDropOwn': WHATEVER THE INPUT: true; the input reads as it did. -/
def fnExactDropOwnSpec : ChangeSpec := { name := "fnExactDropOwn", fn := fun _ => fun
  | [d1, d2] => { results := [.lit (.bool true)], args := [d1, d2] }
  | _ => none }
def fnExactDropOwnRow : OpenClaim := { program := "ytmbfnmgndablkaa", sum := "f6bd51358690ce2231c2c996b626403c8982328336f01c817bcf441933aa7af1", func := "loop.example/g00545/laws.FnExactDropOwn", spec := "fnExactDropOwn", apart := false }
def FnExactDropOwnSaid : Prop := fnExactDropOwnRow.holds Try.pinned (OpenSpec.ofChange fnExactDropOwnSpec)

/-- ITS FALSE NEIGHBOUR: 'it returns false'. Refute it at one input. -/
def fnExactDropOwnWrong : ChangeSpec := { name := "fnExactDropOwn", fn := fun _ => fun
  | [d1, d2] => { results := [.lit (.bool false)], args := [d1, d2] }
  | _ => none }
def FnExactDropOwnWrongFalsely : Prop := fnExactDropOwnRow.holds Try.pinned (OpenSpec.ofChange fnExactDropOwnWrong)

/- THE SECOND FORM. 'bulk': how many values and letters a reading holds, each counted each time it is reached (what is shared counts as often as it is met; a slice's spare places count too). A statement '..UptoSaid' is the law's where the arguments, and the package variables that the reading takes, are together of bulk at most 1048576: NARROWER than '..Said'. Prove '..Said' where nothing that the law and all that it calls make is longer than what came in: it says more and counts as full. Else prove '..UptoSaid'. A law counts once. -/
mutual
def uptoBulk {H : Type} : DataW H → Nat
  | .lit (.string bytes) => bytes.length + 1
  | .lit _ => 1
  | .nil => 1
  | .ptr d => uptoBulk d + 1
  | .slice elems spare => uptoBulkAll elems + uptoBulkAll spare + 1
  | .agg parts => uptoBulkAll parts + 1
  | .iface _ d => uptoBulk d + 1
  | .map entries => uptoBulkEntries entries + 1
  | .held _ => 1
def uptoBulkAll {H : Type} : List (DataW H) → Nat
  | [] => 0
  | d :: r => uptoBulk d + uptoBulkAll r
def uptoBulkEntries {H : Type} : List (Lit × DataW H) → Nat
  | [] => 0
  | x :: r => uptoBulkEntry x + uptoBulkEntries r
def uptoBulkEntry {H : Type} : Lit × DataW H → Nat
  | (.string bytes, d) => bytes.length + uptoBulk d + 1
  | (_, d) => uptoBulk d + 1
 end
def uptoSmall : (H : Type) → List (DataW H) → Bool := fun _ ds => decide (uptoBulkAll ds ≤ 1048576)
def OpenSpec.upto (s : _root_.Go.ChangeSpec) : _root_.Go.OpenSpec := { _root_.Go.OpenSpec.ofChange s with cond := some uptoSmall }

/-- 'laws.FnIds', WHERE WHAT IT READS IS OF BULK AT MOST 1048576: true; the input reads as it did. -/
def fnIdsUptoRow : OpenClaim := { program := "ytmbfnmgndablkaa", sum := "f6bd51358690ce2231c2c996b626403c8982328336f01c817bcf441933aa7af1", func := "loop.example/g00545/laws.FnIds", spec := "fnIds", apart := false, narrowed := true }
def FnIdsUptoSaid : Prop := fnIdsUptoRow.holds Try.pinned (OpenSpec.upto fnIdsSpec)

/-- 'laws.FnExactSlotOf', WHERE WHAT IT READS IS OF BULK AT MOST 1048576: true; the input reads as it did. -/
def fnExactSlotOfUptoRow : OpenClaim := { program := "ytmbfnmgndablkaa", sum := "f6bd51358690ce2231c2c996b626403c8982328336f01c817bcf441933aa7af1", func := "loop.example/g00545/laws.FnExactSlotOf", spec := "fnExactSlotOf", apart := false, narrowed := true }
def FnExactSlotOfUptoSaid : Prop := fnExactSlotOfUptoRow.holds Try.pinned (OpenSpec.upto fnExactSlotOfSpec)

/-- 'laws.FnExactNextId', WHERE WHAT IT READS IS OF BULK AT MOST 1048576: true; the input reads as it did. -/
def fnExactNextIdUptoRow : OpenClaim := { program := "ytmbfnmgndablkaa", sum := "f6bd51358690ce2231c2c996b626403c8982328336f01c817bcf441933aa7af1", func := "loop.example/g00545/laws.FnExactNextId", spec := "fnExactNextId", apart := false, narrowed := true }
def FnExactNextIdUptoSaid : Prop := fnExactNextIdUptoRow.holds Try.pinned (OpenSpec.upto fnExactNextIdSpec)

/-- 'laws.FnExactIdsFault', WHERE WHAT IT READS IS OF BULK AT MOST 1048576: true; the input reads as it did. -/
def fnExactIdsFaultUptoRow : OpenClaim := { program := "ytmbfnmgndablkaa", sum := "f6bd51358690ce2231c2c996b626403c8982328336f01c817bcf441933aa7af1", func := "loop.example/g00545/laws.FnExactIdsFault", spec := "fnExactIdsFault", apart := false, narrowed := true }
def FnExactIdsFaultUptoSaid : Prop := fnExactIdsFaultUptoRow.holds Try.pinned (OpenSpec.upto fnExactIdsFaultSpec)

/-- 'laws.FnExactOwnOf', WHERE WHAT IT READS IS OF BULK AT MOST 1048576: true; the input reads as it did. -/
def fnExactOwnOfUptoRow : OpenClaim := { program := "ytmbfnmgndablkaa", sum := "f6bd51358690ce2231c2c996b626403c8982328336f01c817bcf441933aa7af1", func := "loop.example/g00545/laws.FnExactOwnOf", spec := "fnExactOwnOf", apart := false, narrowed := true }
def FnExactOwnOfUptoSaid : Prop := fnExactOwnOfUptoRow.holds Try.pinned (OpenSpec.upto fnExactOwnOfSpec)

/-- 'laws.FnExactDropOwn', WHERE WHAT IT READS IS OF BULK AT MOST 1048576: true; the input reads as it did. -/
def fnExactDropOwnUptoRow : OpenClaim := { program := "ytmbfnmgndablkaa", sum := "f6bd51358690ce2231c2c996b626403c8982328336f01c817bcf441933aa7af1", func := "loop.example/g00545/laws.FnExactDropOwn", spec := "fnExactDropOwn", apart := false, narrowed := true }
def FnExactDropOwnUptoSaid : Prop := fnExactDropOwnUptoRow.holds Try.pinned (OpenSpec.upto fnExactDropOwnSpec)

end Rows
end Go.Proofs.Ytmbfnmgndablkaa
