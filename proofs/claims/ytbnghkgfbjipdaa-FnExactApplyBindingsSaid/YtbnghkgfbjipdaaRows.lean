/-
  NARROWER THAN 'FOR EVERY INPUT', by the rows' own cells (each row's printed sentence says how): FnExactApplyBindings: loops · FnExactMatchExpr: loops · FnExactIsInstance: loops · FnExactRenamingOf: loops · FnExactCouples: loops · FnExactEmbeds: loops · FnExactFirstEmbedded: loops.
  DERIVED. THE GIVEN ROWS OF THIS SEAT. 9 by the template 'for every input the law returns true; each argument reads behind the call as it read before'; 0 by the template 'total and deterministic' (their statements: YtbnghkgfbjipdaaTotals.lean).
  GIVEN WITH THE SEED: the statements are not yours to turn. If you find one false, say at which input.
  Laid BY PROGRAM, IN A SANDBOX (cutbox-rows.mjs): the forced cells as the released guide's own fill.sh prints them over the translation 87b324688d3302d6… (all of the seat's roots in one cut). By AI agents, Wed Nov 11 2026. No macro, syntax, notation, axiom, sorry.
-/
import Derived.Test.YtbnghkgfbjipdaaChecked
import GoSem.Claim
import GoSem.ClaimJoined
import GoSem.ClaimMapViews
import Derived.JoinedTies
import Derived.KernelRfl
namespace Go.Proofs.Ytbnghkgfbjipdaa
/- THE CELL 'sum', in the pinned program and in every row, IS THE sha256 OF THE DUMP (.gsa) THAT YtbnghkgfbjipdaaProg.lean LOADS. Nothing in Lean hashes anything: it is a label: what it is worth is what the hold of that sum in a sandbox is worth. -/
noncomputable def Try.pinned : Pinned := { name := "ytbnghkgfbjipdaa", sum := "87b324688d3302d6b79ef8ff1451d5214b25313e2f8545f2f91d14dec7e3206e", checked := Try.checked }
namespace Rows
def none {H : Type} : Left H := { results := [], args := [] }

/-- 'laws.FnMatching': WHATEVER THE INPUT: true; the input reads as it did. -/
def fnMatchingSpec : ChangeSpec := { name := "fnMatching", fn := fun _ => fun
  | [d] => { results := [.lit (.bool true)], args := [d] }
  | _ => none }
def fnMatchingRow : OpenClaim := { program := "ytbnghkgfbjipdaa", sum := "87b324688d3302d6b79ef8ff1451d5214b25313e2f8545f2f91d14dec7e3206e", func := "loop.example/g00584/laws.FnMatching", spec := "fnMatching", unfollowed := true, recurses := true, plainKeys := false, apart := false }
def FnMatchingSaid : Prop := fnMatchingRow.holds Try.pinned (OpenSpec.ofChange fnMatchingSpec)

/-- ITS FALSE NEIGHBOUR: 'it returns false'. Refute it at one input. -/
def fnMatchingWrong : ChangeSpec := { name := "fnMatching", fn := fun _ => fun
  | [d] => { results := [.lit (.bool false)], args := [d] }
  | _ => none }
def FnMatchingWrongFalsely : Prop := fnMatchingRow.holds Try.pinned (OpenSpec.ofChange fnMatchingWrong)

/-- 'laws.FnEmbedding': WHATEVER THE INPUT: true; the input reads as it did. -/
def fnEmbeddingSpec : ChangeSpec := { name := "fnEmbedding", fn := fun _ => fun
  | [d] => { results := [.lit (.bool true)], args := [d] }
  | _ => none }
def fnEmbeddingRow : OpenClaim := { program := "ytbnghkgfbjipdaa", sum := "87b324688d3302d6b79ef8ff1451d5214b25313e2f8545f2f91d14dec7e3206e", func := "loop.example/g00584/laws.FnEmbedding", spec := "fnEmbedding", unfollowed := true, recurses := true, plainKeys := false, apart := false }
def FnEmbeddingSaid : Prop := fnEmbeddingRow.holds Try.pinned (OpenSpec.ofChange fnEmbeddingSpec)

/-- ITS FALSE NEIGHBOUR: 'it returns false'. Refute it at one input. -/
def fnEmbeddingWrong : ChangeSpec := { name := "fnEmbedding", fn := fun _ => fun
  | [d] => { results := [.lit (.bool false)], args := [d] }
  | _ => none }
def FnEmbeddingWrongFalsely : Prop := fnEmbeddingRow.holds Try.pinned (OpenSpec.ofChange fnEmbeddingWrong)

/-- 'laws.FnExactApplyBindings': WHATEVER THE INPUT: true; the input reads as it did. -/
def fnExactApplyBindingsSpec : ChangeSpec := { name := "fnExactApplyBindings", fn := fun _ => fun
  | [d1, d2] => { results := [.lit (.bool true)], args := [d1, d2] }
  | _ => none }
def fnExactApplyBindingsRow : OpenClaim := { program := "ytbnghkgfbjipdaa", sum := "87b324688d3302d6b79ef8ff1451d5214b25313e2f8545f2f91d14dec7e3206e", func := "loop.example/g00584/laws.FnExactApplyBindings", spec := "fnExactApplyBindings", unfollowed := true, recurses := true, loops := true, plainKeys := false, apart := false }
def FnExactApplyBindingsSaid : Prop := fnExactApplyBindingsRow.holds Try.pinned (OpenSpec.ofChange fnExactApplyBindingsSpec)

/-- ITS FALSE NEIGHBOUR: 'it returns false'. Refute it at one input. -/
def fnExactApplyBindingsWrong : ChangeSpec := { name := "fnExactApplyBindings", fn := fun _ => fun
  | [d1, d2] => { results := [.lit (.bool false)], args := [d1, d2] }
  | _ => none }
def FnExactApplyBindingsWrongFalsely : Prop := fnExactApplyBindingsRow.holds Try.pinned (OpenSpec.ofChange fnExactApplyBindingsWrong)

/-- 'laws.FnExactMatchExpr': WHATEVER THE INPUT: true; the input reads as it did. -/
def fnExactMatchExprSpec : ChangeSpec := { name := "fnExactMatchExpr", fn := fun _ => fun
  | [d1, d2] => { results := [.lit (.bool true)], args := [d1, d2] }
  | _ => none }
def fnExactMatchExprRow : OpenClaim := { program := "ytbnghkgfbjipdaa", sum := "87b324688d3302d6b79ef8ff1451d5214b25313e2f8545f2f91d14dec7e3206e", func := "loop.example/g00584/laws.FnExactMatchExpr", spec := "fnExactMatchExpr", unfollowed := true, recurses := true, loops := true, plainKeys := false, apart := false }
def FnExactMatchExprSaid : Prop := fnExactMatchExprRow.holds Try.pinned (OpenSpec.ofChange fnExactMatchExprSpec)

/-- ITS FALSE NEIGHBOUR: 'it returns false'. Refute it at one input. -/
def fnExactMatchExprWrong : ChangeSpec := { name := "fnExactMatchExpr", fn := fun _ => fun
  | [d1, d2] => { results := [.lit (.bool false)], args := [d1, d2] }
  | _ => none }
def FnExactMatchExprWrongFalsely : Prop := fnExactMatchExprRow.holds Try.pinned (OpenSpec.ofChange fnExactMatchExprWrong)

/-- 'laws.FnExactIsInstance': WHATEVER THE INPUT: true; the input reads as it did. -/
def fnExactIsInstanceSpec : ChangeSpec := { name := "fnExactIsInstance", fn := fun _ => fun
  | [d1, d2] => { results := [.lit (.bool true)], args := [d1, d2] }
  | _ => none }
def fnExactIsInstanceRow : OpenClaim := { program := "ytbnghkgfbjipdaa", sum := "87b324688d3302d6b79ef8ff1451d5214b25313e2f8545f2f91d14dec7e3206e", func := "loop.example/g00584/laws.FnExactIsInstance", spec := "fnExactIsInstance", unfollowed := true, recurses := true, loops := true, plainKeys := false, apart := false }
def FnExactIsInstanceSaid : Prop := fnExactIsInstanceRow.holds Try.pinned (OpenSpec.ofChange fnExactIsInstanceSpec)

/-- ITS FALSE NEIGHBOUR: 'it returns false'. Refute it at one input. -/
def fnExactIsInstanceWrong : ChangeSpec := { name := "fnExactIsInstance", fn := fun _ => fun
  | [d1, d2] => { results := [.lit (.bool false)], args := [d1, d2] }
  | _ => none }
def FnExactIsInstanceWrongFalsely : Prop := fnExactIsInstanceRow.holds Try.pinned (OpenSpec.ofChange fnExactIsInstanceWrong)

/-- 'laws.FnExactRenamingOf': WHATEVER THE INPUT: true; the input reads as it did. -/
def fnExactRenamingOfSpec : ChangeSpec := { name := "fnExactRenamingOf", fn := fun _ => fun
  | [d1, d2] => { results := [.lit (.bool true)], args := [d1, d2] }
  | _ => none }
def fnExactRenamingOfRow : OpenClaim := { program := "ytbnghkgfbjipdaa", sum := "87b324688d3302d6b79ef8ff1451d5214b25313e2f8545f2f91d14dec7e3206e", func := "loop.example/g00584/laws.FnExactRenamingOf", spec := "fnExactRenamingOf", unfollowed := true, recurses := true, loops := true, plainKeys := false, apart := false }
def FnExactRenamingOfSaid : Prop := fnExactRenamingOfRow.holds Try.pinned (OpenSpec.ofChange fnExactRenamingOfSpec)

/-- ITS FALSE NEIGHBOUR: 'it returns false'. Refute it at one input. -/
def fnExactRenamingOfWrong : ChangeSpec := { name := "fnExactRenamingOf", fn := fun _ => fun
  | [d1, d2] => { results := [.lit (.bool false)], args := [d1, d2] }
  | _ => none }
def FnExactRenamingOfWrongFalsely : Prop := fnExactRenamingOfRow.holds Try.pinned (OpenSpec.ofChange fnExactRenamingOfWrong)

/-- 'laws.FnExactCouples': WHATEVER THE INPUT: true; the input reads as it did. -/
def fnExactCouplesSpec : ChangeSpec := { name := "fnExactCouples", fn := fun _ => fun
  | [d1, d2] => { results := [.lit (.bool true)], args := [d1, d2] }
  | _ => none }
def fnExactCouplesRow : OpenClaim := { program := "ytbnghkgfbjipdaa", sum := "87b324688d3302d6b79ef8ff1451d5214b25313e2f8545f2f91d14dec7e3206e", func := "loop.example/g00584/laws.FnExactCouples", spec := "fnExactCouples", unfollowed := true, recurses := true, loops := true, plainKeys := false, apart := false }
def FnExactCouplesSaid : Prop := fnExactCouplesRow.holds Try.pinned (OpenSpec.ofChange fnExactCouplesSpec)

/-- ITS FALSE NEIGHBOUR: 'it returns false'. Refute it at one input. -/
def fnExactCouplesWrong : ChangeSpec := { name := "fnExactCouples", fn := fun _ => fun
  | [d1, d2] => { results := [.lit (.bool false)], args := [d1, d2] }
  | _ => none }
def FnExactCouplesWrongFalsely : Prop := fnExactCouplesRow.holds Try.pinned (OpenSpec.ofChange fnExactCouplesWrong)

/-- 'laws.FnExactEmbeds': WHATEVER THE INPUT: true; the input reads as it did. -/
def fnExactEmbedsSpec : ChangeSpec := { name := "fnExactEmbeds", fn := fun _ => fun
  | [d1, d2] => { results := [.lit (.bool true)], args := [d1, d2] }
  | _ => none }
def fnExactEmbedsRow : OpenClaim := { program := "ytbnghkgfbjipdaa", sum := "87b324688d3302d6b79ef8ff1451d5214b25313e2f8545f2f91d14dec7e3206e", func := "loop.example/g00584/laws.FnExactEmbeds", spec := "fnExactEmbeds", unfollowed := true, recurses := true, loops := true, plainKeys := false, apart := false }
def FnExactEmbedsSaid : Prop := fnExactEmbedsRow.holds Try.pinned (OpenSpec.ofChange fnExactEmbedsSpec)

/-- ITS FALSE NEIGHBOUR: 'it returns false'. Refute it at one input. -/
def fnExactEmbedsWrong : ChangeSpec := { name := "fnExactEmbeds", fn := fun _ => fun
  | [d1, d2] => { results := [.lit (.bool false)], args := [d1, d2] }
  | _ => none }
def FnExactEmbedsWrongFalsely : Prop := fnExactEmbedsRow.holds Try.pinned (OpenSpec.ofChange fnExactEmbedsWrong)

/-- 'laws.FnExactFirstEmbedded': WHATEVER THE INPUT: true; the input reads as it did. -/
def fnExactFirstEmbeddedSpec : ChangeSpec := { name := "fnExactFirstEmbedded", fn := fun _ => fun
  | [d] => { results := [.lit (.bool true)], args := [d] }
  | _ => none }
def fnExactFirstEmbeddedRow : OpenClaim := { program := "ytbnghkgfbjipdaa", sum := "87b324688d3302d6b79ef8ff1451d5214b25313e2f8545f2f91d14dec7e3206e", func := "loop.example/g00584/laws.FnExactFirstEmbedded", spec := "fnExactFirstEmbedded", unfollowed := true, recurses := true, loops := true, plainKeys := false, apart := false }
def FnExactFirstEmbeddedSaid : Prop := fnExactFirstEmbeddedRow.holds Try.pinned (OpenSpec.ofChange fnExactFirstEmbeddedSpec)

/-- ITS FALSE NEIGHBOUR: 'it returns false'. Refute it at one input. -/
def fnExactFirstEmbeddedWrong : ChangeSpec := { name := "fnExactFirstEmbedded", fn := fun _ => fun
  | [d] => { results := [.lit (.bool false)], args := [d] }
  | _ => none }
def FnExactFirstEmbeddedWrongFalsely : Prop := fnExactFirstEmbeddedRow.holds Try.pinned (OpenSpec.ofChange fnExactFirstEmbeddedWrong)

/- THE SECOND FORM. 'bulk': how many values and letters a reading holds, each counted each time it is reached (what is shared counts as often as it is met; a slice's spare places count too). A statement '..UptoSaid' is the law's where the arguments, and the package variables that the reading takes, are together of bulk at most 1048576: NARROWER than '..Said'. Prove '..Said' where nothing that the law and all that it calls make is longer than what came in: it says more and counts as full. Else prove '..UptoSaid'. A law counts once. -/
mutual
def uptoBulk {H : Type} : DataW H → Nat
  | .lit (.string bytes) => bytes.length + 1
  | .lit _ => 1
  | .nil => 1
  | .ptr d => uptoBulk d + 1
  | .slice elems spare => uptoBulkAll elems + uptoBulkAll spare + 1
  | .agg parts => uptoBulkAll parts + 1
  | .iface _ d => uptoBulk d + 1
  | .map entries => uptoBulkEntries entries + 1
  | .held _ => 1
def uptoBulkAll {H : Type} : List (DataW H) → Nat
  | [] => 0
  | d :: r => uptoBulk d + uptoBulkAll r
def uptoBulkEntries {H : Type} : List (Lit × DataW H) → Nat
  | [] => 0
  | x :: r => uptoBulkEntry x + uptoBulkEntries r
def uptoBulkEntry {H : Type} : Lit × DataW H → Nat
  | (.string bytes, d) => bytes.length + uptoBulk d + 1
  | (_, d) => uptoBulk d + 1
 end
def uptoSmall : (H : Type) → List (DataW H) → Bool := fun _ ds => decide (uptoBulkAll ds ≤ 1048576)
def OpenSpec.upto (s : _root_.Go.ChangeSpec) : _root_.Go.OpenSpec := { _root_.Go.OpenSpec.ofChange s with cond := some uptoSmall }

/-- 'laws.FnMatching', WHERE WHAT IT READS IS OF BULK AT MOST 1048576: true; the input reads as it did. -/
def fnMatchingUptoRow : OpenClaim := { program := "ytbnghkgfbjipdaa", sum := "87b324688d3302d6b79ef8ff1451d5214b25313e2f8545f2f91d14dec7e3206e", func := "loop.example/g00584/laws.FnMatching", spec := "fnMatching", unfollowed := true, recurses := true, plainKeys := false, apart := false, narrowed := true }
def FnMatchingUptoSaid : Prop := fnMatchingUptoRow.holds Try.pinned (OpenSpec.upto fnMatchingSpec)

/-- 'laws.FnEmbedding', WHERE WHAT IT READS IS OF BULK AT MOST 1048576: true; the input reads as it did. -/
def fnEmbeddingUptoRow : OpenClaim := { program := "ytbnghkgfbjipdaa", sum := "87b324688d3302d6b79ef8ff1451d5214b25313e2f8545f2f91d14dec7e3206e", func := "loop.example/g00584/laws.FnEmbedding", spec := "fnEmbedding", unfollowed := true, recurses := true, plainKeys := false, apart := false, narrowed := true }
def FnEmbeddingUptoSaid : Prop := fnEmbeddingUptoRow.holds Try.pinned (OpenSpec.upto fnEmbeddingSpec)

/-- 'laws.FnExactApplyBindings', WHERE WHAT IT READS IS OF BULK AT MOST 1048576: true; the input reads as it did. -/
def fnExactApplyBindingsUptoRow : OpenClaim := { program := "ytbnghkgfbjipdaa", sum := "87b324688d3302d6b79ef8ff1451d5214b25313e2f8545f2f91d14dec7e3206e", func := "loop.example/g00584/laws.FnExactApplyBindings", spec := "fnExactApplyBindings", unfollowed := true, recurses := true, loops := true, plainKeys := false, apart := false, narrowed := true }
def FnExactApplyBindingsUptoSaid : Prop := fnExactApplyBindingsUptoRow.holds Try.pinned (OpenSpec.upto fnExactApplyBindingsSpec)

/-- 'laws.FnExactMatchExpr', WHERE WHAT IT READS IS OF BULK AT MOST 1048576: true; the input reads as it did. -/
def fnExactMatchExprUptoRow : OpenClaim := { program := "ytbnghkgfbjipdaa", sum := "87b324688d3302d6b79ef8ff1451d5214b25313e2f8545f2f91d14dec7e3206e", func := "loop.example/g00584/laws.FnExactMatchExpr", spec := "fnExactMatchExpr", unfollowed := true, recurses := true, loops := true, plainKeys := false, apart := false, narrowed := true }
def FnExactMatchExprUptoSaid : Prop := fnExactMatchExprUptoRow.holds Try.pinned (OpenSpec.upto fnExactMatchExprSpec)

/-- 'laws.FnExactIsInstance', WHERE WHAT IT READS IS OF BULK AT MOST 1048576: true; the input reads as it did. -/
def fnExactIsInstanceUptoRow : OpenClaim := { program := "ytbnghkgfbjipdaa", sum := "87b324688d3302d6b79ef8ff1451d5214b25313e2f8545f2f91d14dec7e3206e", func := "loop.example/g00584/laws.FnExactIsInstance", spec := "fnExactIsInstance", unfollowed := true, recurses := true, loops := true, plainKeys := false, apart := false, narrowed := true }
def FnExactIsInstanceUptoSaid : Prop := fnExactIsInstanceUptoRow.holds Try.pinned (OpenSpec.upto fnExactIsInstanceSpec)

/-- 'laws.FnExactRenamingOf', WHERE WHAT IT READS IS OF BULK AT MOST 1048576: true; the input reads as it did. -/
def fnExactRenamingOfUptoRow : OpenClaim := { program := "ytbnghkgfbjipdaa", sum := "87b324688d3302d6b79ef8ff1451d5214b25313e2f8545f2f91d14dec7e3206e", func := "loop.example/g00584/laws.FnExactRenamingOf", spec := "fnExactRenamingOf", unfollowed := true, recurses := true, loops := true, plainKeys := false, apart := false, narrowed := true }
def FnExactRenamingOfUptoSaid : Prop := fnExactRenamingOfUptoRow.holds Try.pinned (OpenSpec.upto fnExactRenamingOfSpec)

/-- 'laws.FnExactCouples', WHERE WHAT IT READS IS OF BULK AT MOST 1048576: true; the input reads as it did. -/
def fnExactCouplesUptoRow : OpenClaim := { program := "ytbnghkgfbjipdaa", sum := "87b324688d3302d6b79ef8ff1451d5214b25313e2f8545f2f91d14dec7e3206e", func := "loop.example/g00584/laws.FnExactCouples", spec := "fnExactCouples", unfollowed := true, recurses := true, loops := true, plainKeys := false, apart := false, narrowed := true }
def FnExactCouplesUptoSaid : Prop := fnExactCouplesUptoRow.holds Try.pinned (OpenSpec.upto fnExactCouplesSpec)

/-- 'laws.FnExactEmbeds', WHERE WHAT IT READS IS OF BULK AT MOST 1048576: true; the input reads as it did. -/
def fnExactEmbedsUptoRow : OpenClaim := { program := "ytbnghkgfbjipdaa", sum := "87b324688d3302d6b79ef8ff1451d5214b25313e2f8545f2f91d14dec7e3206e", func := "loop.example/g00584/laws.FnExactEmbeds", spec := "fnExactEmbeds", unfollowed := true, recurses := true, loops := true, plainKeys := false, apart := false, narrowed := true }
def FnExactEmbedsUptoSaid : Prop := fnExactEmbedsUptoRow.holds Try.pinned (OpenSpec.upto fnExactEmbedsSpec)

/-- 'laws.FnExactFirstEmbedded', WHERE WHAT IT READS IS OF BULK AT MOST 1048576: true; the input reads as it did. -/
def fnExactFirstEmbeddedUptoRow : OpenClaim := { program := "ytbnghkgfbjipdaa", sum := "87b324688d3302d6b79ef8ff1451d5214b25313e2f8545f2f91d14dec7e3206e", func := "loop.example/g00584/laws.FnExactFirstEmbedded", spec := "fnExactFirstEmbedded", unfollowed := true, recurses := true, loops := true, plainKeys := false, apart := false, narrowed := true }
def FnExactFirstEmbeddedUptoSaid : Prop := fnExactFirstEmbeddedUptoRow.holds Try.pinned (OpenSpec.upto fnExactFirstEmbeddedSpec)

end Rows
end Go.Proofs.Ytbnghkgfbjipdaa
