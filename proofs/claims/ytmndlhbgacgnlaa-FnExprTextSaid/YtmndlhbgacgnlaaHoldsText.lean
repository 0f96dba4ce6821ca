/- The law FnExactFormatExpr, from a contract of the program's own FormatExpr. Conditions: that contract; the reach of the form. -/
import Derived.Test.YtmndlhbgacgnlaaExOpen
import Derived.Test.YtmndlhbgacgnlaaLawText
import Derived.ProofKit
import Derived.SizedLaws
import Derived.OpenShut
namespace Go.Proofs.Ytmndlhbgacgnlaa
open Go Go.ChangeShapes Go.WideShapes Go.ChangeAt Go.RowKit

theorem own : ownKnob Try.prog.godebug = none := by kernel_rfl
theorem laidOut : laidOutB Try.prog = true := by kernel_rfl

/-- What the program's own FormatExpr gives. -/
def OwnFormatExpr : Prop := ∀ (e : Ex) (v : Value) (bs : List Nat) (W : World), ExIs W v e bs → exTot e ≤ 1048576 → Calls Try.prog 29 #[v] W (RetPost (.string (exFmt e)) W)
end Go.Proofs.Ytmndlhbgacgnlaa
