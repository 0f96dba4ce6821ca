/- The law FnExactFormatExpr holds: at every expression the program's FormatExpr answers as its model. Conditions: none but the statement's own. -/
import Derived.Test.YtliifdiajcahdaaHoldsText
import Derived.Test.YtliifdiajcahdaaOwnJoin
namespace Go.Proofs.Ytliifdiajcahdaa
open Go Go.RowKit
theorem doneFormatExpr : Rows.FnExactFormatExprSaid := exactFormatExpr_holds own_format_any
end Go.Proofs.Ytliifdiajcahdaa
