/- The law FnExactFormatExpr holds: at every expression the program's FormatExpr answers as its model. Conditions: none but the statement's own. -/
import Derived.Test.YtejgclmlclidkaaHoldsText
import Derived.Test.YtejgclmlclidkaaOwnJoin
namespace Go.Proofs.Ytejgclmlclidkaa
open Go Go.RowKit
theorem doneFormatExpr : Rows.FnExactFormatExprSaid := exactFormatExpr_holds own_format_any
end Go.Proofs.Ytejgclmlclidkaa
