/- The law FnExactParseExpr holds: at every text the program's ParseExpr answers as its model. Conditions: none but the statement's own. -/
import Derived.Test.YtliifdiajcahdaaHoldsParse
import Derived.Test.YtliifdiajcahdaaOwnParse
namespace Go.Proofs.Ytliifdiajcahdaa
open Go Go.RowKit
theorem doneParseExpr : Rows.FnExactParseExprSaid := exactParseExpr_holds (fun s W hs => own_parse s W hs)
end Go.Proofs.Ytliifdiajcahdaa
