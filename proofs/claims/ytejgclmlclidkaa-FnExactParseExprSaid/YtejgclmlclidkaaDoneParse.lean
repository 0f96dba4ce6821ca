/- The law FnExactParseExpr holds: at every text the program's ParseExpr answers as its model. Conditions: none but the statement's own. -/
import Derived.Test.YtejgclmlclidkaaHoldsParse
import Derived.Test.YtejgclmlclidkaaOwnParse
namespace Go.Proofs.Ytejgclmlclidkaa
open Go Go.RowKit
theorem doneParseExpr : Rows.FnExactParseExprSaid := exactParseExpr_holds (fun s W hs => own_parse s W hs)
end Go.Proofs.Ytejgclmlclidkaa
