/- The statement of chapter 3 on EqualExpr holds, as given: at every two arguments of at most 1048576 values and letters the program's function answers as its model, and leaves the arguments alone. No condition of ours. -/
import Derived.Test.YtmndlhbgacgnlaaHoldsEx
import Derived.Test.YtmndlhbgacgnlaaOwnEqual
namespace Go.Proofs.Ytmndlhbgacgnlaa
open Go Go.RowKit

theorem equalexpr_holds : Rows.FnExactEqualExprSaid := exactEqualExpr_holds (fun e e2 v v2 bs bs2 W h h2 hf ht _ => own_equal e e2 v v2 bs bs2 W h h2 (tot_small ht) hf)
end Go.Proofs.Ytmndlhbgacgnlaa
