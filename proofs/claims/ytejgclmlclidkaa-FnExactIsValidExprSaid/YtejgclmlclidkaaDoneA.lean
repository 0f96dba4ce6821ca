/- The statements of chapter 3 on SizeOf, DepthOf, CallsOf, IsValidExpr, IsData and VarsOf hold, as given: at every argument of at most 1048576 values and letters the program's function answers as its model, leaves the argument alone, and its answer owns its memory. No condition of ours. -/
import Derived.Test.YtejgclmlclidkaaHoldsEx
import Derived.Test.YtejgclmlclidkaaOwnSize
import Derived.Test.YtejgclmlclidkaaOwnCalls
import Derived.Test.YtejgclmlclidkaaOwnDepth
import Derived.Test.YtejgclmlclidkaaOwnValid
import Derived.Test.YtejgclmlclidkaaOwnData
import Derived.Test.YtejgclmlclidkaaOwnVars
namespace Go.Proofs.Ytejgclmlclidkaa
open Go Go.RowKit

theorem sizeof_holds : Rows.FnExactSizeOfSaid := exactSizeOf_holds (fun e v bs W h ht => own_size e v bs W h (tot_small ht))
theorem depthof_holds : Rows.FnExactDepthOfSaid := exactDepthOf_holds (fun e v bs W h ht => own_depth e v bs W h (tot_small ht))
theorem callsof_holds : Rows.FnExactCallsOfSaid := exactCallsOf_holds (fun e v bs W h ht => own_calls e v bs W h (tot_small ht))
theorem isvalidexpr_holds : Rows.FnExactIsValidExprSaid := exactIsValidExpr_holds (fun e v bs W h ht => own_valid e v bs W h (tot_small ht))
theorem isdata_holds : Rows.FnExactIsDataSaid := exactIsData_holds (fun e v bs W h ht => own_data e v bs W h (tot_small ht))
theorem varsof_holds : Rows.FnExactVarsOfSaid := exactVarsOf_holds (fun e v bs W h ht => own_vars e v bs W h (tot_small ht))
end Go.Proofs.Ytejgclmlclidkaa
