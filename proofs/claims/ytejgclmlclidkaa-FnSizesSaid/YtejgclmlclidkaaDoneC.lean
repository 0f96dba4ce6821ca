/- FnSizes holds, as given: for the expressions that it draws, sizes and depths are those of the parts, what is data has neither variables nor calls, and the expressions that it draws as equal are equal. No condition of ours. -/
import Derived.Test.YtejgclmlclidkaaHoldsFnSizes
import Derived.Test.YtejgclmlclidkaaOwnSize
import Derived.Test.YtejgclmlclidkaaOwnCalls
import Derived.Test.YtejgclmlclidkaaOwnDepth
import Derived.Test.YtejgclmlclidkaaOwnValid
import Derived.Test.YtejgclmlclidkaaOwnData
import Derived.Test.YtejgclmlclidkaaOwnVars
import Derived.Test.YtejgclmlclidkaaOwnEqual
namespace Go.Proofs.Ytejgclmlclidkaa
open Go Go.RowKit

theorem fnsizes_holds : Rows.FnSizesSaid := sizes_holds ⟨fun e v bs W h ht => own_size e v bs W h (tot_small ht), fun e v bs W h ht => own_depth e v bs W h (tot_small ht), fun e v bs W h ht => own_calls e v bs W h (tot_small ht), fun e v bs W h ht => own_valid e v bs W h (tot_small ht), fun e v bs W h ht => own_data e v bs W h (tot_small ht), fun e v bs W h ht => own_vars e v bs W h (tot_small ht), fun e e2 v v2 bs bs2 W h h2 ht _ hz => own_equal e e2 v v2 bs bs2 W h h2 (tot_small ht) (fun hb => by omega)⟩
end Go.Proofs.Ytejgclmlclidkaa
