/- FnSizes holds, as given: for the expressions that it draws, sizes and depths are those of the parts, what is data has neither variables nor calls, and the expressions that it draws as equal are equal. No condition of ours. -/
import Derived.Test.YtmndlhbgacgnlaaHoldsFnSizes
import Derived.Test.YtmndlhbgacgnlaaOwnSize
import Derived.Test.YtmndlhbgacgnlaaOwnData
import Derived.Test.YtmndlhbgacgnlaaOwnDepth
import Derived.Test.YtmndlhbgacgnlaaOwnValid
import Derived.Test.YtmndlhbgacgnlaaOwnVars
import Derived.Test.YtmndlhbgacgnlaaOwnEqual
namespace Go.Proofs.Ytmndlhbgacgnlaa
open Go Go.RowKit

theorem fnsizes_holds : Rows.FnSizesSaid := sizes_holds ⟨fun e v bs W h ht => own_size e v bs W h (tot_small ht), fun e v bs W h ht => own_depth e v bs W h (tot_small ht), fun e v bs W h ht => own_calls e v bs W h (tot_small ht), fun e v bs W h ht => own_valid e v bs W h (tot_small ht), fun e v bs W h ht => own_data e v bs W h (tot_small ht), fun e v bs W h ht => own_vars e v bs W h (tot_small ht), fun e e2 v v2 bs bs2 W h h2 ht _ _ hf => own_equal e e2 v v2 bs bs2 W h h2 (tot_small ht) hf⟩
end Go.Proofs.Ytmndlhbgacgnlaa
