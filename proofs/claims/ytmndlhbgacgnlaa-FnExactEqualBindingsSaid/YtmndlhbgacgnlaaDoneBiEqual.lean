/- The statement of chapter 7 on EqualBindings holds, as given: at every two lists of bindings of at most 1048576 values and letters the program's function answers as its model and leaves the arguments alone. No condition of ours. -/
import Derived.Test.YtmndlhbgacgnlaaHoldsBiEqual
import Derived.Test.YtmndlhbgacgnlaaOwnBiEqual
namespace Go.Proofs.Ytmndlhbgacgnlaa
open Go Go.RowKit

theorem equalbindings_holds : Rows.FnExactEqualBindingsSaid := exactEqualBindings_holds (fun l m v v2 bs b2 W h h2 hf ht _ => own_equalb l m v v2 bs b2 W h h2 ht hf)
end Go.Proofs.Ytmndlhbgacgnlaa
