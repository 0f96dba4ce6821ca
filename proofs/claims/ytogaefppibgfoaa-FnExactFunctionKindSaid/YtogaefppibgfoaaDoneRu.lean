/- The statements of chapter 5 on FunctionKind, FunctionArity and FindRule hold, as given: at every program of at most 1048576 values and letters the program's function answers as its model and leaves the argument alone. No condition of ours. -/
import Derived.Test.YtogaefppibgfoaaHoldsRu
import Derived.Test.YtogaefppibgfoaaOwnRuFind
namespace Go.Proofs.Ytogaefppibgfoaa
open Go Go.RowKit

theorem params_le (r : Ru) : r.params.length ≤ ruTot r := by unfold ruTot ssTot; omega
theorem functionkind_holds : Rows.FnExactFunctionKindSaid := exactFunctionKind_holds (fun l s v bs W h ht => own_fkind l s v bs W h (by have := rusTot_ge l; omega))
theorem functionarity_holds : Rows.FnExactFunctionAritySaid := exactFunctionArity_holds (fun l s v bs W h ht => own_farity l s v bs W h (by have := rusTot_ge l; omega) (fun r hr => by have := rusTot_mem hr; have := params_le r; omega))
theorem findrule_holds : Rows.FnExactFindRuleSaid := exactFindRule_holds (fun l s t v bs W h ht => own_find l s t v bs W h (by have := rusTot_ge l; omega))
end Go.Proofs.Ytogaefppibgfoaa
