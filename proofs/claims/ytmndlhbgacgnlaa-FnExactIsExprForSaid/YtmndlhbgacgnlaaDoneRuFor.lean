/- The statement of chapter 5 on IsExprFor holds, as given: at every program and expression of at most 1048576 values and letters each the program's function answers as its model and leaves the arguments alone. No condition of ours. -/
import Derived.Test.YtmndlhbgacgnlaaHoldsRuFits
import Derived.Test.YtmndlhbgacgnlaaOwnFor
namespace Go.Proofs.Ytmndlhbgacgnlaa
open Go Go.RowKit

theorem isexprfor_holds : Rows.FnExactIsExprForSaid := exactIsExprFor_holds (fun l e v v2 bs b2 W h h2 hf ht ht2 => own_for l e v v2 bs b2 W h h2 hf
  (fun r hr => by
    have h1 := rusTot_mem hr
    have h2 := (tot_size _).1 r.body (Nat.le_refl _)
    unfold ruTot at h1
    omega)
  (by have := rusTot_ge l; omega)
  (fun r hr => by
    have h1 := rusTot_mem hr
    unfold ruTot ssTot at h1
    omega)
  (by have := (tot_size _).1 e (Nat.le_refl _); omega))
end Go.Proofs.Ytmndlhbgacgnlaa
