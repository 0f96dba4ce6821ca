/- The statement of chapter 5 on ConArity holds, as given: at every program of at most 1048576 values and letters the program's function answers as its model and leaves the argument alone. No condition of ours. -/
import Derived.Test.YtmndlhbgacgnlaaHoldsRuCon
import Derived.Test.YtmndlhbgacgnlaaOwnRuCon
namespace Go.Proofs.Ytmndlhbgacgnlaa
open Go Go.RowKit

theorem body_le (r : Ru) : exSize r.body ≤ ruTot r + 1 := by
  have := (tot_size _).1 r.body (Nat.le_refl _)
  unfold ruTot; omega
theorem conarity_holds : Rows.FnExactConAritySaid := exactConArityF_holds (fun l s v bs W h hf ht => own_con l s v bs W h hf (fun r hr => by have := rusTot_mem hr; have := body_le r; omega))
end Go.Proofs.Ytmndlhbgacgnlaa
