/- The statement of chapter 5 on EqualProgram holds, as given: at every two programs of at most 1048576 values and letters the program's function answers as its model and leaves the arguments alone. No condition of ours. -/
import Derived.Test.YtmndlhbgacgnlaaHoldsRuEqual
import Derived.Test.YtmndlhbgacgnlaaOwnRuEqual
namespace Go.Proofs.Ytmndlhbgacgnlaa
open Go Go.RowKit

theorem body_small {l : List Ru} (h : rusTot l ≤ 1048576) : ∀ r ∈ l, exSize r.body ≤ 1099511627776 := fun r hr => by
  have h1 := rusTot_mem hr
  have h2 := (tot_size (exSize r.body)).1 r.body (Nat.le_refl _)
  unfold ruTot at h1
  omega
theorem equalprogram_holds : Rows.FnExactEqualProgramSaid := exactEqualProgram_holds (fun l m v v2 bs b2 W h h2 hf ht _ => own_equalp l m v v2 bs b2 W h h2 (body_small ht) hf)
end Go.Proofs.Ytmndlhbgacgnlaa
