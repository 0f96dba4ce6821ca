/- The statement of chapter 5 on IsValidProgram holds, as given: at every program of at most 1048576 values and letters the program's function answers as its model and leaves the argument alone. No condition of ours. -/
import Derived.Test.YtmndlhbgacgnlaaHoldsRuValid
import Derived.Test.YtmndlhbgacgnlaaOwnValidP
namespace Go.Proofs.Ytmndlhbgacgnlaa
open Go Go.RowKit

theorem isvalidprogram_holds : Rows.FnExactIsValidProgramSaid := exactIsValidProgram_holds (fun l v bs W h hf ht => own_validp l v bs W h hf ht)
end Go.Proofs.Ytmndlhbgacgnlaa
