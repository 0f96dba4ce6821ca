/- The statement of chapter 6 on FormatProgram holds, as given: at every program of at most 1048576 values and letters the program's function answers as its model and leaves the argument alone. No condition of ours. -/
import Derived.Test.YtmndlhbgacgnlaaGreatHoldsPrText
import Derived.Test.YtmndlhbgacgnlaaGreatOwnPrText
namespace Go.Proofs.YtmndlhbgacgnlaaGreat
open Go Go.RowKit

theorem formatprogram_holds : Rows.FnExactFormatProgramSaid := exactFormatProgram_holds (fun l v bs W h hf ht => own_prtext l v bs W h hf ht)
end Go.Proofs.YtmndlhbgacgnlaaGreat
