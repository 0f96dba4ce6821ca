/- The statement of chapter 6 on FormatRule holds, as given: at every rule of at most 1048576 values and letters the program's function answers as its model and leaves the argument alone. No condition of ours. -/
import Derived.Test.YtliifdiajcahdaaHoldsRuText
namespace Go.Proofs.Ytliifdiajcahdaa
open Go Go.RowKit

theorem formatrule_holds : Rows.FnExactFormatRuleSaid := exactFormatRule_holds (fun r v bs W h ht => own_rutext r v bs W h ht)
end Go.Proofs.Ytliifdiajcahdaa
