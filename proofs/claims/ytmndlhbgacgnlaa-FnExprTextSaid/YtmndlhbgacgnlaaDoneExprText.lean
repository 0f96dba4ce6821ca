/- The law FnExprText holds: an expression is parsed from its representation. Conditions: none but the statement's own. -/
import Derived.Test.YtmndlhbgacgnlaaHoldsExprText
import Derived.Test.YtmndlhbgacgnlaaOwnEqual
import Derived.Test.YtmndlhbgacgnlaaOwnParse
namespace Go.Proofs.Ytmndlhbgacgnlaa
open Go Go.RowKit
theorem doneExprText : Rows.FnExprTextSaid := exprText_holds own_format_any (fun s W hs => own_parse s W hs)
  (fun a b v v2 bs bs2 w hv hv2 hb _ _ hf => own_equal a b v v2 bs bs2 w hv hv2 (by have := (tot_size (exSize a)).1 a (Nat.le_refl _); omega) hf)
end Go.Proofs.Ytmndlhbgacgnlaa
