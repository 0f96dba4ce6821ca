/- The law FnExprText holds: an expression is parsed from its representation. Conditions: none but the statement's own. -/
import Derived.Test.YtliifdiajcahdaaHoldsExprText
import Derived.Test.YtliifdiajcahdaaOwnEqual
import Derived.Test.YtliifdiajcahdaaOwnParse
namespace Go.Proofs.Ytliifdiajcahdaa
open Go Go.RowKit
theorem doneExprText : Rows.FnExprTextSaid := exprText_holds own_format_any (fun s W hs => own_parse s W hs)
  (fun a b v v2 bs bs2 w hv hv2 hb _ hz => own_equal a b v v2 bs bs2 w hv hv2 (by have := (tot_size (exSize a)).1 a (Nat.le_refl _); omega) (fun h => by omega))
end Go.Proofs.Ytliifdiajcahdaa
