/- The law FnExprText holds: an expression is parsed from its representation. Conditions: none but the statement's own. -/
import Derived.Test.YtjhgchpejipdoaaHoldsExprText
import Derived.Test.YtjhgchpejipdoaaOwnEqual
import Derived.Test.YtjhgchpejipdoaaOwnParse
namespace Go.Proofs.Ytjhgchpejipdoaa
open Go Go.RowKit
theorem doneExprText : Rows.FnExprTextSaid := exprText_holds own_format_any (fun s W hs => own_parse s W hs)
  (fun a b v v2 bs bs2 w hv hv2 hb _ => own_equal a b v v2 bs bs2 w hv hv2 (by have := (tot_size (exSize a)).1 a (Nat.le_refl _); omega))
end Go.Proofs.Ytjhgchpejipdoaa
