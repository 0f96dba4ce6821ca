/- The law FnExactParseExpr, from a contract of the program's own ParseExpr. Conditions: that contract; the reach of the form. -/
import Derived.Test.YtmndlhbgacgnlaaHoldsText
import Derived.Test.YtmndlhbgacgnlaaLawParse
namespace Go.Proofs.Ytmndlhbgacgnlaa
open Go Go.ChangeShapes Go.WideShapes Go.ChangeAt Go.RowKit
open Go.ChangeMaps (open_string shut_string)

/-- What the program's own ParseExpr gives. -/
def OwnParseExpr : Prop := ∀ (s : ByteArray) (W : World), s.size ≤ 1048576 → Calls Try.prog 30 #[.string s] W (ParsePost s W)
end Go.Proofs.Ytmndlhbgacgnlaa
