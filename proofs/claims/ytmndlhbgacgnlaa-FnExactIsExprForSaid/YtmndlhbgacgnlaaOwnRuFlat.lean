/- The contracts of kind and arity at a bare value stand in RuLight. No condition. -/
import Derived.Test.YtmndlhbgacgnlaaOwnRuFind
import Derived.Test.YtmndlhbgacgnlaaRuLight
namespace Go.Proofs.Ytmndlhbgacgnlaa
end Go.Proofs.Ytmndlhbgacgnlaa
