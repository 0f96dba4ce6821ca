/- A part of the proof of the seat's statement: Thaw. Condition: as each says. -/
import Derived.Test.YtiaknfnhmoinpaaGreatDrawOnce
import Derived.WalkSpells
import Derived.WalkLawsBesides
import Derived.Deep.QuietTactic
import Derived.BigQuiet
import Derived.Deep.RegionHeld3
import Derived.Test.YtiaknfnhmoinpaaGreatRuSz
import Derived.Test.YtiaknfnhmoinpaaGreatNames
import Derived.Test.YtiaknfnhmoinpaaGreatSpecJoin
import Derived.Test.YtiaknfnhmoinpaaGreatRuFits
set_option maxHeartbeats 8000000
namespace Go.Proofs.YtiaknfnhmoinpaaGreat
open Go Go.RowKit
def Thawed (W : World) (bs : List Nat) : Prop := ∀ x ∈ bs, x < W.heap.size ∧ ∀ o, W.frozen? ⟨x, o, none⟩ = false
theorem Thawed.below {W W2 : World} {bs : List Nat} (h : Thawed W bs) (hb : Below W.heap.size W W2) : Thawed W2 bs := fun x hx => ⟨nL (h x hx).1 hb.size, fun o => (hb.frozen (p := ⟨x, o, none⟩) (h x hx).1).trans ((h x hx).2 o)⟩
end Go.Proofs.YtiaknfnhmoinpaaGreat
