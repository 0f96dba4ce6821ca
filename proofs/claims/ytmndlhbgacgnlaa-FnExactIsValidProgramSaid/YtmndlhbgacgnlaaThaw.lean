/- What lies in memory of its own, shared by no string. No condition. -/
import Derived.Test.YtmndlhbgacgnlaaLawRu
namespace Go.Proofs.Ytmndlhbgacgnlaa
open Go Go.RowKit

/-- No string shares the memory of what is at hand. -/
def Thawed (W : World) (bs : List Nat) : Prop := ∀ x ∈ bs, x < W.heap.size ∧ ∀ o, W.frozen? ⟨x, o, none⟩ = false
theorem Thawed.below {W W2 : World} {bs : List Nat} (h : Thawed W bs) (hb : Below W.heap.size W W2) : Thawed W2 bs := fun x hx => ⟨Nat.lt_of_lt_of_le (h x hx).1 hb.size, fun o => (hb.frozen (p := ⟨x, o, none⟩) (h x hx).1).trans ((h x hx).2 o)⟩

theorem mine_thawed {W : World} {B : Nat} {b2 : List Nat} (h2 : Mine W B b2) : Thawed W b2 := fun x h => ⟨(h2.range x h).2, h2.free x h⟩
theorem thawed_both {W : World} {B C : Nat} {b2 b3 : List Nat} (h2 : Mine W B b2) (h3 : Mine W C b3) : Thawed W (b2 ++ b3) := fun x hx => (List.mem_append.1 hx).elim (fun h => ⟨(h2.range x h).2, h2.free x h⟩) (fun h => ⟨(h3.range x h).2, h3.free x h⟩)
end Go.Proofs.Ytmndlhbgacgnlaa
