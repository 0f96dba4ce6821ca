/- The walk of the law FnExactEqualBindings, from a contract of the program's own function. Conditions: that contract; the arguments lie in memory. -/
import Derived.Test.YtegigjnlecpplaaBiCopy
import Derived.Test.YtegigjnlecpplaaBiEq
import Derived.Test.YtegigjnlecpplaaBiEqual
import Derived.Test.YtegigjnlecpplaaLawSizes
namespace Go.Proofs.Ytegigjnlecpplaa
open Go Go.RowKit

theorem bis_small {l : List Bi} (h : bisTot l ≤ 1048576) : (∀ r ∈ l, exSize r.val ≤ 1099511627776) ∧ l.length ≤ 1099511627776 :=
  ⟨fun r hr => by
    have h1 := bisTot_mem hr
    have h2 := (tot_size (exSize r.val)).1 r.val (Nat.le_refl _)
    unfold biTot at h1
    omega, by have := bisTot_ge l; omega⟩
theorem bl_slice {w : World} {v : Value} {l : List Bi} {bs : List Nat} (h : BlIs w v l bs) : ∃ A c, v = .slice A l.length c := by
  obtain ⟨A, c, e, -⟩ := h
  exact ⟨A, c, e⟩
theorem mine_two {W : World} {B C : Nat} {b2 b3 : List Nat} (h2 : Mine W B b2) (h3 : Mine W C b3) : ∀ x ∈ b2 ++ b3, ∀ o, W.frozen? ⟨x, o, none⟩ = false := fun x hx => (List.mem_append.1 hx).elim (fun h => h2.free x h) (fun h => h3.free x h)

end Go.Proofs.Ytegigjnlecpplaa
