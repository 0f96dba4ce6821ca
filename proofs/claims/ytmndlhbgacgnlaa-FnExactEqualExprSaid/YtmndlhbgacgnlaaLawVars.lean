/- FnExactVarsOf, from a contract of the program's own VarsOf. Conditions: that contract; the argument lies in memory as an expression. -/
import Derived.Test.YtmndlhbgacgnlaaLawSizes
import Derived.Test.YtmndlhbgacgnlaaSpecVars
import Derived.Test.YtmndlhbgacgnlaaExMark
import Derived.Test.YtmndlhbgacgnlaaMarkKit
namespace Go.Proofs.Ytmndlhbgacgnlaa
open Go Go.RowKit

theorem own_only {w w' : World} {B n : Nat} {v : Value} {l : List Value} {bs : List Nat} (h : w.ownsRow B 9 1 v n l) (ho : OnlyIn w w' bs) (hn : ∀ k, v.ownBlock = some k → k ∉ bs) : w'.ownsRow B 9 1 v n l := by
  refine ⟨h.1, ?_⟩
  rcases h.2 with h2 | ⟨g, cap, cur, rfl, hb, hg, r⟩
  · exact Or.inl h2
  · exact Or.inr ⟨g, cap, cur, rfl, hb, (ho.block g (Array.getElem?_eq_some_iff.1 hg).1 (hn g rfl)).trans hg, r⟩
theorem only_low {a b c : World} {B : Nat} {bs : List Nat} (h : Below B a b) (ho : OnlyIn b c bs) (hn : ∀ x ∈ bs, B ≤ x) (hB : B ≤ b.heap.size) : Below B a c :=
  h.trans ⟨ho.os, ho.tape, ho.output, ho.size, fun k hk => ho.block k (by omega) (fun hm => by have := hn k hm; omega)⟩
theorem drew_below (w : World) (q : Nat) : Below w.heap.size w (w.drewN q) := ⟨rfl, rfl, rfl, Nat.le_refl _, fun _ _ => rfl⟩
theorem low_grown {a b c : World} {B : Nat} {row : Option Nat} (h : Below B a b) (hg : b.grownBy c row) (hn : ∀ k, row = some k → B ≤ k) (hB : B ≤ b.heap.size) : Below B a c :=
  h.trans ⟨hg.os, hg.tape, hg.output, hg.size, fun k hk => hg.block k (by omega) (fun e => by have := hn k e.symm; omega)⟩

end Go.Proofs.Ytmndlhbgacgnlaa
