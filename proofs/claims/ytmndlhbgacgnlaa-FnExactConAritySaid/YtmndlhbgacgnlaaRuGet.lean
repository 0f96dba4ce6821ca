/- A rule of a slice, and where its blocks are among all. No condition. -/
import Derived.Test.YtmndlhbgacgnlaaRu
namespace Go.Proofs.Ytmndlhbgacgnlaa
open Go Go.RowKit

theorem RsIs.get2 {w : World} {A : Option Addr} {n c : Nat} {l : List Ru} {bs : List Nat} (h : RsIs w (.slice A n c) l bs) (k : Nat) (hk : k < l.length) : ∃ g o r v1 v2 u b, RuleAt w A l k g o r v1 v2 u b ∧ ∀ x ∈ b, x ∈ bs := by
  obtain ⟨A', c', e, h1, h2, h4⟩ := h
  cases e
  rcases h4 with ⟨rfl, -⟩ | ⟨g, o, bs', rfl, h5, rfl, h6⟩
  · simp at hk
  · have hg : l[k]? = some l[k] := List.getElem?_eq_getElem hk
    obtain ⟨b1, ⟨v1, v2, u, h7, h8⟩, h9⟩ := h6.get l 0 bs' k _ hg
    rw [Nat.zero_add] at h7
    exact ⟨g, o, l[k], v1, v2, u, b1, ⟨rfl, h5, hg, List.getElem_mem hk, h7, h8⟩, fun x hx => List.mem_cons_of_mem _ (h9 x hx)⟩

end Go.Proofs.Ytmndlhbgacgnlaa
