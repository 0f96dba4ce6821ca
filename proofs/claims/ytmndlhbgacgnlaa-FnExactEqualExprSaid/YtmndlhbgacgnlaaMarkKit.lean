/- Marks on a row of strings that may be nil. Conditions: as each says. -/
import Derived.Test.YtmndlhbgacgnlaaMarks
import Derived.Test.YtmndlhbgacgnlaaOwnsL
namespace Go.Proofs.Ytmndlhbgacgnlaa
open Go Go.RowKit

theorem drewN_belowM (w : World) (q : Nat) : Below w.heap.size w (w.drewN q) := ⟨rfl, rfl, rfl, Nat.le_refl _, fun _ _ => rfl⟩
theorem marks_strs {w : World} {M : Int} {B g n cap : Nat} (h : w.ownsRow B 9 1 (.slice (some ⟨g, 0, none⟩) n cap) n ((mlist M n).map Value.string)) : Strs w (some ⟨g, 0, none⟩) (mlist M n) := fun i x hx =>
  ⟨_, rfl, h.cells (g := g) rfl i _ (by rw [List.getElem?_map, hx]; rfl), (h.lt g rfl).2⟩
theorem kept_ne {w w' : World} {B n : Nat} {v : Value} {l : List Value} {row : Option Nat} (h : w.ownsRow B 9 1 v n l) (hg : w.grownBy w' row) (hne : ∀ k, v.ownBlock = some k → row ≠ some k) : w'.ownsRow B 9 1 v n l :=
  h.kept hg (by
    cases hv : v.ownBlock with
    | none => exact Or.inl rfl
    | some k => exact Or.inr (fun e => hne k hv e.symm))
theorem below_grownM {w0 w w' : World} {row : Option Nat} (h : Below w0.heap.size w0 w) (hg : w.grownBy w' row) (hr : ∀ k, row = some k → w0.heap.size ≤ k) : Below w0.heap.size w0 w' := h.grown hg h.size hr
def MarkValPost (M : Int) (B n : Nat) (v : Value) (w : World) (e : Ending) (w' : World) : Prop :=
  e = .returned (.int .i64 (M + (n : Int))) ∧ w'.ownsRow B 9 1 v n ((mlist M n).map Value.string) ∧ w.grownBy w' v.ownBlock
theorem own_read {w : World} {B cap : Nat} {A : Option Addr} {xs : List ByteArray} (h : w.ownsRow B 9 1 (.slice A xs.length cap) xs.length (xs.map Value.string)) : Strs w A xs := by
  obtain ⟨A', c', e, hs⟩ := OwnsL.shape (show OwnsL B w (.slice A xs.length cap) xs from h)
  cases e; exact hs
theorem shape_of {B : Nat} {w : World} {v : Value} {xs : List ByteArray} (h : OwnsL B w v xs) : ∃ A cap, v = .slice A xs.length cap := by
  obtain ⟨A, c, e, -⟩ := h.shape
  exact ⟨A, c, e⟩
end Go.Proofs.Ytmndlhbgacgnlaa
