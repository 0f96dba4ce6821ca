/- The contract of the laws' look at the marks in an expression's memory. Condition: fewer than 2^38 nodes. -/
import Derived.Test.YtmndlhbgacgnlaaExMark
import Derived.Deep.RegionHeld3
namespace Go.Proofs.Ytmndlhbgacgnlaa
open Go Go.RowKit

theorem mkExs_get : ∀ (l : List Ex) (M : Int) (k : Nat) (e : Ex), l[k]? = some e → (mkExs M l)[k]? = some (mkEx (M + 2 * (exSizes (l.take k) : Int)) e) := by
  intro l
  induction l with
  | nil => intro M k e h; simp at h
  | cons x r ih =>
    intro M k e h
    rw [mkExs]
    cases k with
    | zero =>
      simp at h
      subst h
      simp [exSizes]
    | succ k =>
      rw [List.getElem?_cons_succ, ih _ k e (by simpa using h), List.take_succ_cons, exSizes]
      congr 2
      omega
def HeldEnd (M : Int) (l : List Ex) (w : World) (r : Ending) (w' : World) : Prop := r = .returned (.int .i64 (M + 2 * (exSizes l : Int))) ∧ Below w.heap.size w w'

end Go.Proofs.Ytmndlhbgacgnlaa
