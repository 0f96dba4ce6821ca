/- When lists of bindings are equal, and the contract of the model's EqualBindings. Condition: they lie in memory. -/
import Derived.Test.YtegigjnlecpplaaBiSz
import Derived.Test.YtegigjnlecpplaaSpecEqual
namespace Go.Proofs.Ytegigjnlecpplaa
open Go Go.RowKit

def biEq (r s : Bi) : Bool := decide (r.name = s.name) && exEq r.val s.val
def eqBl : List Bi → List Bi → Bool
  | [], [] => true
  | r :: a, s :: b => biEq r s && eqBl a b
  | _, _ => false
theorem eqBl_len : ∀ (a b : List Bi), a.length ≠ b.length → eqBl a b = false := by
  intro a
  induction a with
  | nil => intro b h; cases b with
    | nil => exact absurd rfl h
    | cons y b => rfl
  | cons x a ih => intro b h; cases b with
    | nil => rfl
    | cons y b => rw [eqBl, ih b (fun hh => h (by simp [hh])), Bool.and_false]
theorem eqBl_here {a b : List Bi} {k : Nat} {x y : Bi} (h : a[k]? = some x) (h' : b[k]? = some y) : eqBl (a.drop k) (b.drop k) = (biEq x y && eqBl (a.drop (k + 1)) (b.drop (k + 1))) := by
  obtain ⟨h1, h2⟩ := List.getElem?_eq_some_iff.1 h
  obtain ⟨h3, h4⟩ := List.getElem?_eq_some_iff.1 h'
  rw [List.drop_eq_getElem_cons h1, h2, List.drop_eq_getElem_cons h3, h4, eqBl]
theorem bi_slice {w : World} {u : Value} {e : Ex} {bs : List Nat} {k : Int} {s : ByteArray} (h : ExIs w (.agg #[.int .i64 k, .string s, u]) e bs) : ∃ A n c, u = .slice A n c := by
  obtain ⟨u', e3, -, A, c, e4, -⟩ := h
  simp only [Value.agg.injEq, Array.mk.injEq, List.cons.injEq, and_true] at e3
  exact ⟨A, _, c, by rw [e3.2.2, e4]⟩
end Go.Proofs.Ytegigjnlecpplaa
