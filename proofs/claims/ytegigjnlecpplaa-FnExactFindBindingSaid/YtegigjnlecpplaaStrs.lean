/- What a slice of strings reads as, and the contract of the laws' comparison of two of them. Condition: fewer than 2^47 elements. -/
import Derived.Test.YtegigjnlecpplaaRows
import Derived.WalkKit
import Derived.WalkSpells
import Derived.WalkLawsBesides
import Derived.Lib.Hide
import Derived.Deep.QuietTactic
import Derived.BigQuiet
namespace Go.Proofs.Ytegigjnlecpplaa
open Go Go.RowKit

/-- The slice at A reads as the strings xs. -/
def Strs (w : World) (A : Option Addr) (xs : List ByteArray) : Prop :=
  ∀ i x, xs[i]? = some x → ∃ a, A = some a ∧ w.cell? (a.add i) = some (.string x) ∧ a.block < w.heap.size
theorem block_add (a : Addr) (n : Nat) : (a.add n).block = a.block := by unfold Addr.add; split <;> rfl
theorem Strs.below {w w' : World} {A : Option Addr} {xs : List ByteArray} (h : Strs w A xs) (hb : Below w.heap.size w w') : Strs w' A xs := fun i x hx => by
  obtain ⟨a, e, hc, hl⟩ := h i x hx
  exact ⟨a, e, (hb.cell (p := a.add i) (by rw [block_add]; exact hl)).trans hc, Nat.lt_of_lt_of_le hl hb.size⟩
theorem Strs.at_ {w : World} {A : Option Addr} {xs : List ByteArray} (h : Strs w A xs) (k : Nat) (hk : k < xs.length) : ∃ a, A = some a ∧ w.cell? (a.add k) = some (.string xs[k]) ∧ a.block < w.heap.size :=
  h k xs[k] (List.getElem?_eq_getElem hk)

theorem take_nextS {α : Type} (l : List α) (k : Nat) (h : k < l.length) : l.take (k + 1) = l.take k ++ [l[k]] := by
  rw [List.take_succ_eq_append_getElem h]

theorem Strs.get {w : World} {A : Option Addr} {xs : List ByteArray} (h : Strs w A xs) (k : Nat) (hk : k < xs.length) :
    ∃ a x, A = some a ∧ w.cell? (a.add k) = some (.string x) ∧ x ∈ xs ∧ xs[k]? = some x ∧ xs.take (k + 1) = xs.take k ++ [x] ∧ a.block < w.heap.size := by
  obtain ⟨a, e, hc, hl⟩ := h.at_ k hk
  exact ⟨a, xs[k], e, hc, List.getElem_mem hk, List.getElem?_eq_getElem hk, take_nextS xs k hk, hl⟩

def EqPost (w : World) (e : Ending) (w' : World) : Prop := e = .returned (.bool true) ∧ ∃ q, w' = w.drewN q

end Go.Proofs.Ytegigjnlecpplaa
