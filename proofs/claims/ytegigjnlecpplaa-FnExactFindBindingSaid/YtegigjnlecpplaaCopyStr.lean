/- The contracts of the laws' size and copy of a slice of strings. Conditions: as each says. -/
import Derived.Test.YtegigjnlecpplaaStrs
import Derived.Laws.OwnMore
namespace Go.Proofs.Ytegigjnlecpplaa
open Go Go.RowKit

def tot (l : List ByteArray) : Nat := (l.map (·.size)).sum
theorem tot_snoc (l : List ByteArray) (x : ByteArray) : tot (l ++ [x]) = tot l + x.size := by simp [tot]
def SzPost (xs : List ByteArray) (w : World) (e : Ending) (w' : World) : Prop :=
  ∃ r : Int, e = .returned (.int .i64 r) ∧ w = w' ∧ (r = -1 ∨ (0 ≤ r ∧ tot xs + xs.length ≤ 1048576))

theorem Try.info9 : (Try.prog.info? 9).map (fun i => (i.zero, i.size, i.bytes)) = some (some (.string ⟨#[]⟩), 1, 16) := by kernel_rfl

theorem take_set {ys : List Value} {xs : List ByteArray} {k : Nat} {x : ByteArray} (hk : k < ys.length) (hx : xs[k]? = some x) (h : ys.take k = (xs.take k).map Value.string) :
    (ys.set k (.string x)).take (k + 1) = (xs.take (k + 1)).map Value.string := by
  have hkx : k < xs.length := (List.getElem?_eq_some_iff.1 hx).1
  have e : xs[k] = x := (List.getElem?_eq_some_iff.1 hx).2
  rw [take_nextS xs k hkx, e, List.map_append, ← h, take_nextS _ k (by rw [List.length_set]; exact hk), List.take_set_of_le (Nat.le_refl _), List.getElem_set_self]
  rfl

/-- What the copy leaves: a new row that holds the strings. -/
def CopyPost (xs : List ByteArray) (w : World) (e : Ending) (w' : World) : Prop :=
  ∃ g, e = .returned (.slice (some ⟨g, 0, none⟩) xs.length xs.length) ∧ w'.ownsRow w.heap.size 9 1 (.slice (some ⟨g, 0, none⟩) xs.length xs.length) xs.length (xs.map Value.string) ∧ Below w.heap.size w w'

end Go.Proofs.Ytegigjnlecpplaa
