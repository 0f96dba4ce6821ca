/- The contracts of the laws' size of a slice of strings, a rule and a program. Condition: what is left is at most 1048576. -/
import Derived.Test.YtegigjnlecpplaaRu
import Derived.Test.YtegigjnlecpplaaExSz
namespace Go.Proofs.Ytegigjnlecpplaa
open Go Go.RowKit

def totN (l : List ByteArray) : Nat := (l.map (·.size)).sum
theorem totN_snoc (l : List ByteArray) (x : ByteArray) : totN (l ++ [x]) = totN l + x.size := by simp [totN]
theorem totN_take (xs : List ByteArray) : ∀ k, totN (xs.take k) ≤ totN xs := by
  induction xs with
  | nil => intro k; simp [totN]
  | cons x r ih =>
    intro k
    cases k with
    | zero => simp [totN]
    | succ k =>
      have := ih k
      simp only [totN, List.take_succ_cons, List.map_cons, List.sum_cons] at this ⊢
      omega
def ssTot (xs : List ByteArray) : Nat := xs.length + totN xs
def ruTot (r : Ru) : Nat := r.name.size + (r.con.size + (ssTot r.vars + (ssTot r.params + exTot r.body)))
def rusTot : List Ru → Nat
  | [] => 0
  | r :: l => ruTot r + 1 + rusTot l
theorem rusTot_ge : ∀ l : List Ru, l.length ≤ rusTot l := by
  intro l
  induction l with
  | nil => simp
  | cons e r ih => rw [rusTot, List.length_cons]; omega
theorem rusTot_app : ∀ (a b : List Ru), rusTot (a ++ b) = rusTot a + rusTot b := by
  intro a
  induction a with
  | nil => intro b; simp [rusTot]
  | cons x r ih => intro b; rw [List.cons_append, rusTot, rusTot, ih]; omega
theorem take_ru (l : List Ru) (k : Nat) (e : Ru) (h : l[k]? = some e) : l.take (k + 1) = l.take k ++ [e] := by
  obtain ⟨h1, h2⟩ := List.getElem?_eq_some_iff.1 h
  rw [List.take_succ_eq_append_getElem h1, h2]
theorem rusTot_snoc (l : List Ru) (k : Nat) (e : Ru) (h : l[k]? = some e) : rusTot (l.take (k + 1)) = rusTot (l.take k) + (ruTot e + 1) := by
  rw [take_ru l k e h, rusTot_app]; simp [rusTot]
theorem rusTot_rest (l : List Ru) (k : Nat) : rusTot (l.take k) + (l.length - k) ≤ rusTot l := by
  have h : rusTot l = rusTot (l.take k) + rusTot (l.drop k) := by rw [← rusTot_app, List.take_append_drop]
  have h2 := rusTot_ge (l.drop k)
  rw [List.length_drop] at h2
  omega
theorem rusTot_mem : ∀ {l : List Ru} {e : Ru}, e ∈ l → ruTot e + 1 ≤ rusTot l := by
  intro l
  induction l with
  | nil => intro e h; cases h
  | cons x r ih =>
    intro e h
    rw [rusTot]
    rcases List.mem_cons.1 h with rfl | h
    · omega
    · have := ih h; omega

/-- A box of seven cells. -/
def Box7 (W : World) (B : Nat) (T : TypeId) (x0 x1 x2 x3 x4 x5 x6 : Value) : Prop := W.heap[B]? = some (.cells #[x0, x1, x2, x3, x4, x5, x6] T (0, 0))
theorem Box7.cells {W : World} {B : Nat} {T : TypeId} {x0 x1 x2 x3 x4 x5 x6 : Value} (h : Box7 W B T x0 x1 x2 x3 x4 x5 x6) :
    W.cell? ⟨B, 0, none⟩ = some x0 ∧ W.cell? ⟨B, 1, none⟩ = some x1 ∧ W.cell? ⟨B, 2, none⟩ = some x2 ∧ W.cell? ⟨B, 3, none⟩ = some x3 ∧ W.cell? ⟨B, 4, none⟩ = some x4 ∧ W.cell? ⟨B, 5, none⟩ = some x5 ∧ W.cell? ⟨B, 6, none⟩ = some x6 := by
  unfold Box7 at h
  refine ⟨?_, ?_, ?_, ?_, ?_, ?_, ?_⟩ <;> (rw [World.cell?, h]; rfl)
theorem Box7.lt {W : World} {B : Nat} {T : TypeId} {x0 x1 x2 x3 x4 x5 x6 : Value} (h : Box7 W B T x0 x1 x2 x3 x4 x5 x6) : B < W.heap.size := (Array.getElem?_eq_some_iff.1 h).1
theorem Box7.thaw {W : World} {B : Nat} {T : TypeId} {x0 x1 x2 x3 x4 x5 x6 : Value} (h : Box7 W B T x0 x1 x2 x3 x4 x5 x6) (j : Nat) : W.frozen? ⟨B, j, none⟩ = false := by
  unfold Box7 at h
  simp [World.frozen?, h]
theorem box7_new {w W : World} {T : TypeId} {x0 x1 x2 x3 x4 x5 x6 : Value} (hb : Below (w.alloc (.cells #[x0, x1, x2, x3, x4, x5, x6] T)).heap.size (w.alloc (.cells #[x0, x1, x2, x3, x4, x5, x6] T)) W) : Box7 W w.heap.size T x0 x1 x2 x3 x4 x5 x6 :=
  (hb.block _ (by simp)).trans (by show (w.heap.push _)[w.heap.size]? = _; simp)
theorem box_low {w W : World} {o : Obj} (hb : Below (w.alloc o).heap.size (w.alloc o) W) : Below w.heap.size w W := ((Below.refl w.heap.size w).alloc (Nat.le_refl _) o).trans (hb.mono (by simp))

end Go.Proofs.Ytegigjnlecpplaa
