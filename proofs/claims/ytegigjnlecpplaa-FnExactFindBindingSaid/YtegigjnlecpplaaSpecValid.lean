/- The contracts of the model's l3Left, l3Form, l3All, IsValidExpr, l3Data, IsData. Condition: names and nodes together at most 1048576. -/
import Derived.Test.YtegigjnlecpplaaSpecSizes
import Derived.Test.YtegigjnlecpplaaSpecNames
import Derived.Test.YtegigjnlecpplaaExSz
namespace Go.Proofs.Ytegigjnlecpplaa
open Go Go.RowKit

def exFormOf (K : Int) (s : ByteArray) (m : Nat) : Bool :=
  if K = 1 then nameL 97 122 s.data.toList && decide (m = 0) else if K = 2 then nameL 65 90 s.data.toList && decide (m ≤ 5) else if K = 3 then nameL 97 122 s.data.toList && decide (m ≤ 5) else if K = 4 then decide (s.size = 0) && decide (m = 0) else false
mutual
def exAll : Ex → Bool
  | .mk k s l => exAllL l && exFormOf k s l.length
def exAllL : List Ex → Bool
  | [] => true
  | e :: r => exAll e && exAllL r
end
mutual
def exDat : Ex → Bool
  | .mk k _ l => exDatL l && decide (k = 2)
def exDatL : List Ex → Bool
  | [] => true
  | e :: r => exDat e && exDatL r
end
def exValid (e : Ex) : Bool := decide (exSize e ≤ 80) && (decide (exDepth e ≤ 24) && exAll e)
def exIsData (e : Ex) : Bool := exValid e && exDat e
theorem all_app : ∀ (a b : List Ex), exAllL (a ++ b) = (exAllL a && exAllL b) := by
  intro a
  induction a with
  | nil => intro b; simp [exAllL]
  | cons x r ih => intro b; rw [List.cons_append, exAllL, exAllL, ih, Bool.and_assoc]
theorem dat_app : ∀ (a b : List Ex), exDatL (a ++ b) = (exDatL a && exDatL b) := by
  intro a
  induction a with
  | nil => intro b; simp [exDatL]
  | cons x r ih => intro b; rw [List.cons_append, exDatL, exDatL, ih, Bool.and_assoc]
theorem all_snoc (l : List Ex) (k : Nat) (e : Ex) (h : l[k]? = some e) : exAllL (l.take (k + 1)) = (exAllL (l.take k) && exAll e) := by
  rw [take_ex l k e h, all_app]; simp [exAllL]
theorem dat_snoc (l : List Ex) (k : Nat) (e : Ex) (h : l[k]? = some e) : exDatL (l.take (k + 1)) = (exDatL (l.take k) && exDat e) := by
  rw [take_ex l k e h, dat_app]; simp [exDatL]
theorem all_false {l : List Ex} {e : Ex} (h : e ∈ l) (he : exAll e = false) : exAllL l = false := by
  induction l with
  | nil => cases h
  | cons x r ih =>
    rw [exAllL]
    rcases List.mem_cons.1 h with rfl | h
    · rw [he]; rfl
    · rw [ih h, Bool.and_false]
theorem dat_false {l : List Ex} {e : Ex} (h : e ∈ l) (he : exDat e = false) : exDatL l = false := by
  induction l with
  | nil => cases h
  | cons x r ih =>
    rw [exDatL]
    rcases List.mem_cons.1 h with rfl | h
    · rw [he]; rfl
    · rw [ih h, Bool.and_false]
theorem tots_mem : ∀ {l : List Ex} {e : Ex}, e ∈ l → exTot e + 1 ≤ exTots l := by
  intro l
  induction l with
  | nil => intro e h; cases h
  | cons x r ih =>
    intro e h
    rw [exTots]
    rcases List.mem_cons.1 h with rfl | h
    · omega
    · have := ih h; omega
theorem tot_parts (e : Ex) : exTot e = e.name.size + exTots e.args := by cases e; rfl

def LeftPost (L T : Int) (w : World) (e : Ending) (w' : World) : Prop := ∃ r : Int, e = .returned (.int .i64 r) ∧ Below w.heap.size w w' ∧ ((0 ≤ r ∧ r = L - T) ∨ (r = -1 ∧ L < T))
/-- Where the count stands. -/
def LeftAt (L T s z : Int) : Prop := (0 ≤ z ∧ z = L - 1 - s) ∨ (z = -1 ∧ L < T)

end Go.Proofs.Ytegigjnlecpplaa
