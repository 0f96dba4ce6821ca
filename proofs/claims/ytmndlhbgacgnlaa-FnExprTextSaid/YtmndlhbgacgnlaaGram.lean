/- The grammar of expressions as a function on bytes. No condition. -/
import Derived.Test.YtmndlhbgacgnlaaSpecWord
import Derived.Test.YtmndlhbgacgnlaaSpecText
import Derived.Test.YtmndlhbgacgnlaaKids
namespace Go.Proofs.Ytmndlhbgacgnlaa
open Go Go.RowKit

def hd (l : List UInt8) (c : UInt8) : Bool := l.head? == some c
def rest (s : ByteArray) (a : Nat) : List UInt8 := s.data.toList.drop a
theorem isAt_hd (s : ByteArray) (a : Nat) (c : UInt8) : isAt s a c = hd (rest s a) c := by
  unfold isAt hd rest
  rw [List.head?_drop]
theorem rest_drop (s : ByteArray) (a k : Nat) : (rest s a).drop k = rest s (a + k) := by unfold rest; rw [List.drop_drop]
theorem rest_len (s : ByteArray) (a : Nat) : (rest s a).length = s.size - a := by unfold rest; rw [List.length_drop, sizeN]

/-- The kind of an expression that is named by the word w; p: it has parentheses. -/
def kindW (p : Bool) (w : List UInt8) : Int := if nameL 97 122 w then (if p then 3 else 1) else 2
def pList (pN : List UInt8 → Option (Ex × List UInt8)) : Nat → List UInt8 → Option (List Ex × List UInt8)
  | 0, _ => none
  | n + 1, l => match pN l with
    | none => none
    | some (e, r) => if hd r 44 then (pList pN n (r.drop 1)).map (fun x => (e :: x.1, x.2)) else if hd r 41 then some ([e], r.drop 1) else none
def pArgs (pN : List UInt8 → Option (Ex × List UInt8)) (l : List UInt8) : Option (List Ex × List UInt8) := if hd l 41 then some ([], l.drop 1) else pList pN (l.length + 1) l
/-- An expression of depth at most f that the bytes l begin with, and what follows it. -/
def pNode : Nat → List UInt8 → Option (Ex × List UInt8)
  | 0, _ => none
  | f + 1, l =>
    if hd l 33 then some (.mk 4 ⟨#[]⟩ [], l.drop 1)
    else if hd (l.drop (wordL l).length) 40 then
      match pArgs (pNode f) ((l.drop (wordL l).length).drop 1) with
      | none => none
      | some (xs, r) => if wordL l = [] then none else some (.mk (kindW true (wordL l)) ⟨(wordL l).toArray⟩ xs, r)
    else if wordL l = [] then none else some (.mk (kindW false (wordL l)) ⟨(wordL l).toArray⟩ [], l.drop (wordL l).length)

/-- What is read so far of a list, and what is to come. -/
def Pin (pN : List UInt8 → Option (Ex × List UInt8)) (N : Nat) (l0 : List UInt8) (out : List Ex) (n : Nat) (l : List UInt8) : Prop :=
  pList pN N l0 = (pList pN n l).map (fun x => (out ++ x.1, x.2))
section
variable {pN : List UInt8 → Option (Ex × List UInt8)} {N n : Nat} {l0 l r : List UInt8} {out : List Ex} {e : Ex}
theorem Pin.start : Pin pN N l0 [] N l0 := by
  unfold Pin
  simp
theorem Pin.none_ (h : Pin pN N l0 out n l) (h1 : pN l = none) : pList pN N l0 = none := by
  unfold Pin at h
  rw [h]
  cases n with
  | zero => rfl
  | succ n => rw [pList, h1]; rfl
theorem Pin.comma (h : Pin pN N l0 out (n + 1) l) (h1 : pN l = some (e, r)) (h2 : hd r 44 = true) : Pin pN N l0 (out ++ [e]) n (r.drop 1) := by
  unfold Pin at h ⊢
  rw [h, pList, h1]
  simp only [h2, if_true, Option.map_map]
  congr 1
  funext x
  simp
theorem Pin.paren (h : Pin pN N l0 out (n + 1) l) (h1 : pN l = some (e, r)) (h2 : hd r 44 = false) (h3 : hd r 41 = true) : pList pN N l0 = some (out ++ [e], r.drop 1) := by
  unfold Pin at h
  rw [h, pList, h1]
  simp [h2, h3]
theorem Pin.stop (h : Pin pN N l0 out (n + 1) l) (h1 : pN l = some (e, r)) (h2 : hd r 44 = false) (h3 : hd r 41 = false) : pList pN N l0 = none := by
  unfold Pin at h
  rw [h, pList, h1]
  simp [h2, h3]
end
/-- What a reading has given: the expression x and the place a, or an error b. -/
def Got {α : Type} (o : Option (α × List UInt8)) (x : α) (s : ByteArray) (a : Nat) (b : Bool) : Prop := o = if b then none else some (x, rest s a)

def NodePost (f R : Nat) (s : ByteArray) (a : Nat) (w : World) (r : Ending) (w2 : World) : Prop :=
  ∃ v e bs a2 b2, r = .returned v ∧ ExIs w2 v e bs ∧ Mine w2 w.heap.size bs ∧ Fr [R] w w2 ∧ Rd w2 R s a2 b2 ∧ a ≤ a2 ∧ a2 ≤ s.size ∧ exTot e ≤ a2 - a ∧ Got (pNode f (rest s a)) e s a2 b2
def ArgsPost (f R : Nat) (s : ByteArray) (a : Nat) (w : World) (r : Ending) (w2 : World) : Prop :=
  ∃ v l bs a2 b2, r = .returned v ∧ SlIs w2 v l bs ∧ Mine w2 w.heap.size bs ∧ Fr [R] w w2 ∧ Rd w2 R s a2 b2 ∧ a ≤ a2 ∧ a2 ≤ s.size ∧ exTots l ≤ a2 - a + 1 ∧ Got (pArgs (pNode f) (rest s a)) l s a2 b2
end Go.Proofs.Ytmndlhbgacgnlaa
