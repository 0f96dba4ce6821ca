/- The contract of the model's EqualExpr. No condition but that both expressions lie in memory. -/
import Derived.Test.YtliifdiajcahdaaSpecSizes
import Derived.Test.YtliifdiajcahdaaSpecNames
import Derived.Test.YtliifdiajcahdaaExSz
import Derived.Deep.QuietTactic
import Derived.BigQuiet
import Derived.Deep.RegionHeld3
namespace Go.Proofs.Ytliifdiajcahdaa
open Go Go.RowKit

mutual
def exEq : Ex → Ex → Bool
  | .mk k s l, .mk k' s' l' => decide (k = k') && (decide (s = s') && exEqs l l')
def exEqs : List Ex → List Ex → Bool
  | [], [] => true
  | e :: r, e' :: r' => exEq e e' && exEqs r r'
  | _, _ => false
end
theorem eqs_len : ∀ (l l' : List Ex), exEqs l l' = true → l.length = l'.length := by
  intro l
  induction l with
  | nil => intro l' h; cases l' with
    | nil => rfl
    | cons e r => simp [exEqs] at h
  | cons e r ih => intro l' h; cases l' with
    | nil => simp [exEqs] at h
    | cons e' r' =>
      rw [exEqs, Bool.and_eq_true] at h
      rw [List.length_cons, List.length_cons, ih r' h.2]
theorem eqs_at : ∀ (l l' : List Ex) (k : Nat) (e e' : Ex), l[k]? = some e → l'[k]? = some e' → exEq e e' = false → exEqs l l' = false := by
  intro l
  induction l with
  | nil => intro l' k e e' h _ _; simp at h
  | cons x r ih => intro l' k e e' h h' he; cases l' with
    | nil => simp at h'
    | cons x' r' =>
      rw [exEqs]
      cases k with
      | zero =>
        simp at h h'
        subst h; subst h'
        rw [he, Bool.false_and]
      | succ k => rw [ih r' k e e' (by simpa using h) (by simpa using h') he, Bool.and_false]
theorem eqs_drop (l l' : List Ex) (k : Nat) (e e' : Ex) (h : l[k]? = some e) (h' : l'[k]? = some e') (he : exEq e e' = true) : exEqs (l.drop k) (l'.drop k) = exEqs (l.drop (k + 1)) (l'.drop (k + 1)) := by
  have hk : k < l.length := (List.getElem?_eq_some_iff.1 h).1
  have hk' : k < l'.length := (List.getElem?_eq_some_iff.1 h').1
  rw [List.drop_eq_getElem_cons hk, List.drop_eq_getElem_cons hk', (List.getElem?_eq_some_iff.1 h).2, (List.getElem?_eq_some_iff.1 h').2, exEqs, he, Bool.true_and]
theorem exEq_parts (a b : Ex) : exEq a b = (decide (a.kind = b.kind) && (decide (a.name = b.name) && exEqs a.args b.args)) := by cases a; cases b; rfl

/-- Eight cells that stay. -/
theorem keep8_start {wr : World} {a b c d e f g h : Addr} {x1 x2 x3 x4 x5 x6 x7 x8 : Value} (H : wr.cell? a = some x1 ∧ wr.cell? b = some x2 ∧ wr.cell? c = some x3 ∧ wr.cell? d = some x4 ∧ wr.cell? e = some x5 ∧ wr.cell? f = some x6 ∧ wr.cell? g = some x7 ∧ wr.cell? h = some x8) :
    wr.drew.cell? a = some x1 ∧ wr.drew.cell? b = some x2 ∧ wr.drew.cell? c = some x3 ∧ wr.drew.cell? d = some x4 ∧ wr.drew.cell? e = some x5 ∧ wr.drew.cell? f = some x6 ∧ wr.drew.cell? g = some x7 ∧ wr.drew.cell? h = some x8 ∧ Hid (Below wr.heap.size wr wr.drew) :=
  ⟨H.1, H.2.1, H.2.2.1, H.2.2.2.1, H.2.2.2.2.1, H.2.2.2.2.2.1, H.2.2.2.2.2.2.1, H.2.2.2.2.2.2.2, Lib.hid (Below.refl _ _).drew⟩
theorem keep8_step {wr X w2 : World} {a b c d e f g h : Addr} {x1 x2 x3 x4 x5 x6 x7 x8 : Value} (H : Hid (wr.cell? a = some x1 ∧ wr.cell? b = some x2 ∧ wr.cell? c = some x3 ∧ wr.cell? d = some x4 ∧ wr.cell? e = some x5 ∧ wr.cell? f = some x6 ∧ wr.cell? g = some x7 ∧ wr.cell? h = some x8)) (hb : Below X.heap.size X w2)
    (hX : X.cell? a = some x1 ∧ X.cell? b = some x2 ∧ X.cell? c = some x3 ∧ X.cell? d = some x4 ∧ X.cell? e = some x5 ∧ X.cell? f = some x6 ∧ X.cell? g = some x7 ∧ X.cell? h = some x8 ∧ Hid (Below wr.heap.size wr X)) :
    w2.cell? a = some x1 ∧ w2.cell? b = some x2 ∧ w2.cell? c = some x3 ∧ w2.cell? d = some x4 ∧ w2.cell? e = some x5 ∧ w2.cell? f = some x6 ∧ w2.cell? g = some x7 ∧ w2.cell? h = some x8 ∧ Hid (Below wr.heap.size wr w2) := by
  have HB := hX.2.2.2.2.2.2.2.2
  have hw := HB.out.trans (hb.mono HB.out.size)
  have k : ∀ {p : Addr} {x : Value}, wr.cell? p = some x → w2.cell? p = some x := fun {p x} hp => (hw.cell (p := p) (World.block_lt_of_cell? wr _ hp)).trans hp
  obtain ⟨h1, h2, h3, h4, h5, h6, h7, h8⟩ := H.out
  exact ⟨k h1, k h2, k h3, k h4, k h5, k h6, k h7, k h8, Lib.hid hw⟩

end Go.Proofs.Ytliifdiajcahdaa
