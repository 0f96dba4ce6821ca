/- The contracts of the model's SizeOf, DepthOf, CallsOf. Condition: fewer than 2^40 nodes. -/
import Derived.Test.YtegigjnlecpplaaEx
import Derived.WalkSpells
import Derived.WalkLawsBesides
namespace Go.Proofs.Ytegigjnlecpplaa
open Go Go.RowKit

theorem sizes_snoc (l : List Ex) (k : Nat) (e : Ex) (h : l[k]? = some e) : exSizes (l.take (k + 1)) = exSizes (l.take k) + exSize e := by
  have hs : ∀ (a b : List Ex), exSizes (a ++ b) = exSizes a + exSizes b := by
    intro a
    induction a with
    | nil => intro b; simp [exSizes]
    | cons x r ih => intro b; rw [List.cons_append, exSizes, exSizes, ih]; omega
  have hk : k < l.length := (List.getElem?_eq_some_iff.1 h).1
  have he : l[k] = e := (List.getElem?_eq_some_iff.1 h).2
  rw [List.take_succ_eq_append_getElem hk, he, hs]
  simp [exSizes]

theorem sizes_take : ∀ (l : List Ex) (k : Nat), exSizes (l.take k) ≤ exSizes l := by
  intro l
  induction l with
  | nil => intro k; simp [exSizes]
  | cons x r ih =>
    intro k
    cases k with
    | zero => simp [exSizes]
    | succ k => rw [List.take_succ_cons, exSizes, exSizes]; have := ih k; omega

def SizePost (r : Int) (w : World) (e : Ending) (w' : World) : Prop := e = .returned (.int .i64 r) ∧ Below w.heap.size w w'

mutual
/-- The depth. -/
def exDepth : Ex → Nat
  | .mk _ _ l => exDeep l + 1
def exDeep : List Ex → Nat
  | [] => 0
  | e :: r => max (exDepth e) (exDeep r)
end
mutual
/-- How many calls. -/
def exCalls : Ex → Nat
  | .mk k _ l => (if k = 3 then 1 else 0) + exCallsL l
def exCallsL : List Ex → Nat
  | [] => 0
  | e :: r => exCalls e + exCallsL r
end
theorem depth_size (n : Nat) : (∀ e : Ex, exSize e ≤ n → exDepth e ≤ exSize e ∧ exCalls e ≤ exSize e) ∧ (∀ l : List Ex, exSizes l ≤ n → exDeep l ≤ exSizes l ∧ exCallsL l ≤ exSizes l) := by
  induction n with
  | zero =>
    refine ⟨fun e h => by have := exSize_pos e; omega, fun l h => ?_⟩
    cases l with
    | nil => simp [exDeep, exCallsL]
    | cons e r => rw [exSizes] at h; have := exSize_pos e; omega
  | succ n ih =>
    have hE : ∀ e : Ex, exSize e ≤ n + 1 → exDepth e ≤ exSize e ∧ exCalls e ≤ exSize e := by
      intro e h
      cases e with
      | mk k s l =>
        rw [exSize] at h ⊢
        rw [exDepth, exCalls]
        have := ih.2 l (by omega)
        split <;> omega
    refine ⟨hE, ?_⟩
    intro l
    induction l with
    | nil => intro _; simp [exDeep, exCallsL]
    | cons e r ihl =>
      intro h
      rw [exSizes] at h ⊢
      rw [exDeep, exCallsL]
      have h1 := hE e (by omega)
      have h2 := ihl (by omega)
      omega
theorem deep_app : ∀ (a b : List Ex), exDeep (a ++ b) = max (exDeep a) (exDeep b) := by
  intro a
  induction a with
  | nil => intro b; simp [exDeep]
  | cons x r ih => intro b; rw [List.cons_append, exDeep, exDeep, ih]; omega
theorem calls_app : ∀ (a b : List Ex), exCallsL (a ++ b) = exCallsL a + exCallsL b := by
  intro a
  induction a with
  | nil => intro b; simp [exCallsL]
  | cons x r ih => intro b; rw [List.cons_append, exCallsL, exCallsL, ih]; omega
theorem take_ex (l : List Ex) (k : Nat) (e : Ex) (h : l[k]? = some e) : l.take (k + 1) = l.take k ++ [e] := by
  have hk : k < l.length := (List.getElem?_eq_some_iff.1 h).1
  rw [List.take_succ_eq_append_getElem hk, (List.getElem?_eq_some_iff.1 h).2]
theorem deep_snoc (l : List Ex) (k : Nat) (e : Ex) (h : l[k]? = some e) : exDeep (l.take (k + 1)) = max (exDeep (l.take k)) (exDepth e) := by
  rw [take_ex l k e h, deep_app]; simp [exDeep]
theorem calls_snoc (l : List Ex) (k : Nat) (e : Ex) (h : l[k]? = some e) : exCallsL (l.take (k + 1)) = exCallsL (l.take k) + exCalls e := by
  rw [take_ex l k e h, calls_app]; simp [exCallsL]
theorem depth_le (e : Ex) : exDepth e ≤ exSize e := ((depth_size _).1 e (Nat.le_refl _)).1
theorem calls_le (e : Ex) : exCalls e ≤ exSize e := ((depth_size _).1 e (Nat.le_refl _)).2

def BitPost (b : Bool) (w : World) (e : Ending) (w' : World) : Prop := ∃ z : Int, e = .returned (.int .i64 z) ∧ w = w' ∧ 0 ≤ z ∧ z ≤ 1 ∧ z = if b then 1 else 0
end Go.Proofs.Ytegigjnlecpplaa
