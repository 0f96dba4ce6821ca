/- Expressions as plain data, and what it says that an expression lies in memory. No condition. -/
import Derived.Test.YtegigjnlecpplaaRows
import Derived.WalkKit
import Derived.Lib.Hide
namespace Go.Proofs.Ytegigjnlecpplaa
open Go Go.RowKit

/-- An expression: kind, name, arguments. -/
inductive Ex where
  | mk (kind : Int) (name : ByteArray) (args : List Ex)

namespace Ex
def kind : Ex → Int
  | .mk k _ _ => k
def name : Ex → ByteArray
  | .mk _ s _ => s
def args : Ex → List Ex
  | .mk _ _ l => l
end Ex

mutual
/-- How many nodes. -/
def exSize : Ex → Nat
  | .mk _ _ l => exSizes l + 1
def exSizes : List Ex → Nat
  | [] => 0
  | e :: r => exSize e + exSizes r
end

theorem exSize_pos (e : Ex) : 1 ≤ exSize e := by cases e; simp [exSize]
theorem exSizes_mem : ∀ {l : List Ex} {e : Ex}, e ∈ l → exSize e ≤ exSizes l := by
  intro l
  induction l with
  | nil => intro e h; cases h
  | cons x r ih =>
    intro e h
    rw [exSizes]
    rcases List.mem_cons.1 h with rfl | h
    · omega
    · have := ih h; omega
theorem sizes_len : ∀ l : List Ex, l.length ≤ exSizes l := by
  intro l
  induction l with
  | nil => simp
  | cons e r ih => rw [exSizes, List.length_cons]; have := exSize_pos e; omega
theorem exSize_args {e x : Ex} (h : x ∈ e.args) : exSize x < exSize e := by
  cases e with
  | mk k s l =>
    have := exSizes_mem (l := l) h
    rw [exSize]; omega

mutual
/-- The cells of the elements of a slice, from an index on; bs: the blocks of the slices below. -/
def ExsAt (w : World) (g o : Nat) : Nat → List Ex → List Nat → Prop
  | _, [], bs => bs = []
  | i, e :: r, bs => ∃ b1 b2, bs = b1 ++ b2 ∧ ExAt w g (o + i * 3) e b1 ∧ ExsAt w g o (i + 1) r b2
/-- The three cells of an expression. -/
def ExAt (w : World) (g o : Nat) : Ex → List Nat → Prop
  | .mk k s l, bs => w.cell? ⟨g, o, none⟩ = some (.int .i64 k) ∧ w.cell? ⟨g, o + 1, none⟩ = some (.string s) ∧ s.size ≤ 9223372036854775807 ∧ ∃ A c, w.cell? ⟨g, o + 2, none⟩ = some (.slice A l.length c) ∧ l.length ≤ c ∧ c ≤ 9223372036854775807 ∧
      ((l = [] ∧ bs = []) ∨ ∃ g' o' bs', A = some ⟨g', o', none⟩ ∧ g' < w.heap.size ∧ bs = g' :: bs' ∧ ExsAt w g' o' 0 l bs')
end
/-- A slice value that reads as the expressions l. -/
def SlIs (w : World) (v : Value) (l : List Ex) (bs : List Nat) : Prop :=
  ∃ A c, v = .slice A l.length c ∧ l.length ≤ c ∧ c ≤ 9223372036854775807 ∧ ((l = [] ∧ bs = []) ∨ ∃ g' o' bs', A = some ⟨g', o', none⟩ ∧ g' < w.heap.size ∧ bs = g' :: bs' ∧ ExsAt w g' o' 0 l bs')
/-- A struct value that reads as the expression e. -/
def ExIs (w : World) (v : Value) (e : Ex) (bs : List Nat) : Prop :=
  ∃ u, v = .agg #[.int .i64 e.kind, .string e.name, u] ∧ e.name.size ≤ 9223372036854775807 ∧ SlIs w u e.args bs
theorem ExAt.is {w : World} {g o : Nat} {e : Ex} {bs : List Nat} (h : ExAt w g o e bs) :
    ∃ u, w.cell? ⟨g, o, none⟩ = some (.int .i64 e.kind) ∧ w.cell? ⟨g, o + 1, none⟩ = some (.string e.name) ∧ w.cell? ⟨g, o + 2, none⟩ = some u ∧ ExIs w (.agg #[.int .i64 e.kind, .string e.name, u]) e bs := by
  cases e with
  | mk k s l =>
    rw [ExAt] at h
    obtain ⟨h1, h2, h3, A, c, h4, h5⟩ := h
    exact ⟨_, h1, h2, h4, _, rfl, h3, A, c, rfl, h5⟩
theorem ExAt.mk {w : World} {g o : Nat} {e : Ex} {bs : List Nat} {u : Value} (h1 : w.cell? ⟨g, o, none⟩ = some (.int .i64 e.kind)) (h2 : w.cell? ⟨g, o + 1, none⟩ = some (.string e.name)) (h3 : w.cell? ⟨g, o + 2, none⟩ = some u) (h : ExIs w (.agg #[.int .i64 e.kind, .string e.name, u]) e bs) : ExAt w g o e bs := by
  cases e with
  | mk k s l =>
    obtain ⟨u', e1, hs, A, c, e2, h5⟩ := h
    simp only [Value.agg.injEq, Array.mk.injEq, List.cons.injEq, and_true, true_and] at e1
    subst e1; subst e2
    rw [ExAt]
    exact ⟨h1, h2, hs, A, c, h3, h5⟩
/-- Element i of a slice. -/
theorem ExsAt.get {w : World} {g o : Nat} : ∀ (l : List Ex) (j : Nat) (bs : List Nat), ExsAt w g o j l bs → ∀ i e, l[i]? = some e → ∃ b1, ExAt w g (o + (j + i) * 3) e b1 ∧ ∀ x ∈ b1, x ∈ bs := by
  intro l
  induction l with
  | nil => intro j bs _ i e h; simp at h
  | cons x r ih =>
    intro j bs h i e he
    rw [ExsAt] at h
    obtain ⟨b1, b2, rfl, h1, h2⟩ := h
    cases i with
    | zero =>
      simp at he
      subst he
      exact ⟨b1, h1, fun y hy => List.mem_append_left _ hy⟩
    | succ i =>
      obtain ⟨b3, h3, h4⟩ := ih (j + 1) b2 h2 i e (by simpa using he)
      exact ⟨b3, by rw [show j + (i + 1) = j + 1 + i by omega]; exact h3, fun y hy => List.mem_append_right _ (h4 y hy)⟩

/-- Nothing has turned in the blocks of bs. -/
def Keeps (w w' : World) (bs : List Nat) : Prop := w.heap.size ≤ w'.heap.size ∧ ∀ x ∈ bs, x < w.heap.size → w'.heap[x]? = w.heap[x]?

theorem ex_keeps (n : Nat) : (∀ (e : Ex), exSize e ≤ n → ∀ (w w' : World) (g o : Nat) (bs : List Nat), ExAt w g o e bs → g < w.heap.size → Keeps w w' (g :: bs) → ExAt w' g o e bs) ∧
    (∀ (l : List Ex), exSizes l ≤ n → ∀ (w w' : World) (g o : Nat) (j : Nat) (bs : List Nat), ExsAt w g o j l bs → g < w.heap.size → Keeps w w' (g :: bs) → ExsAt w' g o j l bs) := by
  induction n with
  | zero =>
    refine ⟨fun e h => by have := exSize_pos e; omega, fun l h => ?_⟩
    cases l with
    | nil => intro w w' g o j bs h1 _ _; rw [ExsAt] at h1 ⊢; exact h1
    | cons e r => rw [exSizes] at h; have := exSize_pos e; omega
  | succ n ih =>
    have hE : ∀ (e : Ex), exSize e ≤ n + 1 → ∀ (w w' : World) (g o : Nat) (bs : List Nat), ExAt w g o e bs → g < w.heap.size → Keeps w w' (g :: bs) → ExAt w' g o e bs := by
      intro e he w w' g o bs h hlt hk
      cases e with
      | mk k s l =>
        rw [exSize] at he
        rw [ExAt] at h ⊢
        have hb : ∀ m, w'.cell? ⟨g, m, none⟩ = w.cell? ⟨g, m, none⟩ := fun m => World.cell?_of_block (w := w) (hk.2 _ (by simp) hlt)
        obtain ⟨h1, h2, h3, A, c, h4, h5, h6, h7⟩ := h
        refine ⟨(hb _).trans h1, (hb _).trans h2, h3, A, c, (hb _).trans h4, h5, h6, ?_⟩
        rcases h7 with h7 | ⟨g', o', bs', rfl, hbl, rfl, h8⟩
        · exact Or.inl h7
        · exact Or.inr ⟨g', o', bs', rfl, Nat.lt_of_lt_of_le hbl hk.1, rfl, ih.2 l (by omega) w w' g' o' 0 bs' h8 hbl ⟨hk.1, fun x hx => hk.2 x (by simp [hx])⟩⟩
    refine ⟨hE, ?_⟩
    intro l
    induction l with
    | nil => intro _ w w' g o j bs h _ _; rw [ExsAt] at h ⊢; exact h
    | cons e r ihl =>
      intro hl w w' g o j bs h hlt hk
      rw [exSizes] at hl
      have hp := exSize_pos e
      rw [ExsAt] at h ⊢
      obtain ⟨b1, b2, rfl, h1, h2⟩ := h
      refine ⟨b1, b2, rfl, hE e (by omega) w w' g _ b1 h1 hlt ⟨hk.1, fun x hx => hk.2 x ?_⟩, ihl (by omega) w w' g o (j + 1) b2 h2 hlt ⟨hk.1, fun x hx => hk.2 x ?_⟩⟩
      · simp only [List.mem_cons, List.mem_append] at hx ⊢
        rcases hx with h | h
        · exact Or.inl h
        · exact Or.inr (Or.inl h)
      · simp only [List.mem_cons, List.mem_append] at hx ⊢
        rcases hx with h | h
        · exact Or.inl h
        · exact Or.inr (Or.inr h)
theorem SlIs.keeps {w w' : World} {v : Value} {l : List Ex} {bs : List Nat} (h : SlIs w v l bs) (hk : Keeps w w' bs) : SlIs w' v l bs := by
  obtain ⟨A, c, e, h1, h2, h3⟩ := h
  refine ⟨A, c, e, h1, h2, ?_⟩
  rcases h3 with h3 | ⟨g, o, bs', rfl, hb, rfl, h4⟩
  · exact Or.inl h3
  · exact Or.inr ⟨g, o, bs', rfl, Nat.lt_of_lt_of_le hb hk.1, rfl, (ex_keeps _).2 l (Nat.le_refl _) w w' g o 0 bs' h4 hb hk⟩
theorem ExIs.keeps {w w' : World} {v : Value} {e : Ex} {bs : List Nat} (h : ExIs w v e bs) (hk : Keeps w w' bs) : ExIs w' v e bs := by
  obtain ⟨u, e1, h1, h2⟩ := h
  exact ⟨u, e1, h1, h2.keeps hk⟩
theorem keeps_below {w w' : World} (h : Below w.heap.size w w') (bs : List Nat) : Keeps w w' bs := ⟨h.size, fun x _ hx => h.block x hx⟩
theorem ExIs.below {w w' : World} {v : Value} {e : Ex} {bs : List Nat} (h : ExIs w v e bs) (hb : Below w.heap.size w w') : ExIs w' v e bs := h.keeps (keeps_below hb bs)
theorem SlIs.below {w w' : World} {v : Value} {l : List Ex} {bs : List Nat} (h : SlIs w v l bs) (hb : Below w.heap.size w w') : SlIs w' v l bs := h.keeps (keeps_below hb bs)
/-- Element k of a slice that reads as l. -/
theorem SlIs.get {w : World} {A : Option Addr} {n c : Nat} {l : List Ex} {bs : List Nat} (h : SlIs w (.slice A n c) l bs) (k : Nat) (hk : k < l.length) :
    ∃ g o e u b1, A = some ⟨g, o, none⟩ ∧ g < w.heap.size ∧ l[k]? = some e ∧ e ∈ l ∧ w.cell? ⟨g, o + k * 3, none⟩ = some (.int .i64 e.kind) ∧ w.cell? ⟨g, o + k * 3 + 1, none⟩ = some (.string e.name) ∧ w.cell? ⟨g, o + k * 3 + 2, none⟩ = some u ∧ ExIs w (.agg #[.int .i64 e.kind, .string e.name, u]) e b1 ∧ ∀ x ∈ b1, x ∈ bs := by
  obtain ⟨A', c', e1, h1, h2, h3⟩ := h
  cases e1
  rcases h3 with ⟨rfl, -⟩ | ⟨g, o, bs', rfl, hb, rfl, h4⟩
  · simp at hk
  · have he := List.getElem?_eq_getElem hk
    obtain ⟨b1, h5, h6⟩ := ExsAt.get l 0 bs' h4 k _ he
    rw [Nat.zero_add] at h5
    obtain ⟨u, c1, c2, c3, h7⟩ := h5.is
    exact ⟨g, o, _, u, b1, rfl, hb, he, List.getElem_mem hk, c1, c2, c3, h7, fun x hx => List.mem_cons_of_mem _ (h6 x hx)⟩
theorem SlIs.len {w : World} {A : Option Addr} {n c : Nat} {l : List Ex} {bs : List Nat} (h : SlIs w (.slice A n c) l bs) : n = l.length ∧ n ≤ c ∧ c ≤ 9223372036854775807 := by
  obtain ⟨A', c', e1, h1, h2, h3⟩ := h
  cases e1
  exact ⟨rfl, h1, h2⟩
end Go.Proofs.Ytegigjnlecpplaa
