/- Bindings as plain data, and what it says that they lie in memory. No condition. -/
import Derived.Test.YtegigjnlecpplaaExCopy
import Derived.Test.YtegigjnlecpplaaStrs
namespace Go.Proofs.Ytegigjnlecpplaa
open Go Go.RowKit

/-- A binding. -/
structure Bi where
  name : ByteArray
  val : Ex
/-- A struct value that reads as the binding b. -/
def BiIs (w : World) (v : Value) (r : Bi) (bs : List Nat) : Prop :=
  ∃ u, v = .agg #[.string r.name, .int .i64 r.val.kind, .string r.val.name, u] ∧ r.name.size ≤ 9223372036854775807 ∧ ExIs w (.agg #[.int .i64 r.val.kind, .string r.val.name, u]) r.val bs
theorem BiIs.keeps {w w' : World} {v : Value} {r : Bi} {bs : List Nat} (h : BiIs w v r bs) (hk : Keeps w w' bs) : BiIs w' v r bs := by
  obtain ⟨u, e, h1, h2⟩ := h
  exact ⟨u, e, h1, h2.keeps hk⟩
theorem BiIs.below {w w' : World} {v : Value} {r : Bi} {bs : List Nat} (h : BiIs w v r bs) (hb : Below w.heap.size w w') : BiIs w' v r bs := h.keeps (keeps_below hb bs)

/-- The four cells of a binding. -/
structure Cells4 (w : World) (g o : Nat) (x0 x1 x2 x3 : Value) : Prop where
  c0 : w.cell? ⟨g, o, none⟩ = some x0
  c1 : w.cell? ⟨g, o + 1, none⟩ = some x1
  c2 : w.cell? ⟨g, o + 2, none⟩ = some x2
  c3 : w.cell? ⟨g, o + 3, none⟩ = some x3
theorem Cells4.of {w w' : World} {g o : Nat} {x0 x1 x2 x3 : Value} (h : Cells4 w g o x0 x1 x2 x3) (hc : ∀ m, o ≤ m → m < o + 4 → w'.cell? ⟨g, m, none⟩ = w.cell? ⟨g, m, none⟩) : Cells4 w' g o x0 x1 x2 x3 :=
  ⟨(hc _ (by omega) (by omega)).trans h.c0, (hc _ (by omega) (by omega)).trans h.c1, (hc _ (by omega) (by omega)).trans h.c2, (hc _ (by omega) (by omega)).trans h.c3⟩
/-- A binding that lies in the cells from o on. -/
def BiAt (w : World) (g o : Nat) (r : Bi) (bs : List Nat) : Prop :=
  ∃ u, Cells4 w g o (.string r.name) (.int .i64 r.val.kind) (.string r.val.name) u ∧ BiIs w (.agg #[.string r.name, .int .i64 r.val.kind, .string r.val.name, u]) r bs
theorem BiAt.same {w w' : World} {g o : Nat} {r : Bi} {bs : List Nat} (h : BiAt w g o r bs) (hc : ∀ m, o ≤ m → m < o + 4 → w'.cell? ⟨g, m, none⟩ = w.cell? ⟨g, m, none⟩) (hk : Keeps w w' bs) : BiAt w' g o r bs := by
  obtain ⟨u, h1, h2⟩ := h
  exact ⟨u, h1.of hc, h2.keeps hk⟩
/-- The bindings of a slice, from an index on. -/
def BisAt (w : World) (g o : Nat) : Nat → List Bi → List Nat → Prop
  | _, [], bs => bs = []
  | i, r :: l, bs => ∃ b1 b2, bs = b1 ++ b2 ∧ BiAt w g (o + i * 4) r b1 ∧ BisAt w g o (i + 1) l b2
theorem BisAt.same {w w' : World} {g o : Nat} : ∀ (l : List Bi) (j : Nat) (bs : List Nat), BisAt w g o j l bs → (∀ m, m < o + (j + l.length) * 4 → w'.cell? ⟨g, m, none⟩ = w.cell? ⟨g, m, none⟩) → Keeps w w' bs → BisAt w' g o j l bs := by
  intro l
  induction l with
  | nil => intro j bs h _ _; exact h
  | cons e r ih =>
    intro j bs h hc hk
    obtain ⟨b1, b2, rfl, h1, h2⟩ := h
    simp only [List.length_cons] at hc
    exact ⟨b1, b2, rfl, h1.same (fun m hm1 hm2 => hc m (by omega)) ⟨hk.1, fun x hx => hk.2 x (List.mem_append_left _ hx)⟩,
      ih (j + 1) b2 h2 (fun m hm => hc m (by omega)) ⟨hk.1, fun x hx => hk.2 x (List.mem_append_right _ hx)⟩⟩
theorem BisAt.keeps {w w' : World} {g o : Nat} {l : List Bi} {j : Nat} {bs : List Nat} (h : BisAt w g o j l bs) (hg : g < w.heap.size) (hk : Keeps w w' (g :: bs)) : BisAt w' g o j l bs :=
  h.same l j bs (fun m _ => World.cell?_of_block (w := w) (a := ⟨g, m, none⟩) (hk.2 g (by simp) hg)) ⟨hk.1, fun x hx => hk.2 x (by simp [hx])⟩
theorem BisAt.snoc {w : World} {g o : Nat} {e : Bi} {b1 : List Nat} : ∀ (l : List Bi) (j : Nat) (bs : List Nat), BisAt w g o j l bs → BiAt w g (o + (j + l.length) * 4) e b1 → BisAt w g o j (l ++ [e]) (bs ++ b1) := by
  intro l
  induction l with
  | nil =>
    intro j bs h h1
    obtain rfl : bs = [] := h
    exact ⟨b1, [], by simp, by simpa using h1, rfl⟩
  | cons x r ih =>
    intro j bs h h1
    obtain ⟨b2, b3, rfl, h2, h3⟩ := h
    exact ⟨b2, b3 ++ b1, by rw [List.append_assoc], h2, ih (j + 1) b3 h3 (by rw [show j + 1 + r.length = j + (x :: r).length by simp; omega]; exact h1)⟩
theorem BisAt.get {w : World} {g o : Nat} : ∀ (l : List Bi) (j : Nat) (bs : List Nat), BisAt w g o j l bs → ∀ i e, l[i]? = some e → ∃ b1, BiAt w g (o + (j + i) * 4) e b1 ∧ ∀ x ∈ b1, x ∈ bs := by
  intro l
  induction l with
  | nil => intro j bs _ i e h; simp at h
  | cons x r ih =>
    intro j bs h i e he
    obtain ⟨b1, b2, rfl, h1, h2⟩ := h
    cases i with
    | zero =>
      simp at he
      subst he
      exact ⟨b1, h1, fun y hy => List.mem_append_left _ hy⟩
    | succ i =>
      obtain ⟨b3, h3, h4⟩ := ih (j + 1) b2 h2 i e (by simpa using he)
      exact ⟨b3, by rw [show j + (i + 1) = j + 1 + i by omega]; exact h3, fun y hy => List.mem_append_right _ (h4 y hy)⟩

/-- A slice value that reads as the bindings l. -/
def BlIs (w : World) (v : Value) (l : List Bi) (bs : List Nat) : Prop :=
  ∃ A c, v = .slice A l.length c ∧ l.length ≤ c ∧ c ≤ 9223372036854775807 ∧ ((l = [] ∧ bs = []) ∨ ∃ g' o' bs', A = some ⟨g', o', none⟩ ∧ g' < w.heap.size ∧ bs = g' :: bs' ∧ BisAt w g' o' 0 l bs')
theorem BlIs.keeps {w w' : World} {v : Value} {l : List Bi} {bs : List Nat} (h : BlIs w v l bs) (hk : Keeps w w' bs) : BlIs w' v l bs := by
  obtain ⟨A, c, e, h1, h2, h4⟩ := h
  refine ⟨A, c, e, h1, h2, ?_⟩
  rcases h4 with h4 | ⟨g, o, bs', e1, h5, rfl, h6⟩
  · exact Or.inl h4
  · exact Or.inr ⟨g, o, bs', e1, Nat.lt_of_lt_of_le h5 hk.1, rfl, h6.keeps h5 hk⟩
theorem BlIs.below {w w' : World} {v : Value} {l : List Bi} {bs : List Nat} (h : BlIs w v l bs) (hb : Below w.heap.size w w') : BlIs w' v l bs := h.keeps (keeps_below hb bs)
theorem BlIs.len {w : World} {A : Option Addr} {n c : Nat} {l : List Bi} {bs : List Nat} (h : BlIs w (.slice A n c) l bs) : n = l.length ∧ n ≤ c ∧ c ≤ 9223372036854775807 := by
  obtain ⟨A', c', e, h1, h2, -⟩ := h
  cases e
  exact ⟨rfl, h1, h2⟩
/-- Binding k. -/
structure BindAt (w : World) (A : Option Addr) (l : List Bi) (k : Nat) (g o : Nat) (r : Bi) (u : Value) (b : List Nat) : Prop where
  eq : A = some ⟨g, o, none⟩
  lt : g < w.heap.size
  get : l[k]? = some r
  mem : r ∈ l
  cells : Cells4 w g (o + k * 4) (.string r.name) (.int .i64 r.val.kind) (.string r.val.name) u
  is : BiIs w (.agg #[.string r.name, .int .i64 r.val.kind, .string r.val.name, u]) r b
theorem BlIs.get {w : World} {A : Option Addr} {n c : Nat} {l : List Bi} {bs : List Nat} (h : BlIs w (.slice A n c) l bs) (k : Nat) (hk : k < l.length) : ∃ g o r u b, BindAt w A l k g o r u b := by
  obtain ⟨A', c', e, h1, h2, h4⟩ := h
  cases e
  rcases h4 with ⟨rfl, -⟩ | ⟨g, o, bs', rfl, h5, rfl, h6⟩
  · simp at hk
  · have hg : l[k]? = some l[k] := List.getElem?_eq_getElem hk
    obtain ⟨b1, ⟨u, h7, h8⟩, -⟩ := h6.get l 0 bs' k _ hg
    rw [Nat.zero_add] at h7
    exact ⟨g, o, l[k], u, b1, rfl, h5, hg, List.getElem_mem hk, h7, h8⟩
end Go.Proofs.Ytegigjnlecpplaa
