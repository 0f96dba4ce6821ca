/- Bindings as plain data, and what it says that they lie in memory. No condition. Bindings among the arguments: what they read as. No condition. The contract of the laws' size of an expression. Conditions: an expression that lies in memory, a remainder from 0 to 1048576. The laws' sizes of bindings. No condition. -/
import Derived.Test.YtbnghkgfbjipdaaMa01
import Derived.Test.YtbnghkgfbjipdaaMa02
import Derived.WalkSpells
import Derived.WalkLawsBesides
import Derived.IntWalk
namespace Go.Proofs.Ytbnghkgfbjipdaa
open Go Go.RowKit

/-- A binding. -/
structure Bi where
  name : ByteArray
  val : Ex
/-- A struct value that reads as the binding b. -/
def BiIs (w : World) (v : Value) (r : Bi) (bs : List Nat) : Prop :=
  ∃ u, v = .agg #[.string r.name, .int .i64 r.val.kind, .string r.val.name, u] ∧ r.name.size ≤ 9223372036854775807 ∧ ExIs w (.agg #[.int .i64 r.val.kind, .string r.val.name, u]) r.val bs
theorem BiIs.keeps {w w' : World} {v : Value} {r : Bi} {bs : List Nat} (h : BiIs w v r bs) (hk : Keeps w w' bs) : BiIs w' v r bs := by
  obtain ⟨u, e, h1, h2⟩ := h
  exact ⟨u, e, h1, h2.keeps hk⟩
theorem BiIs.below {w w' : World} {v : Value} {r : Bi} {bs : List Nat} (h : BiIs w v r bs) (hb : Below w.heap.size w w') : BiIs w' v r bs := h.keeps (keeps_below hb bs)

/-- The four cells of a binding. -/
structure Cells4 (w : World) (g o : Nat) (x0 x1 x2 x3 : Value) : Prop where
  c0 : w.cell? ⟨g, o, none⟩ = some x0
  c1 : w.cell? ⟨g, o + 1, none⟩ = some x1
  c2 : w.cell? ⟨g, o + 2, none⟩ = some x2
  c3 : w.cell? ⟨g, o + 3, none⟩ = some x3
theorem Cells4.of {w w' : World} {g o : Nat} {x0 x1 x2 x3 : Value} (h : Cells4 w g o x0 x1 x2 x3) (hc : ∀ m, o ≤ m → m < o + 4 → w'.cell? ⟨g, m, none⟩ = w.cell? ⟨g, m, none⟩) : Cells4 w' g o x0 x1 x2 x3 :=
  ⟨(hc _ (by omega) (by omega)).trans h.c0, (hc _ (by omega) (by omega)).trans h.c1, (hc _ (by omega) (by omega)).trans h.c2, (hc _ (by omega) (by omega)).trans h.c3⟩
/-- A binding that lies in the cells from o on. -/
def BiAt (w : World) (g o : Nat) (r : Bi) (bs : List Nat) : Prop :=
  ∃ u, Cells4 w g o (.string r.name) (.int .i64 r.val.kind) (.string r.val.name) u ∧ BiIs w (.agg #[.string r.name, .int .i64 r.val.kind, .string r.val.name, u]) r bs
theorem BiAt.same {w w' : World} {g o : Nat} {r : Bi} {bs : List Nat} (h : BiAt w g o r bs) (hc : ∀ m, o ≤ m → m < o + 4 → w'.cell? ⟨g, m, none⟩ = w.cell? ⟨g, m, none⟩) (hk : Keeps w w' bs) : BiAt w' g o r bs := by
  obtain ⟨u, h1, h2⟩ := h
  exact ⟨u, h1.of hc, h2.keeps hk⟩
/-- The bindings of a slice, from an index on. -/
def BisAt (w : World) (g o : Nat) : Nat → List Bi → List Nat → Prop
  | _, [], bs => bs = []
  | i, r :: l, bs => ∃ b1 b2, bs = b1 ++ b2 ∧ BiAt w g (o + i * 4) r b1 ∧ BisAt w g o (i + 1) l b2
theorem BisAt.same {w w' : World} {g o : Nat} : ∀ (l : List Bi) (j : Nat) (bs : List Nat), BisAt w g o j l bs → (∀ m, m < o + (j + l.length) * 4 → w'.cell? ⟨g, m, none⟩ = w.cell? ⟨g, m, none⟩) → Keeps w w' bs → BisAt w' g o j l bs := by
  intro l
  induction l with
  | nil => intro j bs h _ _; exact h
  | cons e r ih =>
    intro j bs h hc hk
    obtain ⟨b1, b2, rfl, h1, h2⟩ := h
    simp only [List.length_cons] at hc
    exact ⟨b1, b2, rfl, h1.same (fun m hm1 hm2 => hc m (by omega)) ⟨hk.1, fun x hx => hk.2 x (List.mem_append_left _ hx)⟩,
      ih (j + 1) b2 h2 (fun m hm => hc m (by omega)) ⟨hk.1, fun x hx => hk.2 x (List.mem_append_right _ hx)⟩⟩
theorem BisAt.keeps {w w' : World} {g o : Nat} {l : List Bi} {j : Nat} {bs : List Nat} (h : BisAt w g o j l bs) (hg : g < w.heap.size) (hk : Keeps w w' (g :: bs)) : BisAt w' g o j l bs :=
  h.same l j bs (fun m _ => World.cell?_of_block (w := w) (a := ⟨g, m, none⟩) (hk.2 g (by simp) hg)) ⟨hk.1, fun x hx => hk.2 x (by simp [hx])⟩
theorem BisAt.snoc {w : World} {g o : Nat} {e : Bi} {b1 : List Nat} : ∀ (l : List Bi) (j : Nat) (bs : List Nat), BisAt w g o j l bs → BiAt w g (o + (j + l.length) * 4) e b1 → BisAt w g o j (l ++ [e]) (bs ++ b1) := by
  intro l
  induction l with
  | nil =>
    intro j bs h h1
    obtain rfl : bs = [] := h
    exact ⟨b1, [], by simp, by simpa using h1, rfl⟩
  | cons x r ih =>
    intro j bs h h1
    obtain ⟨b2, b3, rfl, h2, h3⟩ := h
    exact ⟨b2, b3 ++ b1, by rw [List.append_assoc], h2, ih (j + 1) b3 h3 (by rw [show j + 1 + r.length = j + (x :: r).length by simp; omega]; exact h1)⟩
theorem BisAt.get {w : World} {g o : Nat} : ∀ (l : List Bi) (j : Nat) (bs : List Nat), BisAt w g o j l bs → ∀ i e, l[i]? = some e → ∃ b1, BiAt w g (o + (j + i) * 4) e b1 ∧ ∀ x ∈ b1, x ∈ bs := by
  intro l
  induction l with
  | nil => intro j bs _ i e h; simp at h
  | cons x r ih =>
    intro j bs h i e he
    obtain ⟨b1, b2, rfl, h1, h2⟩ := h
    cases i with
    | zero =>
      simp at he
      subst he
      exact ⟨b1, h1, fun y hy => List.mem_append_left _ hy⟩
    | succ i =>
      obtain ⟨b3, h3, h4⟩ := ih (j + 1) b2 h2 i e (by simpa using he)
      exact ⟨b3, by rw [show j + (i + 1) = j + 1 + i by omega]; exact h3, fun y hy => List.mem_append_right _ (h4 y hy)⟩

/-- A slice value that reads as the bindings l. -/
def BlIs (w : World) (v : Value) (l : List Bi) (bs : List Nat) : Prop :=
  ∃ A c, v = .slice A l.length c ∧ l.length ≤ c ∧ c ≤ 9223372036854775807 ∧ ((l = [] ∧ bs = []) ∨ ∃ g' o' bs', A = some ⟨g', o', none⟩ ∧ g' < w.heap.size ∧ bs = g' :: bs' ∧ BisAt w g' o' 0 l bs')
theorem BlIs.keeps {w w' : World} {v : Value} {l : List Bi} {bs : List Nat} (h : BlIs w v l bs) (hk : Keeps w w' bs) : BlIs w' v l bs := by
  obtain ⟨A, c, e, h1, h2, h4⟩ := h
  refine ⟨A, c, e, h1, h2, ?_⟩
  rcases h4 with h4 | ⟨g, o, bs', e1, h5, rfl, h6⟩
  · exact Or.inl h4
  · exact Or.inr ⟨g, o, bs', e1, Nat.lt_of_lt_of_le h5 hk.1, rfl, h6.keeps h5 hk⟩
theorem BlIs.below {w w' : World} {v : Value} {l : List Bi} {bs : List Nat} (h : BlIs w v l bs) (hb : Below w.heap.size w w') : BlIs w' v l bs := h.keeps (keeps_below hb bs)
theorem BlIs.len {w : World} {A : Option Addr} {n c : Nat} {l : List Bi} {bs : List Nat} (h : BlIs w (.slice A n c) l bs) : n = l.length ∧ n ≤ c ∧ c ≤ 9223372036854775807 := by
  obtain ⟨A', c', e, h1, h2, -⟩ := h
  cases e
  exact ⟨rfl, h1, h2⟩
/-- Binding k. -/
structure BindAt (w : World) (A : Option Addr) (l : List Bi) (k : Nat) (g o : Nat) (r : Bi) (u : Value) (b : List Nat) : Prop where
  eq : A = some ⟨g, o, none⟩
  lt : g < w.heap.size
  get : l[k]? = some r
  mem : r ∈ l
  cells : Cells4 w g (o + k * 4) (.string r.name) (.int .i64 r.val.kind) (.string r.val.name) u
  is : BiIs w (.agg #[.string r.name, .int .i64 r.val.kind, .string r.val.name, u]) r b
theorem BlIs.get {w : World} {A : Option Addr} {n c : Nat} {l : List Bi} {bs : List Nat} (h : BlIs w (.slice A n c) l bs) (k : Nat) (hk : k < l.length) : ∃ g o r u b, BindAt w A l k g o r u b := by
  obtain ⟨A', c', e, h1, h2, h4⟩ := h
  cases e
  rcases h4 with ⟨rfl, -⟩ | ⟨g, o, bs', rfl, h5, rfl, h6⟩
  · simp at hk
  · have hg : l[k]? = some l[k] := List.getElem?_eq_getElem hk
    obtain ⟨b1, ⟨u, h7, h8⟩, -⟩ := h6.get l 0 bs' k _ hg
    rw [Nat.zero_add] at h7
    exact ⟨g, o, l[k], u, b1, rfl, h5, hg, List.getElem_mem hk, h7, h8⟩
end Go.Proofs.Ytbnghkgfbjipdaa

namespace Go.Proofs.Ytbnghkgfbjipdaa
open Go Go.ChangeShapes Go.WideShapes Go.ChangeAt Go.RowKit Go.Deep Go.Joins

theorem cellsBL : Try.prog.cellsOf 112 = 4 := by kernel_rfl
theorem len_two {α : Type} {l : List α} (h : l.length = 2) : ∃ a b, l = [a, b] := by
  match l, h with
  | [a, b], _ => exact ⟨a, b, rfl⟩
theorem len_four {α : Type} {l : List α} (h : l.length = 4) : ∃ a b c d, l = [a, b, c, d] := by
  match l, h with
  | [a, b, c, d], _ => exact ⟨a, b, c, d, rfl⟩
theorem bis_of {w : World} {g o : Nat} : ∀ n : Nat, (∀ i, i < n → ∃ r b, BiAt w g (o + i * 4) r b) → ∃ l bs, l.length = n ∧ BisAt w g o 0 l bs := by
  intro n
  induction n with
  | zero => intro _; exact ⟨[], [], rfl, rfl⟩
  | succ n ih =>
    intro h
    obtain ⟨l, bs, hl, hs⟩ := ih (fun i hi => h i (by omega))
    obtain ⟨r, b, hr⟩ := h n (by omega)
    exact ⟨l ++ [r], bs ++ b, by simp [hl], BisAt.snoc l 0 bs hs (by rw [Nat.zero_add, hl]; exact hr)⟩
theorem read_bind {H : Type} {enc : TypeId × Value → H} {w : World} {fuel : Nat} {q0 q1 q2 q3 : Value} {x : DataW H × List MemPlace} (h : DataW.trod enc Try.prog w 0 (fun _ => true) true fuel 112 [q0, q1, q2, q3] = some x) :
    ∃ (r : Bi) (bs : List Nat), q0 = .string r.name ∧ q1 = .int .i64 r.val.kind ∧ q2 = .string r.val.name ∧ BiIs w (.agg #[.string r.name, .int .i64 r.val.kind, .string r.val.name, q3]) r bs := by
  obtain ⟨xs, n', rfl, -, -, hxl, hf⟩ := DataW.trod_struct Try.underlying112 h
  have g0 := hf 0 _ rfl
  have g1 := hf 1 _ rfl
  obtain ⟨x0, x1, rfl⟩ := len_two hxl
  simp [cells9L, cellsL] at g0 g1
  obtain ⟨s0, e0, -, hs0⟩ := DataW.trod_string Try.underlying9 g0
  obtain ⟨e, b4, e4, e5, h4⟩ := read_ex3 g1
  simp only [List.cons.injEq, and_true] at e0
  subst e0; subst e4; subst e5
  exact ⟨⟨s0, e⟩, b4, rfl, rfl, rfl, q3, rfl, by unfold maxLen at hs0; exact hs0, h4⟩
theorem read_binds0 {H : Type} {enc : TypeId × Value → H} {w : World} {fuel : Nat} {cs : List Value} {x : DataW H × List MemPlace} (h : DataW.trod enc Try.prog w 0 (fun _ => true) true fuel 48 cs = some x) : ∃ v l bs, cs = [v] ∧ BlIs w v l bs := by
  rcases DataW.trod_slice Try.underlying48 h with ⟨rfl, -⟩ | ⟨a, len, cap, elems, rest, n, rfl, rfl, -, -, hl, hm, hlen, hel, -⟩
  · exact ⟨_, [], [], rfl, none, 0, rfl, by simp, by simp, Or.inl ⟨rfl, rfl⟩⟩
  · have hcap : cap ≤ 9223372036854775807 := by unfold maxLen at hm; omega
    by_cases h0 : len = 0
    · subst h0
      exact ⟨_, [], [], rfl, some a, cap, rfl, by simp, hcap, Or.inl ⟨rfl, rfl⟩⟩
    · have elem : ∀ i, i < len → ∃ (q0 q1 q2 q3 : Value) (r : Bi) (bs : List Nat), (∀ j u, [q0, q1, q2, q3][j]? = some u → w.cell? ((a.add (i * 4)).add j) = some u) ∧ q0 = .string r.name ∧ q1 = .int .i64 r.val.kind ∧ q2 = .string r.val.name ∧ BiIs w (.agg #[.string r.name, .int .i64 r.val.kind, .string r.val.name, q3]) r bs := by
        intro i hi
        have hy := hel i hi
        rw [List.getElem?_eq_getElem (by omega), cellsBL] at hy
        cases hc : w.cells? 0 (a.add (i * 4)) 4 with
        | none => rw [hc] at hy; simp at hy
        | some cs' =>
          rw [hc] at hy
          simp only [Option.bind_some] at hy
          obtain ⟨_, hcl, hat⟩ := World.cells?_some hc
          obtain ⟨q0, q1, q2, q3, rfl⟩ := len_four hcl
          obtain ⟨r, bs, e0, e1, e2, hr⟩ := read_bind hy
          refine ⟨q0, q1, q2, q3, r, bs, fun j u hj => ?_, e0, e1, e2, hr⟩
          have hj4 : j < 4 := (List.getElem?_eq_some_iff.1 hj).1
          rw [hat j hj4]; exact hj
      obtain ⟨q0, q1, q2, q3, -, -, c0, -⟩ := elem 0 (by omega)
      have ha := spot_none (a := a) (by simpa [Addr.add] using c0 0 q0 rfl)
      obtain ⟨ha1, hlt⟩ := ha
      clear c0
      generalize a.block = g at *
      generalize a.off = o at *
      subst ha1
      obtain ⟨l, bs, hl2, hs⟩ := bis_of (w := w) (g := g) (o := o) len (fun i hi => by
        obtain ⟨q0, q1, q2, q3, r, bs, c, rfl, rfl, rfl, hr⟩ := elem i hi
        have cc : ∀ j u, [Value.string r.name, .int .i64 r.val.kind, .string r.val.name, q3][j]? = some u → w.cell? ⟨g, o + i * 4 + j, none⟩ = some u := fun j u hj => by
          have := c j u hj
          rw [add_litO, add_litO] at this
          exact this
        exact ⟨r, bs, q3, ⟨cc 0 _ rfl, cc 1 _ rfl, cc 2 _ rfl, cc 3 _ rfl⟩, hr⟩)
      exact ⟨_, l, g :: bs, rfl, some ⟨g, o, none⟩, cap, by rw [hl2], by omega, hcap, Or.inr ⟨g, o, bs, rfl, hlt, rfl, hs⟩⟩
set_option maxRecDepth 100000 in
/-- An argument that was read as data is a list of bindings in memory. -/
theorem read_binds {H : Type} {enc : TypeId × Value → H} {w : World} {b0 : Nat} {v : Value} {d : DataW H} {p : List MemPlace} (hv : Value.okWide Try.prog w .any b0 48 v) (h : DataW.Trod enc Try.prog w 0 (fun _ => true) true 48 v d p) :
    ∃ l bs, BlIs w v l bs := by
  obtain ⟨a0, len, cap, rfl⟩ := okWide_slice Try.underlying48 hv
  obtain ⟨fuel, hf⟩ := h
  simp [Value.cells] at hf
  obtain ⟨v0, l, bs, e0, h0⟩ := read_binds0 hf
  simp only [List.cons.injEq, and_true] at e0
  subst e0
  exact ⟨l, bs, h0⟩
end Go.Proofs.Ytbnghkgfbjipdaa

namespace Go.Proofs.Ytbnghkgfbjipdaa
open Go Go.RowKit

mutual
/-- The bytes of all names, and the number of nodes below the root. -/
def exTot : Ex → Nat
  | .mk _ s l => s.size + exTots l
def exTots : List Ex → Nat
  | [] => 0
  | e :: r => exTot e + 1 + exTots r
end
theorem tots_ge : ∀ l : List Ex, l.length ≤ exTots l := by
  intro l
  induction l with
  | nil => simp
  | cons e r ih => rw [exTots, List.length_cons]; omega
theorem tots_snoc (l : List Ex) (k : Nat) (e : Ex) (h : l[k]? = some e) : exTots (l.take (k + 1)) = exTots (l.take k) + (exTot e + 1) := by
  have hs : ∀ (a b : List Ex), exTots (a ++ b) = exTots a + exTots b := by
    intro a
    induction a with
    | nil => intro b; simp [exTots]
    | cons x r ih => intro b; rw [List.cons_append, exTots, exTots, ih]; omega
  have hk : k < l.length := (List.getElem?_eq_some_iff.1 h).1
  have he : l[k] = e := (List.getElem?_eq_some_iff.1 h).2
  rw [List.take_succ_eq_append_getElem hk, he, hs]
  simp [exTots]
theorem tots_take : ∀ (l : List Ex) (k : Nat), exTots (l.take k) ≤ exTots l := by
  intro l
  induction l with
  | nil => intro k; simp [exTots]
  | cons x r ih =>
    intro k
    cases k with
    | zero => simp [exTots]
    | succ k => rw [List.take_succ_cons, exTots, exTots]; have := ih k; omega
/-- What is still to come weighs at least one a node. -/
theorem tots_take2 : ∀ (l : List Ex) (k : Nat), k ≤ l.length → exTots (l.take k) + (l.length - k) ≤ exTots l := by
  intro l
  induction l with
  | nil => intro k h; simp [exTots]
  | cons x r ih =>
    intro k h
    cases k with
    | zero => have := tots_ge (x :: r); simp only [List.take_zero, exTots, List.length_cons] at *; omega
    | succ k => rw [List.take_succ_cons, exTots, exTots, List.length_cons]; have := ih k (by simpa using h); omega
theorem tot_size (n : Nat) : (∀ e : Ex, exSize e ≤ n → exSize e ≤ exTot e + 1) ∧ (∀ l : List Ex, exSizes l ≤ n → exSizes l ≤ exTots l) := by
  induction n with
  | zero =>
    refine ⟨fun e h => by have := exSize_pos e; omega, fun l h => by omega⟩
  | succ n ih =>
    have hE : ∀ e : Ex, exSize e ≤ n + 1 → exSize e ≤ exTot e + 1 := by
      intro e h
      cases e with
      | mk k s l =>
        rw [exSize] at h ⊢
        rw [exTot]
        have := ih.2 l (by omega)
        omega
    refine ⟨hE, ?_⟩
    intro l
    induction l with
    | nil => intro _; simp [exSizes, exTots]
    | cons e r ihl =>
      intro h
      rw [exSizes] at h ⊢
      rw [exTots]
      have h1 := hE e (by omega)
      have h2 := ihl (by omega)
      omega
def RetPost (r : Value) (w : World) (e : Ending) (w' : World) : Prop := e = .returned r ∧ Below w.heap.size w w'
/-- The box of an argument stays. -/
theorem box_cells (w : World) (K : Int) (S : ByteArray) (u : Value) (W : World) (hb : Below (w.heap.size + 1) (w.alloc (.cells #[.int .i64 K, .string S, u] 47)) W) :
    W.cell? ⟨w.heap.size, 0, none⟩ = some (.int .i64 K) ∧ W.cell? ⟨w.heap.size, 1, none⟩ = some (.string S) ∧ W.cell? ⟨w.heap.size, 2, none⟩ = some u := by
  have h : ∀ m, W.cell? ⟨w.heap.size, m, none⟩ = (w.alloc (.cells #[.int .i64 K, .string S, u] 47)).cell? ⟨w.heap.size, m, none⟩ := fun m => hb.cell (p := ⟨w.heap.size, m, none⟩) (Nat.lt_succ_self _)
  refine ⟨(h 0).trans ?_, (h 1).trans ?_, (h 2).trans ?_⟩ <;> simp [go_sem]
theorem box_cells2 (w : World) (K : Int) (S : ByteArray) (u : Value) (W : World) (hb : Below (w.alloc (.cells #[.int .i64 K, .string S, u] 26)).heap.size (w.alloc (.cells #[.int .i64 K, .string S, u] 26)) W) :
    W.cell? ⟨w.heap.size, 0, none⟩ = some (.int .i64 K) ∧ W.cell? ⟨w.heap.size, 1, none⟩ = some (.string S) ∧ W.cell? ⟨w.heap.size, 2, none⟩ = some u := by
  have h : ∀ m, W.cell? ⟨w.heap.size, m, none⟩ = (w.alloc (.cells #[.int .i64 K, .string S, u] 26)).cell? ⟨w.heap.size, m, none⟩ := fun m => hb.cell (p := ⟨w.heap.size, m, none⟩) (by simp)
  refine ⟨(h 0).trans ?_, (h 1).trans ?_, (h 2).trans ?_⟩ <;> simp [go_sem]
/-- What the size answers: -1, or what is left. -/
def SzEnd (L T : Int) (w : World) (e : Ending) (w' : World) : Prop := ∃ r : Int, e = .returned (.int .i64 r) ∧ Below w.heap.size w w' ∧ ((r = -1 ∧ L < T) ∨ (0 ≤ r ∧ r = L - T))

set_option maxHeartbeats 1000000 in
theorem sz_ex (n : Nat) (ih : ∀ (l : List Ex) (v : Value) (bs : List Nat) (w : World) (L : Int), exSizes l ≤ n → SlIs w v l bs → 0 ≤ L → L ≤ 1048576 → Calls Try.prog 48 #[v, .int .i64 L] w (SzEnd L (exTots l) w))
    (e : Ex) (v : Value) (bs : List Nat) (w : World) (L : Int) (hle : exSize e ≤ n + 1) (hv : ExIs w v e bs) (hL0 : 0 ≤ L) (hL1 : L ≤ 1048576) :
    Calls Try.prog 37 #[v, .int .i64 L] w (SzEnd L (exTot e) w) := by
  obtain ⟨u, rfl, hsz, hu⟩ := hv
  obtain ⟨K, hK⟩ : ∃ K, K = e.kind := ⟨_, rfl⟩
  obtain ⟨S, hS⟩ : ∃ S, S = e.name := ⟨_, rfl⟩
  have HT := Lib.hid (show exTot e = e.name.size + exTots e.args by cases e; rfl)
  rw [← hS] at HT
  rw [← hK, ← hS]
  rw [← hS] at hsz
  clear hK hS
  by_cases h0 : L - (S.size : Int) < 0
  · clear ih
    go_enter Try.func37, Try.ntmps37
    go_wp2_with fail
    go_ret
    exact ⟨-1, rfl, (Below.refl _ _).alloc (Nat.le_refl _) _, Or.inl ⟨rfl, by have := HT.out; omega⟩⟩
  · have HC := Lib.hid (fun (W : World) (hb : Below w.heap.size w W) => ih e.args u bs W (L - (S.size : Int)) (by cases e; rw [exSize] at hle; exact Nat.le_of_succ_le_succ hle) (hu.below hb) (by omega) (by omega))
    clear ih hle hu
    have h0' : 0 ≤ L - (S.size : Int) := by omega
    go_enter Try.func37, Try.ntmps37
    go_wp2_with (go_at_call 48; refine (HC.out _ ((Below.refl _ _).alloc (Nat.le_refl _) _)).mono ?_; rintro r w1 ⟨z, rfl, hb1, hz⟩; have HB1 := Lib.hid (((Below.refl w.heap.size w).alloc (Nat.le_refl _) _).trans (hb1.mono (by simp))); clear hb1; rcases hz with ⟨rfl, hz⟩ | ⟨hz0, hz⟩ <;> (have HZ := Lib.hid hz; clear hz))
    · go_ret
      exact ⟨-1, rfl, HB1.out, Or.inl ⟨rfl, by have := HT.out; have := HZ.out; omega⟩⟩
    · go_ret
      exact ⟨z, rfl, HB1.out, Or.inr ⟨hz0, by have := HT.out; have := HZ.out; omega⟩⟩

set_option maxHeartbeats 1000000 in
theorem sz_exs (n : Nat) (ih : ∀ (e : Ex) (v : Value) (bs : List Nat) (w : World) (L : Int), exSize e ≤ n → ExIs w v e bs → 0 ≤ L → L ≤ 1048576 → Calls Try.prog 37 #[v, .int .i64 L] w (SzEnd L (exTot e) w))
    (l : List Ex) (v : Value) (bs : List Nat) (w : World) (L : Int) (hle : exSizes l ≤ n) (hv : SlIs w v l bs) (hL0 : 0 ≤ L) (hL1 : L ≤ 1048576) :
    Calls Try.prog 48 #[v, .int .i64 L] w (SzEnd L (exTots l) w) := by
  obtain ⟨A, c, rfl, hc1, hc2, -⟩ := id hv
  have HU := Lib.hid hv
  obtain ⟨m, hm⟩ : ∃ m, m = l.length := ⟨_, rfl⟩
  rw [← hm] at hc1 HU ⊢
  have HM := Lib.hid hm
  have HT := Lib.hid (tots_ge l)
  clear hm hv
  by_cases h0 : L - (m : Int) < 0
  · clear ih
    go_enter Try.func48, Try.ntmps48
    go_wp2_with fail
    go_ret
    exact ⟨-1, rfl, Below.refl _ _, Or.inl ⟨rfl, by have := HT.out; have := HM.out; omega⟩⟩
  · have HIH := Lib.hid ih
    have HN := Lib.hid hle
    have HLOW := Lib.hid (show (L - (m : Int) = L - (m : Int) - (((exTots (l.take 0) : Nat) : Int) - ((0 : Nat) : Int))) by simp [exTots])
    clear ih hle
    have h0' : 0 ≤ L - (m : Int) := by omega
    go_enter Try.func48, Try.ntmps48
    go_wp2_with fail
    go_loopw [1, 5] (fun t i wr => ∃ (k : Nat) (z : Int), k ≤ m ∧ i = .int .i64 (k : Int) ∧ t = .int .i64 z ∧ 0 ≤ z ∧ z ≤ 1048576 ∧ Hid (z = L - (m : Int) - (((exTots (l.take k) : Nat) : Int) - (k : Int))) ∧ Hid (Below w.heap.size w wr)) (fun _ i _ => m - (intOf i).toNat)
    case atStart => exact ⟨0, _, Nat.zero_le _, rfl, rfl, h0', by omega, HLOW, Lib.hid (Below.refl _ _)⟩
    case round =>
      obtain ⟨k, z, hk, rfl, rfl, hz0, hz1, HZ, HB⟩ := hrel
      by_cases hlt : k < m
      · obtain ⟨g, o, e1, u, b1, rfl, hbl, hget, hmem, c1, c2, c3, his, -⟩ := (HU.out.below HB.out).get k (by rw [← HM.out]; exact hlt)
        have HG := Lib.hid (tots_snoc l k e1 hget)
        have HTK := Lib.hid (tots_take l (k + 1))
        have HKM := Lib.hid (show (k : Int) + 1 ≤ m by omega)
        have HCALL := Lib.hid (HIH.out e1 _ b1 wr z (by have := exSizes_mem hmem; have := HN.out; omega) his hz0 hz1)
        clear his hget hmem
        go_wp2_with (go_at_call 37; refine HCALL.out.mono ?_; rintro r w1 ⟨z1, rfl, hb1, hz⟩; have HB1 := Lib.hid (HB.out.trans (hb1.mono HB.out.size)); clear hb1; rcases hz with ⟨rfl, hz⟩ | ⟨hq0, hz⟩ <;> (have HQ := Lib.hid hz; clear hz))
        · go_ret
          refine ⟨-1, rfl, HB1.out, Or.inl ⟨rfl, ?_⟩⟩
          have h1 := HQ.out
          have h2 := HZ.out
          have h3 := HG.out
          have h4 := HTK.out
          have h5 := HKM.out
          have h7 := HM.out
          have h6 := tots_take2 l (k + 1) (by omega)
          omega
        · have hq1 : z1 ≤ 1048576 := by have := HQ.out; omega
          go_roundw
          case rel => exact ⟨k + 1, _, by omega, by go_num, rfl, hq0, hq1, Lib.hid (by have := HQ.out; have := HZ.out; have := HG.out; omega), HB1⟩
          case measure => simp [intOf]; omega
      · have HE2 := Lib.hid (show z = L - (exTots l : Int) by
          have h := HZ.out
          rw [List.take_of_length_le (by rw [← HM.out]; omega)] at h
          omega)
        go_wp2_with fail
        go_ret
        exact ⟨z, rfl, HB.out, Or.inr ⟨hz0, HE2.out⟩⟩

theorem sz_both (n : Nat) : (∀ (e : Ex) (v : Value) (bs : List Nat) (w : World) (L : Int), exSize e ≤ n → ExIs w v e bs → 0 ≤ L → L ≤ 1048576 → Calls Try.prog 37 #[v, .int .i64 L] w (SzEnd L (exTot e) w)) ∧
    (∀ (l : List Ex) (v : Value) (bs : List Nat) (w : World) (L : Int), exSizes l ≤ n → SlIs w v l bs → 0 ≤ L → L ≤ 1048576 → Calls Try.prog 48 #[v, .int .i64 L] w (SzEnd L (exTots l) w)) := by
  induction n with
  | zero =>
    have hE : ∀ (e : Ex) (v : Value) (bs : List Nat) (w : World) (L : Int), exSize e ≤ 0 → ExIs w v e bs → 0 ≤ L → L ≤ 1048576 → Calls Try.prog 37 #[v, .int .i64 L] w (SzEnd L (exTot e) w) := fun e v bs w L h => by have := exSize_pos e; omega
    exact ⟨hE, fun l v bs w L h1 h2 h3 h4 => sz_exs 0 hE l v bs w L h1 h2 h3 h4⟩
  | succ n ih =>
    have hE : ∀ (e : Ex) (v : Value) (bs : List Nat) (w : World) (L : Int), exSize e ≤ n + 1 → ExIs w v e bs → 0 ≤ L → L ≤ 1048576 → Calls Try.prog 37 #[v, .int .i64 L] w (SzEnd L (exTot e) w) := fun e v bs w L h1 h2 h3 h4 => sz_ex n ih.2 e v bs w L h1 h2 h3 h4
    exact ⟨hE, fun l v bs w L h1 h2 h3 h4 => sz_exs (n + 1) hE l v bs w L h1 h2 h3 h4⟩
/-- The laws' size of an expression. -/
theorem sz_expr (e : Ex) (v : Value) (bs : List Nat) (w : World) (L : Int) (hv : ExIs w v e bs) (h0 : 0 ≤ L) (h1 : L ≤ 1048576) : Calls Try.prog 37 #[v, .int .i64 L] w (SzEnd L (exTot e) w) :=
  (sz_both (exSize e)).1 e v bs w L (Nat.le_refl _) hv h0 h1
end Go.Proofs.Ytbnghkgfbjipdaa

namespace Go.Proofs.Ytbnghkgfbjipdaa
open Go Go.RowKit

def biTot (b : Bi) : Nat := b.name.size + exTot b.val
def bisTot : List Bi → Nat
  | [] => 0
  | r :: l => biTot r + 1 + bisTot l
theorem bisTot_ge : ∀ l : List Bi, l.length ≤ bisTot l := by
  intro l
  induction l with
  | nil => simp
  | cons e r ih => rw [bisTot, List.length_cons]; omega
theorem bisTot_app : ∀ (a b : List Bi), bisTot (a ++ b) = bisTot a + bisTot b := by
  intro a
  induction a with
  | nil => intro b; simp [bisTot]
  | cons x r ih => intro b; rw [List.cons_append, bisTot, bisTot, ih]; omega
theorem take_bi (l : List Bi) (k : Nat) (e : Bi) (h : l[k]? = some e) : l.take (k + 1) = l.take k ++ [e] := by
  obtain ⟨h1, h2⟩ := List.getElem?_eq_some_iff.1 h
  rw [List.take_succ_eq_append_getElem h1, h2]
theorem bisTot_snoc (l : List Bi) (k : Nat) (e : Bi) (h : l[k]? = some e) : bisTot (l.take (k + 1)) = bisTot (l.take k) + (biTot e + 1) := by
  rw [take_bi l k e h, bisTot_app]; simp [bisTot]
theorem bisTot_rest (l : List Bi) (k : Nat) : bisTot (l.take k) + (l.length - k) ≤ bisTot l := by
  have h : bisTot l = bisTot (l.take k) + bisTot (l.drop k) := by rw [← bisTot_app, List.take_append_drop]
  have h2 := bisTot_ge (l.drop k)
  rw [List.length_drop] at h2
  omega
theorem bisTot_mem : ∀ {l : List Bi} {e : Bi}, e ∈ l → biTot e + 1 ≤ bisTot l := by
  intro l
  induction l with
  | nil => intro e h; cases h
  | cons x r ih =>
    intro e h
    rw [bisTot]
    rcases List.mem_cons.1 h with rfl | h
    · omega
    · have := ih h; omega

/-- A box of four cells. -/
def Box4 (W : World) (B : Nat) (T : TypeId) (x0 x1 x2 x3 : Value) : Prop := W.heap[B]? = some (.cells #[x0, x1, x2, x3] T (0, 0))
theorem Box4.cells {W : World} {B : Nat} {T : TypeId} {x0 x1 x2 x3 : Value} (h : Box4 W B T x0 x1 x2 x3) : W.cell? ⟨B, 0, none⟩ = some x0 ∧ W.cell? ⟨B, 1, none⟩ = some x1 ∧ W.cell? ⟨B, 2, none⟩ = some x2 ∧ W.cell? ⟨B, 3, none⟩ = some x3 := by
  unfold Box4 at h
  refine ⟨?_, ?_, ?_, ?_⟩ <;> (rw [World.cell?, h]; rfl)
theorem Box4.lt {W : World} {B : Nat} {T : TypeId} {x0 x1 x2 x3 : Value} (h : Box4 W B T x0 x1 x2 x3) : B < W.heap.size := (Array.getElem?_eq_some_iff.1 h).1
theorem Box4.thaw {W : World} {B : Nat} {T : TypeId} {x0 x1 x2 x3 : Value} (h : Box4 W B T x0 x1 x2 x3) (j : Nat) : W.frozen? ⟨B, j, none⟩ = false := by
  unfold Box4 at h
  simp [World.frozen?, h]
theorem box4_new {w W : World} {T : TypeId} {x0 x1 x2 x3 : Value} (hb : Below (w.alloc (.cells #[x0, x1, x2, x3] T)).heap.size (w.alloc (.cells #[x0, x1, x2, x3] T)) W) : Box4 W w.heap.size T x0 x1 x2 x3 :=
  (hb.block _ (by simp)).trans (by show (w.heap.push _)[w.heap.size]? = _; simp)
theorem box4_low {w W : World} {o : Obj} (hb : Below (w.alloc o).heap.size (w.alloc o) W) : Below w.heap.size w W := ((Below.refl w.heap.size w).alloc (Nat.le_refl _) o).trans (hb.mono (by simp))

set_option maxRecDepth 100000 in
set_option maxHeartbeats 2000000 in
theorem sz_bind (r : Bi) (v : Value) (bs : List Nat) (w : World) (L : Int) (hv : BiIs w v r bs) (hL0 : 0 ≤ L) (hL1 : L ≤ 1048576) :
    Calls Try.prog 83 #[v, .int .i64 L] w (SzEnd L (biTot r) w) := by
  obtain ⟨u, rfl, hn, h3⟩ := hv
  have HT := Lib.hid (show biTot r = r.name.size + exTot r.val from rfl)
  have H3 := Lib.hid (fun (W : World) (l : Int) (hb : Below w.heap.size w W) (h0 : 0 ≤ l) (hl : l ≤ 1048576) => sz_expr r.val _ bs W l (h3.below hb) h0 hl)
  obtain ⟨u', e3, -, hu⟩ := h3
  obtain ⟨A3, c3, e4, -⟩ := hu
  simp only [Value.agg.injEq, Array.mk.injEq, List.cons.injEq, and_true, true_and] at e3
  subst e3; subst e4
  obtain ⟨N, hN⟩ : ∃ N, N = r.name := ⟨_, rfl⟩
  obtain ⟨K, hK⟩ : ∃ K, K = r.val.kind := ⟨_, rfl⟩
  obtain ⟨S, hS⟩ : ∃ S, S = r.val.name := ⟨_, rfl⟩
  rw [← hN] at hn HT
  rw [← hK, ← hS] at H3
  rw [← hN, ← hK, ← hS]
  clear hN hK hS
  have HBX := Lib.hid (fun (W : World) => box4_new (w := w) (W := W) (T := 112) (x0 := .string N) (x1 := .int .i64 K) (x2 := .string S) (x3 := .slice A3 r.val.args.length c3))
  generalize r.val.args.length = n3 at *
  obtain ⟨l1, hl1⟩ : ∃ l1 : Int, l1 = L - (N.size : Int) := ⟨_, rfl⟩
  have HL1 := Lib.hid hl1
  have w1 : IntKind.i64.wrap (L - (N.size : Int)) = l1 := by rw [hl1]; exact IntWalk.i64_in _ (by omega)
  by_cases g1 : l1 < 0
  · clear hl1
    go_enter Try.func83, Try.ntmps83
    go_wp2_with fail
    go_ret
    exact ⟨-1, rfl, (Below.refl _ _).alloc (Nat.le_refl _) _, Or.inl ⟨rfl, by have := HT.out; have := HL1.out; omega⟩⟩
  have g3 : l1 ≤ 1048576 := by omega
  have g4 : 0 ≤ l1 := by omega
  clear hl1
  go_enter Try.func83, Try.ntmps83
  go_wp2_with fail
  go_at_call 37
  refine (H3.out _ _ ((Below.refl _ _).alloc (Nat.le_refl _) _) g4 g3).mono ?_
  rintro e x3 ⟨z3, rfl, hb3, hz⟩
  have HB3 := Lib.hid hb3
  clear hb3
  rcases hz with ⟨rfl, hz⟩ | ⟨hz0, hz⟩
  · have HZ := Lib.hid hz
    clear hz
    go_wp2_with fail
    go_ret
    exact ⟨-1, rfl, box4_low HB3.out, Or.inl ⟨rfl, by have := HT.out; have := HL1.out; have := HZ.out; omega⟩⟩
  have HZ3 := Lib.hid hz
  clear hz
  go_wp2_with fail
  go_ret
  exact ⟨z3, rfl, box4_low HB3.out, Or.inr ⟨hz0, by have := HT.out; have := HL1.out; have := HZ3.out; omega⟩⟩

set_option maxHeartbeats 2000000 in
theorem sz_binds (l : List Bi) (v : Value) (bs : List Nat) (w : World) (L : Int) (hv : BlIs w v l bs) (hL0 : 0 ≤ L) (hL1 : L ≤ 1048576) :
    Calls Try.prog 38 #[v, .int .i64 L] w (SzEnd L (bisTot l) w) := by
  obtain ⟨A, c, rfl, hc1, hc2, -⟩ := id hv
  have HU := Lib.hid hv
  obtain ⟨m, hm⟩ : ∃ m, m = l.length := ⟨_, rfl⟩
  rw [← hm] at hc1 HU ⊢
  have HM := Lib.hid hm
  have HT := Lib.hid (bisTot_ge l)
  clear hm hv
  by_cases h0 : L - (m : Int) < 0
  · go_enter Try.func38, Try.ntmps38
    go_wp2_with fail
    go_ret
    exact ⟨-1, rfl, Below.refl _ _, Or.inl ⟨rfl, by have := HT.out; have := HM.out; omega⟩⟩
  · have HLOW := Lib.hid (show (L - (m : Int) = L - (m : Int) - (((bisTot (l.take 0) : Nat) : Int) - ((0 : Nat) : Int))) by simp [bisTot])
    have h0' : 0 ≤ L - (m : Int) := by omega
    go_enter Try.func38, Try.ntmps38
    go_wp2_with fail
    go_loopw [1, 5] (fun t i wr => ∃ (k : Nat) (z : Int), k ≤ m ∧ i = .int .i64 (k : Int) ∧ t = .int .i64 z ∧ 0 ≤ z ∧ z ≤ 1048576 ∧ Hid (z = L - (m : Int) - (((bisTot (l.take k) : Nat) : Int) - (k : Int))) ∧ Hid (Below w.heap.size w wr)) (fun _ i _ => m - (intOf i).toNat)
    case atStart => exact ⟨0, _, Nat.zero_le _, rfl, rfl, h0', by omega, HLOW, Lib.hid (Below.refl _ _)⟩
    case round =>
      obtain ⟨k, z, hk, rfl, rfl, hz0, hz1, HZ, HB⟩ := hrel
      by_cases hlt : k < m
      · obtain ⟨g, o, r, u, b, hA⟩ := (HU.out.below HB.out).get k (by rw [← HM.out]; exact hlt)
        obtain rfl := hA.eq
        obtain ⟨c0, c1, c2, c3⟩ := hA.cells
        have HG := Lib.hid (bisTot_snoc l k r hA.get)
        have HTK := Lib.hid (bisTot_rest l (k + 1))
        have HKM := Lib.hid (show (k : Int) + 1 ≤ m by omega)
        have HCALL := Lib.hid (sz_bind r _ b wr z hA.is hz0 hz1)
        clear hA
        go_wp2_with (go_at_call 83; refine HCALL.out.mono ?_; rintro r w1 ⟨z1, rfl, hb1, hz⟩; have HB1 := Lib.hid (HB.out.trans (hb1.mono HB.out.size)); clear hb1; rcases hz with ⟨rfl, hz⟩ | ⟨hq0, hz⟩ <;> (have HQ := Lib.hid hz; clear hz))
        · go_ret
          refine ⟨-1, rfl, HB1.out, Or.inl ⟨rfl, ?_⟩⟩
          have h1 := HQ.out
          have h2 := HZ.out
          have h3 := HG.out
          have h4 := HTK.out
          have h5 := HKM.out
          have h7 := HM.out
          omega
        · have hq1 : z1 ≤ 1048576 := by have := HQ.out; omega
          go_roundw
          case rel => exact ⟨k + 1, _, by omega, by go_num, rfl, hq0, hq1, Lib.hid (by have := HQ.out; have := HZ.out; have := HG.out; omega), HB1⟩
          case measure => simp [intOf]; omega
      · have HE2 := Lib.hid (show z = L - (bisTot l : Int) by
          have h := HZ.out
          rw [List.take_of_length_le (by rw [← HM.out]; omega)] at h
          omega)
        go_wp2_with fail
        go_ret
        exact ⟨z, rfl, HB.out, Or.inr ⟨hz0, HE2.out⟩⟩

end Go.Proofs.Ytbnghkgfbjipdaa
