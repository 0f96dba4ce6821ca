/- What a slice of strings reads as, and the contract of the laws' comparison of two of them. Condition: fewer than 2^47 elements. A slice of strings that a call owns. No condition. Rules and programs as plain data, and what it says that they lie in memory. No condition. A program among the arguments: what it reads as. No condition. -/
import Derived.Test.YtbnghkgfbjipdaaRows
import Derived.WalkKit
import Derived.WalkSpells
import Derived.WalkLawsBesides
import Derived.Lib.Hide
import Derived.Deep.QuietTactic
import Derived.BigQuiet
import Derived.Laws.OwnMore
import Derived.Test.YtbnghkgfbjipdaaMa01
namespace Go.Proofs.Ytbnghkgfbjipdaa
open Go Go.RowKit

/-- The slice at A reads as the strings xs. -/
def Strs (w : World) (A : Option Addr) (xs : List ByteArray) : Prop :=
  ∀ i x, xs[i]? = some x → ∃ a, A = some a ∧ w.cell? (a.add i) = some (.string x) ∧ a.block < w.heap.size
theorem block_add (a : Addr) (n : Nat) : (a.add n).block = a.block := by unfold Addr.add; split <;> rfl
theorem Strs.below {w w' : World} {A : Option Addr} {xs : List ByteArray} (h : Strs w A xs) (hb : Below w.heap.size w w') : Strs w' A xs := fun i x hx => by
  obtain ⟨a, e, hc, hl⟩ := h i x hx
  exact ⟨a, e, (hb.cell (p := a.add i) (by rw [block_add]; exact hl)).trans hc, Nat.lt_of_lt_of_le hl hb.size⟩
theorem Strs.at_ {w : World} {A : Option Addr} {xs : List ByteArray} (h : Strs w A xs) (k : Nat) (hk : k < xs.length) : ∃ a, A = some a ∧ w.cell? (a.add k) = some (.string xs[k]) ∧ a.block < w.heap.size :=
  h k xs[k] (List.getElem?_eq_getElem hk)

theorem take_nextS {α : Type} (l : List α) (k : Nat) (h : k < l.length) : l.take (k + 1) = l.take k ++ [l[k]] := by
  rw [List.take_succ_eq_append_getElem h]

theorem Strs.get {w : World} {A : Option Addr} {xs : List ByteArray} (h : Strs w A xs) (k : Nat) (hk : k < xs.length) :
    ∃ a x, A = some a ∧ w.cell? (a.add k) = some (.string x) ∧ x ∈ xs ∧ xs[k]? = some x ∧ xs.take (k + 1) = xs.take k ++ [x] ∧ a.block < w.heap.size := by
  obtain ⟨a, e, hc, hl⟩ := h.at_ k hk
  exact ⟨a, xs[k], e, hc, List.getElem_mem hk, List.getElem?_eq_getElem hk, take_nextS xs k hk, hl⟩

def EqPost (w : World) (e : Ending) (w' : World) : Prop := e = .returned (.bool true) ∧ ∃ q, w' = w.drewN q

end Go.Proofs.Ytbnghkgfbjipdaa

namespace Go.Proofs.Ytbnghkgfbjipdaa
open Go Go.RowKit

/-- A slice value that owns the strings xs. -/
def OwnsL (B : Nat) (w : World) (v : Value) (xs : List ByteArray) : Prop := w.ownsRow B 9 1 v xs.length (xs.map Value.string)
theorem OwnsL.shape {B : Nat} {w : World} {v : Value} {xs : List ByteArray} (h : OwnsL B w v xs) :
    ∃ A cap, v = .slice A xs.length cap ∧ Strs w A xs := by
  rcases h.2 with ⟨rfl, h0⟩ | ⟨g, cap, cur, rfl, hb, -⟩
  · refine ⟨none, 0, ?_, ?_⟩
    · rw [h0]
    · have : xs = [] := List.eq_nil_of_length_eq_zero h0
      subst this
      exact fun i x hx => by simp at hx
  · have hl := h.lt g rfl
    exact ⟨_, cap, rfl, fun i x hx => ⟨_, rfl, h.cells (g := g) rfl i _ (by rw [List.getElem?_map, hx]; rfl), hl.2⟩⟩

theorem Try.info9u : (Try.prog.info? 9).map (fun i => (i.zero, i.size, i.bytes)) = some (some (.string ⟨#[]⟩), 1, 16) := by kernel_rfl
theorem OwnsL.next {B : Nat} {w1 : World} {v : Value} {out : List ByteArray} {x : ByteArray} (h : w1.ownsRow B 9 1 v (out.length + 1) (out.map Value.string ++ [Value.string x])) : OwnsL B w1 v (out ++ [x]) := by
  unfold OwnsL; rw [List.length_append, List.map_append]; exact h
theorem OwnsL.grown {w wr w1 : World} {v : Value} {n : Nat} {l : List Value} (hb : Below w.heap.size w wr) (ho : wr.ownsRow w.heap.size 9 1 v n l) (hg : wr.grownBy w1 v.ownBlock) : Below w.heap.size w w1 :=
  hb.grown hg hb.size (fun k hk => (ho.lt k hk).1)
theorem cell_new {W : World} {x : ByteArray} : ∀ j u, [Value.string x][j]? = some u → (W.alloc (.cells #[.string x] 9)).cell? ((⟨W.heap.size, 0, none⟩ : Addr).add j) = some u := fun j u hu => by
  have hj : j = 0 := by
    rcases j with _ | j
    · rfl
    · simp at hu
  subst hj
  simp at hu
  rw [← hu]; simp [go_sem]
theorem one_new {x : ByteArray} : ∀ u ∈ [Value.string x], u.oneCell' = true := fun u hu => by rw [List.mem_singleton] at hu; rw [hu]; rfl
end Go.Proofs.Ytbnghkgfbjipdaa

namespace Go.Proofs.Ytbnghkgfbjipdaa
open Go Go.RowKit

/-- A rule. -/
structure Ru where
  name : ByteArray
  con : ByteArray
  vars : List ByteArray
  params : List ByteArray
  body : Ex

/-- A slice value that reads as the strings xs, in the blocks bs. -/
def SsIs (w : World) (v : Value) (xs : List ByteArray) (bs : List Nat) : Prop :=
  ∃ A c, v = .slice A xs.length c ∧ xs.length ≤ c ∧ c ≤ 9223372036854775807 ∧ (∀ x ∈ xs, x.size ≤ 9223372036854775807) ∧ ((xs = [] ∧ bs = []) ∨ ∃ g o, A = some ⟨g, o, none⟩ ∧ g < w.heap.size ∧ bs = [g] ∧ ∀ i x, xs[i]? = some x → w.cell? ⟨g, o + i, none⟩ = some (.string x))
theorem SsIs.keeps {w w' : World} {v : Value} {xs : List ByteArray} {bs : List Nat} (h : SsIs w v xs bs) (hk : Keeps w w' bs) : SsIs w' v xs bs := by
  obtain ⟨A, c, e, h1, h2, h3, h4⟩ := h
  refine ⟨A, c, e, h1, h2, h3, ?_⟩
  rcases h4 with h4 | ⟨g, o, e1, h5, rfl, h6⟩
  · exact Or.inl h4
  · have hg := hk.2 g (by simp) h5
    exact Or.inr ⟨g, o, e1, Nat.lt_of_lt_of_le h5 hk.1, rfl, fun i x hx => (World.cell?_of_block (w := w) (a := ⟨g, o + i, none⟩) hg).trans (h6 i x hx)⟩
theorem SsIs.below {w w' : World} {v : Value} {xs : List ByteArray} {bs : List Nat} (h : SsIs w v xs bs) (hb : Below w.heap.size w w') : SsIs w' v xs bs := h.keeps (keeps_below hb bs)
theorem add_litRu (g o k : Nat) : (⟨g, o, none⟩ : Addr).add k = ⟨g, o + k, none⟩ := by
  unfold Addr.add
  split <;> simp_all
theorem SsIs.strs {w : World} {A : Option Addr} {n c : Nat} {xs : List ByteArray} {bs : List Nat} (h : SsIs w (.slice A n c) xs bs) : n = xs.length ∧ n ≤ c ∧ c ≤ 9223372036854775807 ∧ Strs w A xs ∧ ∀ x ∈ xs, x.size ≤ 9223372036854775807 := by
  obtain ⟨A', c', e, h1, h2, h3, h4⟩ := h
  cases e
  refine ⟨rfl, h1, h2, ?_, h3⟩
  rcases h4 with ⟨rfl, -⟩ | ⟨g, o, rfl, h5, rfl, h6⟩
  · exact fun i x hx => by simp at hx
  · exact fun i x hx => ⟨_, rfl, by rw [add_litRu]; exact h6 i x hx, h5⟩
theorem SsIs.slice {w : World} {v : Value} {xs : List ByteArray} {bs : List Nat} (h : SsIs w v xs bs) : ∃ A c, v = .slice A xs.length c := by
  obtain ⟨A, c, e, -⟩ := h
  exact ⟨A, c, e⟩

/-- A struct value that reads as the rule r. -/
def RuIs (w : World) (v : Value) (r : Ru) (bs : List Nat) : Prop :=
  ∃ v1 v2 u b1 b2 b3, v = .agg #[.string r.name, .string r.con, v1, v2, .int .i64 r.body.kind, .string r.body.name, u] ∧ r.name.size ≤ 9223372036854775807 ∧ r.con.size ≤ 9223372036854775807 ∧ bs = b1 ++ (b2 ++ b3) ∧
    SsIs w v1 r.vars b1 ∧ SsIs w v2 r.params b2 ∧ ExIs w (.agg #[.int .i64 r.body.kind, .string r.body.name, u]) r.body b3
theorem RuIs.keeps {w w' : World} {v : Value} {r : Ru} {bs : List Nat} (h : RuIs w v r bs) (hk : Keeps w w' bs) : RuIs w' v r bs := by
  obtain ⟨v1, v2, u, b1, b2, b3, e, h1, h2, rfl, h3, h4, h5⟩ := h
  exact ⟨v1, v2, u, b1, b2, b3, e, h1, h2, rfl, h3.keeps ⟨hk.1, fun x hx => hk.2 x (by simp [hx])⟩, h4.keeps ⟨hk.1, fun x hx => hk.2 x (by simp [hx])⟩, h5.keeps ⟨hk.1, fun x hx => hk.2 x (by simp [hx])⟩⟩
theorem RuIs.below {w w' : World} {v : Value} {r : Ru} {bs : List Nat} (h : RuIs w v r bs) (hb : Below w.heap.size w w') : RuIs w' v r bs := h.keeps (keeps_below hb bs)

/-- The seven cells of a rule. -/
structure Cells7 (w : World) (g o : Nat) (x0 x1 x2 x3 x4 x5 x6 : Value) : Prop where
  c0 : w.cell? ⟨g, o, none⟩ = some x0
  c1 : w.cell? ⟨g, o + 1, none⟩ = some x1
  c2 : w.cell? ⟨g, o + 2, none⟩ = some x2
  c3 : w.cell? ⟨g, o + 3, none⟩ = some x3
  c4 : w.cell? ⟨g, o + 4, none⟩ = some x4
  c5 : w.cell? ⟨g, o + 5, none⟩ = some x5
  c6 : w.cell? ⟨g, o + 6, none⟩ = some x6
theorem Cells7.of {w w' : World} {g o : Nat} {x0 x1 x2 x3 x4 x5 x6 : Value} (h : Cells7 w g o x0 x1 x2 x3 x4 x5 x6) (hc : ∀ m, o ≤ m → m < o + 7 → w'.cell? ⟨g, m, none⟩ = w.cell? ⟨g, m, none⟩) : Cells7 w' g o x0 x1 x2 x3 x4 x5 x6 :=
  ⟨(hc _ (by omega) (by omega)).trans h.c0, (hc _ (by omega) (by omega)).trans h.c1, (hc _ (by omega) (by omega)).trans h.c2, (hc _ (by omega) (by omega)).trans h.c3, (hc _ (by omega) (by omega)).trans h.c4, (hc _ (by omega) (by omega)).trans h.c5, (hc _ (by omega) (by omega)).trans h.c6⟩
/-- A rule that lies in the cells from o on. -/
def RuAt (w : World) (g o : Nat) (r : Ru) (bs : List Nat) : Prop :=
  ∃ v1 v2 u, Cells7 w g o (.string r.name) (.string r.con) v1 v2 (.int .i64 r.body.kind) (.string r.body.name) u ∧ RuIs w (.agg #[.string r.name, .string r.con, v1, v2, .int .i64 r.body.kind, .string r.body.name, u]) r bs
theorem RuAt.same {w w' : World} {g o : Nat} {r : Ru} {bs : List Nat} (h : RuAt w g o r bs) (hc : ∀ m, o ≤ m → m < o + 7 → w'.cell? ⟨g, m, none⟩ = w.cell? ⟨g, m, none⟩) (hk : Keeps w w' bs) : RuAt w' g o r bs := by
  obtain ⟨v1, v2, u, h1, h2⟩ := h
  exact ⟨v1, v2, u, h1.of hc, h2.keeps hk⟩
/-- The rules of a slice, from an index on. -/
def RusAt (w : World) (g o : Nat) : Nat → List Ru → List Nat → Prop
  | _, [], bs => bs = []
  | i, r :: l, bs => ∃ b1 b2, bs = b1 ++ b2 ∧ RuAt w g (o + i * 7) r b1 ∧ RusAt w g o (i + 1) l b2
theorem RusAt.same {w w' : World} {g o : Nat} : ∀ (l : List Ru) (j : Nat) (bs : List Nat), RusAt w g o j l bs → (∀ m, m < o + (j + l.length) * 7 → w'.cell? ⟨g, m, none⟩ = w.cell? ⟨g, m, none⟩) → Keeps w w' bs → RusAt w' g o j l bs := by
  intro l
  induction l with
  | nil => intro j bs h _ _; exact h
  | cons e r ih =>
    intro j bs h hc hk
    obtain ⟨b1, b2, rfl, h1, h2⟩ := h
    simp only [List.length_cons] at hc
    exact ⟨b1, b2, rfl, h1.same (fun m hm1 hm2 => hc m (by omega)) ⟨hk.1, fun x hx => hk.2 x (List.mem_append_left _ hx)⟩,
      ih (j + 1) b2 h2 (fun m hm => hc m (by omega)) ⟨hk.1, fun x hx => hk.2 x (List.mem_append_right _ hx)⟩⟩
theorem RusAt.keeps {w w' : World} {g o : Nat} {l : List Ru} {j : Nat} {bs : List Nat} (h : RusAt w g o j l bs) (hg : g < w.heap.size) (hk : Keeps w w' (g :: bs)) : RusAt w' g o j l bs :=
  h.same l j bs (fun m _ => World.cell?_of_block (w := w) (a := ⟨g, m, none⟩) (hk.2 g (by simp) hg)) ⟨hk.1, fun x hx => hk.2 x (by simp [hx])⟩
theorem RusAt.snoc {w : World} {g o : Nat} {e : Ru} {b1 : List Nat} : ∀ (l : List Ru) (j : Nat) (bs : List Nat), RusAt w g o j l bs → RuAt w g (o + (j + l.length) * 7) e b1 → RusAt w g o j (l ++ [e]) (bs ++ b1) := by
  intro l
  induction l with
  | nil =>
    intro j bs h h1
    obtain rfl : bs = [] := h
    exact ⟨b1, [], by simp, by simpa using h1, rfl⟩
  | cons x r ih =>
    intro j bs h h1
    obtain ⟨b2, b3, rfl, h2, h3⟩ := h
    exact ⟨b2, b3 ++ b1, by rw [List.append_assoc], h2, ih (j + 1) b3 h3 (by rw [show j + 1 + r.length = j + (x :: r).length by simp; omega]; exact h1)⟩
theorem RusAt.get {w : World} {g o : Nat} : ∀ (l : List Ru) (j : Nat) (bs : List Nat), RusAt w g o j l bs → ∀ i e, l[i]? = some e → ∃ b1, RuAt w g (o + (j + i) * 7) e b1 ∧ ∀ x ∈ b1, x ∈ bs := by
  intro l
  induction l with
  | nil => intro j bs _ i e h; simp at h
  | cons x r ih =>
    intro j bs h i e he
    obtain ⟨b1, b2, rfl, h1, h2⟩ := h
    cases i with
    | zero =>
      simp at he
      subst he
      exact ⟨b1, h1, fun y hy => List.mem_append_left _ hy⟩
    | succ i =>
      obtain ⟨b3, h3, h4⟩ := ih (j + 1) b2 h2 i e (by simpa using he)
      exact ⟨b3, by rw [show j + (i + 1) = j + 1 + i by omega]; exact h3, fun y hy => List.mem_append_right _ (h4 y hy)⟩

/-- A slice value that reads as the rules l. -/
def RsIs (w : World) (v : Value) (l : List Ru) (bs : List Nat) : Prop :=
  ∃ A c, v = .slice A l.length c ∧ l.length ≤ c ∧ c ≤ 9223372036854775807 ∧ ((l = [] ∧ bs = []) ∨ ∃ g' o' bs', A = some ⟨g', o', none⟩ ∧ g' < w.heap.size ∧ bs = g' :: bs' ∧ RusAt w g' o' 0 l bs')
/-- A struct value that reads as the program of the rules l. -/
def PrIs (w : World) (v : Value) (l : List Ru) (bs : List Nat) : Prop := ∃ u, v = .agg #[u] ∧ RsIs w u l bs
theorem RsIs.keeps {w w' : World} {v : Value} {l : List Ru} {bs : List Nat} (h : RsIs w v l bs) (hk : Keeps w w' bs) : RsIs w' v l bs := by
  obtain ⟨A, c, e, h1, h2, h4⟩ := h
  refine ⟨A, c, e, h1, h2, ?_⟩
  rcases h4 with h4 | ⟨g, o, bs', e1, h5, rfl, h6⟩
  · exact Or.inl h4
  · exact Or.inr ⟨g, o, bs', e1, Nat.lt_of_lt_of_le h5 hk.1, rfl, h6.keeps h5 hk⟩
theorem RsIs.below {w w' : World} {v : Value} {l : List Ru} {bs : List Nat} (h : RsIs w v l bs) (hb : Below w.heap.size w w') : RsIs w' v l bs := h.keeps (keeps_below hb bs)
theorem PrIs.keeps {w w' : World} {v : Value} {l : List Ru} {bs : List Nat} (h : PrIs w v l bs) (hk : Keeps w w' bs) : PrIs w' v l bs := by
  obtain ⟨u, e, h⟩ := h
  exact ⟨u, e, h.keeps hk⟩
theorem PrIs.below {w w' : World} {v : Value} {l : List Ru} {bs : List Nat} (h : PrIs w v l bs) (hb : Below w.heap.size w w') : PrIs w' v l bs := h.keeps (keeps_below hb bs)
theorem RsIs.len {w : World} {A : Option Addr} {n c : Nat} {l : List Ru} {bs : List Nat} (h : RsIs w (.slice A n c) l bs) : n = l.length ∧ n ≤ c ∧ c ≤ 9223372036854775807 := by
  obtain ⟨A', c', e, h1, h2, -⟩ := h
  cases e
  exact ⟨rfl, h1, h2⟩
/-- Rule k. -/
structure RuleAt (w : World) (A : Option Addr) (l : List Ru) (k : Nat) (g o : Nat) (r : Ru) (v1 v2 u : Value) (b : List Nat) : Prop where
  eq : A = some ⟨g, o, none⟩
  lt : g < w.heap.size
  get : l[k]? = some r
  mem : r ∈ l
  cells : Cells7 w g (o + k * 7) (.string r.name) (.string r.con) v1 v2 (.int .i64 r.body.kind) (.string r.body.name) u
  is : RuIs w (.agg #[.string r.name, .string r.con, v1, v2, .int .i64 r.body.kind, .string r.body.name, u]) r b
theorem RsIs.get {w : World} {A : Option Addr} {n c : Nat} {l : List Ru} {bs : List Nat} (h : RsIs w (.slice A n c) l bs) (k : Nat) (hk : k < l.length) : ∃ g o r v1 v2 u b, RuleAt w A l k g o r v1 v2 u b := by
  obtain ⟨A', c', e, h1, h2, h4⟩ := h
  cases e
  rcases h4 with ⟨rfl, -⟩ | ⟨g, o, bs', rfl, h5, rfl, h6⟩
  · simp at hk
  · have hg : l[k]? = some l[k] := List.getElem?_eq_getElem hk
    obtain ⟨b1, ⟨v1, v2, u, h7, h8⟩, -⟩ := h6.get l 0 bs' k _ hg
    rw [Nat.zero_add] at h7
    exact ⟨g, o, l[k], v1, v2, u, b1, rfl, h5, hg, List.getElem_mem hk, h7, h8⟩
/-- The parts of a rule that is at hand. -/
theorem RuIs.parts {w : World} {r : Ru} {v1 v2 u : Value} {b : List Nat} (h : RuIs w (.agg #[.string r.name, .string r.con, v1, v2, .int .i64 r.body.kind, .string r.body.name, u]) r b) :
    ∃ b1 b2 b3, b = b1 ++ (b2 ++ b3) ∧ r.name.size ≤ 9223372036854775807 ∧ r.con.size ≤ 9223372036854775807 ∧ SsIs w v1 r.vars b1 ∧ SsIs w v2 r.params b2 ∧ ExIs w (.agg #[.int .i64 r.body.kind, .string r.body.name, u]) r.body b3 := by
  obtain ⟨x1, x2, x3, b1, b2, b3, e, h1, h2, h3, h4, h5, h6⟩ := h
  simp only [Value.agg.injEq, Array.mk.injEq, List.cons.injEq, and_true, true_and] at e
  obtain ⟨rfl, rfl, rfl⟩ := e
  exact ⟨b1, b2, b3, h3, h1, h2, h4, h5, h6⟩
end Go.Proofs.Ytbnghkgfbjipdaa

namespace Go.Proofs.Ytbnghkgfbjipdaa
open Go Go.ChangeShapes Go.WideShapes Go.ChangeAt Go.RowKit Go.Deep Go.Joins

theorem cellsTL : Try.prog.cellsOf 88 = 1 := by kernel_rfl
theorem len_five {α : Type} {l : List α} (h : l.length = 5) : ∃ a b c d e, l = [a, b, c, d, e] := by
  match l, h with
  | [a, b, c, d, e], _ => exact ⟨a, b, c, d, e, rfl⟩
theorem len_seven {α : Type} {l : List α} (h : l.length = 7) : ∃ a b c d e f g, l = [a, b, c, d, e, f, g] := by
  match l, h with
  | [a, b, c, d, e, f, g], _ => exact ⟨a, b, c, d, e, f, g, rfl⟩
theorem len_one {α : Type} {l : List α} (h : l.length = 1) : ∃ a, l = [a] := by
  match l, h with
  | [a], _ => exact ⟨a, rfl⟩
theorem ss_of {w : World} {g o : Nat} : ∀ n : Nat, (∀ i, i < n → ∃ s : ByteArray, w.cell? ⟨g, o + i, none⟩ = some (.string s) ∧ s.size ≤ 9223372036854775807) → ∃ xs : List ByteArray, xs.length = n ∧ (∀ x ∈ xs, x.size ≤ 9223372036854775807) ∧ ∀ i x, xs[i]? = some x → w.cell? ⟨g, o + i, none⟩ = some (.string x) := by
  intro n
  induction n with
  | zero => intro _; exact ⟨[], rfl, fun x h => (by cases h), fun i x h => (by simp at h)⟩
  | succ n ih =>
    intro h
    obtain ⟨xs, hl, hs, hc⟩ := ih (fun i hi => h i (by omega))
    obtain ⟨s, h1, h2⟩ := h n (by omega)
    refine ⟨xs ++ [s], by simp [hl], fun x hx => ?_, fun i x hx => ?_⟩
    · rcases List.mem_append.1 hx with hx | hx
      · exact hs x hx
      · rw [List.mem_singleton] at hx; subst hx; exact h2
    · by_cases hi : i < xs.length
      · rw [List.getElem?_append_left hi] at hx; exact hc i x hx
      · rw [List.getElem?_append_right (by omega)] at hx
        obtain ⟨h3, h4⟩ := List.getElem?_eq_some_iff.1 hx
        simp at h3 h4
        subst h4
        rw [show i = n by omega]; exact h1
theorem read_ss {H : Type} {enc : TypeId × Value → H} {w : World} {fuel : Nat} {cs : List Value} {x : DataW H × List MemPlace} (h : DataW.trod enc Try.prog w 0 (fun _ => true) true fuel 88 cs = some x) : ∃ v xs bs, cs = [v] ∧ SsIs w v xs bs := by
  rcases DataW.trod_slice Try.underlying88 h with ⟨rfl, -⟩ | ⟨a, len, cap, elems, rest, n, rfl, rfl, -, -, hl, hm, hlen, hel, -⟩
  · exact ⟨_, [], [], rfl, none, 0, rfl, by simp, by simp, fun x h => (by cases h), Or.inl ⟨rfl, rfl⟩⟩
  · have hcap : cap ≤ 9223372036854775807 := by unfold maxLen at hm; omega
    by_cases h0 : len = 0
    · subst h0
      exact ⟨_, [], [], rfl, some a, cap, rfl, by simp, hcap, fun x h => (by cases h), Or.inl ⟨rfl, rfl⟩⟩
    · have elem : ∀ i, i < len → ∃ s : ByteArray, w.cell? ((a.add (i * 1)).add 0) = some (.string s) ∧ s.size ≤ 9223372036854775807 := by
        intro i hi
        have hy := hel i hi
        rw [List.getElem?_eq_getElem (by omega), cells9L] at hy
        cases hc : w.cells? 0 (a.add (i * 1)) 1 with
        | none => rw [hc] at hy; simp at hy
        | some cs' =>
          rw [hc] at hy
          simp only [Option.bind_some] at hy
          obtain ⟨_, hcl, hat⟩ := World.cells?_some hc
          obtain ⟨s, e1, -, hs⟩ := DataW.trod_string Try.underlying9 hy
          subst e1
          exact ⟨s, hat 0 (by omega), by unfold maxLen at hs; exact hs⟩
      obtain ⟨s0, c0, -⟩ := elem 0 (by omega)
      have ha := spot_none (a := a) (by simpa [Addr.add] using c0)
      obtain ⟨ha1, hlt⟩ := ha
      generalize a.block = g at *
      generalize a.off = o at *
      subst ha1
      obtain ⟨xs, hl2, hs, hc⟩ := ss_of (w := w) (g := g) (o := o) len (fun i hi => by
        obtain ⟨s, c0, hs⟩ := elem i hi
        rw [add_litO, add_litO, Nat.mul_one, Nat.add_zero] at c0
        exact ⟨s, c0, hs⟩)
      exact ⟨_, xs, [g], rfl, some ⟨g, o, none⟩, cap, by rw [hl2], by omega, hcap, hs, Or.inr ⟨g, o, rfl, hlt, rfl, hc⟩⟩
theorem read_ex3 {H : Type} {enc : TypeId × Value → H} {w : World} {fuel : Nat} {q0 q1 q2 : Value} {x : DataW H × List MemPlace} (h : DataW.trod enc Try.prog w 0 (fun _ => true) true fuel 47 [q0, q1, q2] = some x) :
    ∃ (e : Ex) (bs : List Nat), q0 = .int .i64 e.kind ∧ q1 = .string e.name ∧ ExIs w (.agg #[.int .i64 e.kind, .string e.name, q2]) e bs := by
  obtain ⟨xs, n', rfl, -, -, hxl, hf⟩ := DataW.trod_struct Try.underlying47 h
  have g0 := hf 0 _ rfl
  have g1 := hf 1 _ rfl
  have g2 := hf 2 _ rfl
  obtain ⟨x0, x1, x2, rfl⟩ := len_three hxl
  simp [cells3L, cells9L, cellsSL] at g0 g1 g2
  obtain ⟨k, e0, -, -⟩ := DataW.trod_int Try.underlying3 g0
  obtain ⟨s, e1, -, hs⟩ := DataW.trod_string Try.underlying9 g1
  obtain ⟨v2, l, bs, e2, hs2⟩ := read_exs n' _ _ g2
  simp only [List.cons.injEq, and_true] at e0 e1 e2
  subst e0; subst e1; subst e2
  exact ⟨.mk k s l, bs, rfl, rfl, q2, rfl, by unfold maxLen at hs; exact hs, hs2⟩
theorem rus_of {w : World} {g o : Nat} : ∀ n : Nat, (∀ i, i < n → ∃ r b, RuAt w g (o + i * 7) r b) → ∃ l bs, l.length = n ∧ RusAt w g o 0 l bs := by
  intro n
  induction n with
  | zero => intro _; exact ⟨[], [], rfl, rfl⟩
  | succ n ih =>
    intro h
    obtain ⟨l, bs, hl, hs⟩ := ih (fun i hi => h i (by omega))
    obtain ⟨r, b, hr⟩ := h n (by omega)
    exact ⟨l ++ [r], bs ++ b, by simp [hl], RusAt.snoc l 0 bs hs (by rw [Nat.zero_add, hl]; exact hr)⟩

end Go.Proofs.Ytbnghkgfbjipdaa
