/- A part of the proof of the seat's statement: RuNames. Condition: as each says. -/
import Derived.Test.YthljhiklpopmgaaGreatDoorKids
import Derived.Test.YthljhiklpopmgaaGreatDoorSpecNames
import Derived.Test.YthljhiklpopmgaaGreatDoorOwnsL
import Derived.Test.YthljhiklpopmgaaGreatDoorExSz
import Derived.Deep.RegionHeld3
import Derived.Deep.QuietTactic
import Derived.BigQuiet
import Derived.Lib.Strings
import Derived.Test.YthljhiklpopmgaaGreatDoorSpecDistinct
set_option maxHeartbeats 8000000
namespace Go.Proofs.YthljhiklpopmgaaGreatDoor
open Go Go.RowKit
structure Ru where
 name : ByteArray
 con : ByteArray
 vars : List ByteArray
 params : List ByteArray
 body : Ex
def SsIs (w : World) (v : Value) (xs : List ByteArray) (bs : List Nat) : Prop :=
 ∃ A c, v = .slice A xs.length c ∧ xs.length ≤ c ∧ c ≤ 9223372036854775807 ∧ (∀ x ∈ xs, x.size ≤ 9223372036854775807) ∧ ((xs = [] ∧ bs = []) ∨ ∃ g o, A = some ⟨g, o, none⟩ ∧ g < w.heap.size ∧ bs = [g] ∧ ∀ i x, xs[i]? = some x → w.cell? ⟨g, o + i, none⟩ = some (.string x))
theorem SsIs.keeps {w w' : World} {v : Value} {xs : List ByteArray} {bs : List Nat} (h : SsIs w v xs bs) (hk : Keeps w w' bs) : SsIs w' v xs bs := by
 obtain ⟨A, c, e, h1, h2, h3, h4⟩ := h
 refine ⟨A, c, e, h1, h2, h3, ?_⟩
 rcases h4 with h4 | ⟨g, o, e1, h5, rfl, h6⟩
 · exact Or.inl h4
 have hg := hk.2 g (by simp) h5
 exact Or.inr ⟨g, o, e1, Nat.lt_of_lt_of_le h5 hk.1, rfl, fun i x hx => (World.cell?_of_block (w := w) (a := ⟨g, o + i, none⟩) hg).trans (h6 i x hx)⟩
theorem SsIs.below {w w' : World} {v : Value} {xs : List ByteArray} {bs : List Nat} (h : SsIs w v xs bs) (hb : Below w.heap.size w w') : SsIs w' v xs bs := h.keeps (keeps_below hb bs)
theorem add_litRu (g o k : Nat) : (⟨g, o, none⟩ : Addr).add k = ⟨g, o + k, none⟩ := by
 unfold Addr.add
 split <;> simp_all
theorem SsIs.strs {w : World} {A : Option Addr} {n c : Nat} {xs : List ByteArray} {bs : List Nat} (h : SsIs w (.slice A n c) xs bs) : n = xs.length ∧ n ≤ c ∧ c ≤ 9223372036854775807 ∧ Strs w A xs ∧ ∀ x ∈ xs, x.size ≤ 9223372036854775807 := by
 obtain ⟨A', c', e, h1, h2, h3, h4⟩ := h
 cases e
 refine ⟨rfl, h1, h2, ?_, h3⟩
 rcases h4 with ⟨rfl, -⟩ | ⟨g, o, rfl, h5, rfl, h6⟩
 · exact fun i x hx => by simp at hx
 exact fun i x hx => ⟨_, rfl, by rw [add_litRu]; exact h6 i x hx, h5⟩
theorem SsIs.slice {w : World} {v : Value} {xs : List ByteArray} {bs : List Nat} (h : SsIs w v xs bs) : ∃ A c, v = .slice A xs.length c := by
 obtain ⟨A, c, e, -⟩ := h
 exact ⟨A, c, e⟩
def RuIs (w : World) (v : Value) (r : Ru) (bs : List Nat) : Prop :=
 ∃ v1 v2 u b1 b2 b3, v = .agg #[.string r.name, .string r.con, v1, v2, .int .i64 r.body.kind, .string r.body.name, u] ∧ r.name.size ≤ 9223372036854775807 ∧ r.con.size ≤ 9223372036854775807 ∧ bs = b1 ++ (b2 ++ b3) ∧
  SsIs w v1 r.vars b1 ∧ SsIs w v2 r.params b2 ∧ ExIs w (.agg #[.int .i64 r.body.kind, .string r.body.name, u]) r.body b3
theorem RuIs.keeps {w w' : World} {v : Value} {r : Ru} {bs : List Nat} (h : RuIs w v r bs) (hk : Keeps w w' bs) : RuIs w' v r bs := by
 obtain ⟨v1, v2, u, b1, b2, b3, e, h1, h2, rfl, h3, h4, h5⟩ := h
 exact ⟨v1, v2, u, b1, b2, b3, e, h1, h2, rfl, h3.keeps ⟨hk.1, fun x hx => hk.2 x (by simp [hx])⟩, h4.keeps ⟨hk.1, fun x hx => hk.2 x (by simp [hx])⟩, h5.keeps ⟨hk.1, fun x hx => hk.2 x (by simp [hx])⟩⟩
theorem RuIs.below {w w' : World} {v : Value} {r : Ru} {bs : List Nat} (h : RuIs w v r bs) (hb : Below w.heap.size w w') : RuIs w' v r bs := h.keeps (keeps_below hb bs)
structure Cells7 (w : World) (g o : Nat) (x0 x1 x2 x3 x4 x5 x6 : Value) : Prop where
 c0 : w.cell? ⟨g, o, none⟩ = some x0
 c1 : w.cell? ⟨g, o + 1, none⟩ = some x1
 c2 : w.cell? ⟨g, o + 2, none⟩ = some x2
 c3 : w.cell? ⟨g, o + 3, none⟩ = some x3
 c4 : w.cell? ⟨g, o + 4, none⟩ = some x4
 c5 : w.cell? ⟨g, o + 5, none⟩ = some x5
 c6 : w.cell? ⟨g, o + 6, none⟩ = some x6
theorem Cells7.of {w w' : World} {g o : Nat} {x0 x1 x2 x3 x4 x5 x6 : Value} (h : Cells7 w g o x0 x1 x2 x3 x4 x5 x6) (hc : ∀ m, o ≤ m → m < o + 7 → w'.cell? ⟨g, m, none⟩ = w.cell? ⟨g, m, none⟩) : Cells7 w' g o x0 x1 x2 x3 x4 x5 x6 :=
 ⟨(hc _ (by omega) (by omega)).trans h.c0, (hc _ (by omega) (by omega)).trans h.c1, (hc _ (by omega) (by omega)).trans h.c2, (hc _ (by omega) (by omega)).trans h.c3, (hc _ (by omega) (by omega)).trans h.c4, (hc _ (by omega) (by omega)).trans h.c5, (hc _ (by omega) (by omega)).trans h.c6⟩
def RuAt (w : World) (g o : Nat) (r : Ru) (bs : List Nat) : Prop :=
 ∃ v1 v2 u, Cells7 w g o (.string r.name) (.string r.con) v1 v2 (.int .i64 r.body.kind) (.string r.body.name) u ∧ RuIs w (.agg #[.string r.name, .string r.con, v1, v2, .int .i64 r.body.kind, .string r.body.name, u]) r bs
theorem RuAt.same {w w' : World} {g o : Nat} {r : Ru} {bs : List Nat} (h : RuAt w g o r bs) (hc : ∀ m, o ≤ m → m < o + 7 → w'.cell? ⟨g, m, none⟩ = w.cell? ⟨g, m, none⟩) (hk : Keeps w w' bs) : RuAt w' g o r bs := by
 obtain ⟨v1, v2, u, h1, h2⟩ := h
 exact ⟨v1, v2, u, h1.of hc, h2.keeps hk⟩
def RusAt (w : World) (g o : Nat) : Nat → List Ru → List Nat → Prop
 | _, [], bs => bs = []
 | i, r :: l, bs => ∃ b1 b2, bs = b1 ++ b2 ∧ RuAt w g (o + i * 7) r b1 ∧ RusAt w g o (i + 1) l b2
theorem RusAt.same {w w' : World} {g o : Nat} : ∀ (l : List Ru) (j : Nat) (bs : List Nat), RusAt w g o j l bs → (∀ m, m < o + (j + l.length) * 7 → w'.cell? ⟨g, m, none⟩ = w.cell? ⟨g, m, none⟩) → Keeps w w' bs → RusAt w' g o j l bs := by
 intro l
 induction l with
 | nil => intro j bs h _ _; exact h
 | cons e r ih =>
  intro j bs h hc hk
  obtain ⟨b1, b2, rfl, h1, h2⟩ := h
  simp only [List.length_cons] at hc
  exact ⟨b1, b2, rfl, h1.same (fun m hm1 hm2 => hc m (by omega)) ⟨hk.1, fun x hx => hk.2 x (List.mem_append_left _ hx)⟩,
   ih (j + 1) b2 h2 (fun m hm => hc m (by omega)) ⟨hk.1, fun x hx => hk.2 x (List.mem_append_right _ hx)⟩⟩
theorem RusAt.keeps {w w' : World} {g o : Nat} {l : List Ru} {j : Nat} {bs : List Nat} (h : RusAt w g o j l bs) (hg : g < w.heap.size) (hk : Keeps w w' (g :: bs)) : RusAt w' g o j l bs :=
 h.same l j bs (fun m _ => World.cell?_of_block (w := w) (a := ⟨g, m, none⟩) (hk.2 g (by simp) hg)) ⟨hk.1, fun x hx => hk.2 x (by simp [hx])⟩
theorem RusAt.snoc {w : World} {g o : Nat} {e : Ru} {b1 : List Nat} : ∀ (l : List Ru) (j : Nat) (bs : List Nat), RusAt w g o j l bs → RuAt w g (o + (j + l.length) * 7) e b1 → RusAt w g o j (l ++ [e]) (bs ++ b1) := by
 intro l
 induction l with
 | nil =>
  intro j bs h h1
  obtain rfl : bs = [] := h
  exact ⟨b1, [], by simp, by simpa using h1, rfl⟩
 | cons x r ih =>
  intro j bs h h1
  obtain ⟨b2, b3, rfl, h2, h3⟩ := h
  exact ⟨b2, b3 ++ b1, by rw [List.append_assoc], h2, ih (j + 1) b3 h3 (by rw [show j + 1 + r.length = j + (x :: r).length by simp; omega]; exact h1)⟩
theorem RusAt.get {w : World} {g o : Nat} : ∀ (l : List Ru) (j : Nat) (bs : List Nat), RusAt w g o j l bs → ∀ i e, l[i]? = some e → ∃ b1, RuAt w g (o + (j + i) * 7) e b1 ∧ ∀ x ∈ b1, x ∈ bs := by
 intro l
 induction l with
 | nil => intro j bs _ i e h; simp at h
 | cons x r ih =>
  intro j bs h i e he
  obtain ⟨b1, b2, rfl, h1, h2⟩ := h
  cases i with
  | zero =>
   simp at he
   subst he
   exact ⟨b1, h1, fun y hy => List.mem_append_left _ hy⟩
  | succ i =>
   obtain ⟨b3, h3, h4⟩ := ih (j + 1) b2 h2 i e (by simpa using he)
   exact ⟨b3, by rw [show j + (i + 1) = j + 1 + i by omega]; exact h3, fun y hy => List.mem_append_right _ (h4 y hy)⟩
def RsIs (w : World) (v : Value) (l : List Ru) (bs : List Nat) : Prop :=
 ∃ A c, v = .slice A l.length c ∧ l.length ≤ c ∧ c ≤ 9223372036854775807 ∧ ((l = [] ∧ bs = []) ∨ ∃ g' o' bs', A = some ⟨g', o', none⟩ ∧ g' < w.heap.size ∧ bs = g' :: bs' ∧ RusAt w g' o' 0 l bs')
def PrIs (w : World) (v : Value) (l : List Ru) (bs : List Nat) : Prop := ∃ u, v = .agg #[u] ∧ RsIs w u l bs
theorem RsIs.keeps {w w' : World} {v : Value} {l : List Ru} {bs : List Nat} (h : RsIs w v l bs) (hk : Keeps w w' bs) : RsIs w' v l bs := by
 obtain ⟨A, c, e, h1, h2, h4⟩ := h
 refine ⟨A, c, e, h1, h2, ?_⟩
 rcases h4 with h4 | ⟨g, o, bs', e1, h5, rfl, h6⟩
 · exact Or.inl h4
 exact Or.inr ⟨g, o, bs', e1, Nat.lt_of_lt_of_le h5 hk.1, rfl, h6.keeps h5 hk⟩
theorem RsIs.below {w w' : World} {v : Value} {l : List Ru} {bs : List Nat} (h : RsIs w v l bs) (hb : Below w.heap.size w w') : RsIs w' v l bs := h.keeps (keeps_below hb bs)
theorem PrIs.keeps {w w' : World} {v : Value} {l : List Ru} {bs : List Nat} (h : PrIs w v l bs) (hk : Keeps w w' bs) : PrIs w' v l bs := by
 obtain ⟨u, e, h⟩ := h
 exact ⟨u, e, h.keeps hk⟩
theorem PrIs.below {w w' : World} {v : Value} {l : List Ru} {bs : List Nat} (h : PrIs w v l bs) (hb : Below w.heap.size w w') : PrIs w' v l bs := h.keeps (keeps_below hb bs)
theorem RsIs.len {w : World} {A : Option Addr} {n c : Nat} {l : List Ru} {bs : List Nat} (h : RsIs w (.slice A n c) l bs) : n = l.length ∧ n ≤ c ∧ c ≤ 9223372036854775807 := by
 obtain ⟨A', c', e, h1, h2, -⟩ := h
 cases e
 exact ⟨rfl, h1, h2⟩
structure RuleAt (w : World) (A : Option Addr) (l : List Ru) (k : Nat) (g o : Nat) (r : Ru) (v1 v2 u : Value) (b : List Nat) : Prop where
 eq : A = some ⟨g, o, none⟩
 lt : g < w.heap.size
 get : l[k]? = some r
 mem : r ∈ l
 cells : Cells7 w g (o + k * 7) (.string r.name) (.string r.con) v1 v2 (.int .i64 r.body.kind) (.string r.body.name) u
 is : RuIs w (.agg #[.string r.name, .string r.con, v1, v2, .int .i64 r.body.kind, .string r.body.name, u]) r b
theorem RsIs.get {w : World} {A : Option Addr} {n c : Nat} {l : List Ru} {bs : List Nat} (h : RsIs w (.slice A n c) l bs) (k : Nat) (hk : k < l.length) : ∃ g o r v1 v2 u b, RuleAt w A l k g o r v1 v2 u b := by
 obtain ⟨A', c', e, h1, h2, h4⟩ := h
 cases e
 rcases h4 with ⟨rfl, -⟩ | ⟨g, o, bs', rfl, h5, rfl, h6⟩
 · simp at hk
 have hg : l[k]? = some l[k] := List.getElem?_eq_getElem hk
 obtain ⟨b1, ⟨v1, v2, u, h7, h8⟩, -⟩ := h6.get l 0 bs' k _ hg
 rw [Nat.zero_add] at h7
 exact ⟨g, o, l[k], v1, v2, u, b1, rfl, h5, hg, List.getElem_mem hk, h7, h8⟩
theorem RuIs.parts {w : World} {r : Ru} {v1 v2 u : Value} {b : List Nat} (h : RuIs w (.agg #[.string r.name, .string r.con, v1, v2, .int .i64 r.body.kind, .string r.body.name, u]) r b) :
 ∃ b1 b2 b3, b = b1 ++ (b2 ++ b3) ∧ r.name.size ≤ 9223372036854775807 ∧ r.con.size ≤ 9223372036854775807 ∧ SsIs w v1 r.vars b1 ∧ SsIs w v2 r.params b2 ∧ ExIs w (.agg #[.int .i64 r.body.kind, .string r.body.name, u]) r.body b3 := by
 obtain ⟨x1, x2, x3, b1, b2, b3, e, h1, h2, h3, h4, h5, h6⟩ := h
 simp only [Value.agg.injEq, Array.mk.injEq, List.cons.injEq, and_true, true_and] at e
 obtain ⟨rfl, rfl, rfl⟩ := e
 exact ⟨b1, b2, b3, h3, h1, h2, h4, h5, h6⟩
def totN (l : List ByteArray) : Nat := (l.map (·.size)).sum
def ssTot (xs : List ByteArray) : Nat := xs.length + totN xs
def ruTot (r : Ru) : Nat := r.name.size + (r.con.size + (ssTot r.vars + (ssTot r.params + exTot r.body)))
def rusTot : List Ru → Nat
 | [] => 0
 | r :: l => ruTot r + 1 + rusTot l
theorem rusTot_ge : ∀ l : List Ru, l.length ≤ rusTot l := by
 intro l
 induction l with
 | nil => simp
 | cons e r ih => rw [rusTot, List.length_cons]; omega
theorem rusTot_app : ∀ (a b : List Ru), rusTot (a ++ b) = rusTot a + rusTot b := by
 intro a
 induction a with
 | nil => intro b; simp [rusTot]
 | cons x r ih => intro b; rw [List.cons_append, rusTot, rusTot, ih]; omega
theorem take_ru (l : List Ru) (k : Nat) (e : Ru) (h : l[k]? = some e) : l.take (k + 1) = l.take k ++ [e] := by
 obtain ⟨h1, h2⟩ := List.getElem?_eq_some_iff.1 h
 rw [List.take_succ_eq_append_getElem h1, h2]
theorem rusTot_mem : ∀ {l : List Ru} {e : Ru}, e ∈ l → ruTot e + 1 ≤ rusTot l := by
 intro l
 induction l with
 | nil => intro e h; cases h
 | cons x r ih =>
  intro e h
  rw [rusTot]
  rcases List.mem_cons.1 h with rfl | h
  · omega
  have := ih h; omega
def Box7 (W : World) (B : Nat) (T : TypeId) (x0 x1 x2 x3 x4 x5 x6 : Value) : Prop := W.heap[B]? = some (.cells #[x0, x1, x2, x3, x4, x5, x6] T (0, 0))
theorem Box7.cells {W : World} {B : Nat} {T : TypeId} {x0 x1 x2 x3 x4 x5 x6 : Value} (h : Box7 W B T x0 x1 x2 x3 x4 x5 x6) :
 W.cell? ⟨B, 0, none⟩ = some x0 ∧ W.cell? ⟨B, 1, none⟩ = some x1 ∧ W.cell? ⟨B, 2, none⟩ = some x2 ∧ W.cell? ⟨B, 3, none⟩ = some x3 ∧ W.cell? ⟨B, 4, none⟩ = some x4 ∧ W.cell? ⟨B, 5, none⟩ = some x5 ∧ W.cell? ⟨B, 6, none⟩ = some x6 := by
 unfold Box7 at h
 refine ⟨?_, ?_, ?_, ?_, ?_, ?_, ?_⟩ <;> (rw [World.cell?, h]; rfl)
theorem Box7.lt {W : World} {B : Nat} {T : TypeId} {x0 x1 x2 x3 x4 x5 x6 : Value} (h : Box7 W B T x0 x1 x2 x3 x4 x5 x6) : B < W.heap.size := (Array.getElem?_eq_some_iff.1 h).1
theorem Box7.thaw {W : World} {B : Nat} {T : TypeId} {x0 x1 x2 x3 x4 x5 x6 : Value} (h : Box7 W B T x0 x1 x2 x3 x4 x5 x6) (j : Nat) : W.frozen? ⟨B, j, none⟩ = false := by
 unfold Box7 at h
 simp [World.frozen?, h]
theorem box7_new {w W : World} {T : TypeId} {x0 x1 x2 x3 x4 x5 x6 : Value} (hb : Below (w.alloc (.cells #[x0, x1, x2, x3, x4, x5, x6] T)).heap.size (w.alloc (.cells #[x0, x1, x2, x3, x4, x5, x6] T)) W) : Box7 W w.heap.size T x0 x1 x2 x3 x4 x5 x6 :=
 (hb.block _ (by simp)).trans (by show (w.heap.push _)[w.heap.size]? = _; simp)
theorem box_low {w W : World} {o : Obj} (hb : Below (w.alloc o).heap.size (w.alloc o) W) : Below w.heap.size w W := ((Below.refl w.heap.size w).alloc (Nat.le_refl _) o).trans (hb.mono (by simp))
def ruIdx (p : Ru → Bool) : Nat → List Ru → Int
 | _, [] => -1
 | k, r :: l => if p r then (k : Int) else ruIdx p (k + 1) l
theorem ruIdx_here {p : Ru → Bool} {l : List Ru} {k : Nat} {r : Ru} (h : l[k]? = some r) : ruIdx p k (l.drop k) = if p r then (k : Int) else ruIdx p (k + 1) (l.drop (k + 1)) := by
 obtain ⟨h1, h2⟩ := List.getElem?_eq_some_iff.1 h
 rw [List.drop_eq_getElem_cons h1, h2, ruIdx]
theorem ruIdx_spec (p : Ru → Bool) : ∀ (l : List Ru) (k : Nat), (ruIdx p k l = -1 ∧ l.find? p = none) ∨ ∃ j r, ruIdx p k l = ((k + j : Nat) : Int) ∧ l[j]? = some r ∧ l.find? p = some r ∧ p r = true := by
 intro l
 induction l with
 | nil => intro k; exact Or.inl ⟨rfl, rfl⟩
 | cons x t ih =>
  intro k
  cases hx : p x with
  | true => exact Or.inr ⟨0, x, by rw [ruIdx, hx]; simp, rfl, by rw [List.find?_cons, hx], hx⟩
  | false =>
   rcases ih (k + 1) with ⟨h1, h2⟩ | ⟨j, r, h1, h2, h3, h4⟩
   · exact Or.inl ⟨by rw [ruIdx, hx]; exact h1, by rw [List.find?_cons, hx]; exact h2⟩
   exact Or.inr ⟨j + 1, r, by rw [ruIdx, hx]; simp only [Bool.false_eq_true, if_false]; rw [h1]; congr 1; omega, by simpa using h2, by rw [List.find?_cons, hx]; exact h3, h4⟩
def named (s : ByteArray) (r : Ru) : Bool := decide (r.name = s)
def namedC (s c : ByteArray) (r : Ru) : Bool := decide (r.name = s) && decide (r.con = c)
def firstR (l : List Ru) (s : ByteArray) : Int := ruIdx (named s) 0 l
def findR (l : List Ru) (s c : ByteArray) : Int := ruIdx (namedC s c) 0 l
def kindR (l : List Ru) (s : ByteArray) : Int := match l.find? (named s) with
 | none => 0
 | some r => if r.con.size = 0 then 1 else 2
def arityR (l : List Ru) (s : ByteArray) : Int := match l.find? (named s) with
 | none => -1
 | some r => (r.params.length : Int) + (if r.con.size = 0 then 0 else 1)
theorem pbox {w W : World} {u : Value} (hb : Below (w.alloc (.cells #[u] 24)).heap.size (w.alloc (.cells #[u] 24)) W) : W.cell? ⟨w.heap.size, 0, none⟩ = some u := by
 have h : W.heap[w.heap.size]? = some (.cells #[u] 24 (0, 0)) := (hb.block _ (by simp)).trans (by show (w.heap.push _)[w.heap.size]? = _; simp)
 rw [World.cell?, h]; rfl
theorem first_any (l : List Ru) (v : Value) (bs : List Nat) (s : ByteArray) (w : World) (hv : PrIs w v l bs) (hn : l.length ≤ 1099511627776) :
 Calls Tryz.prog 71 #[v, .string s] w (RetPost (.int .i64 (firstR l s)) w) := by
 obtain ⟨u, rfl, hu⟩ := hv
 obtain ⟨A, c, rfl, hc1, hc2, -⟩ := id hu
 have HU := zH (hu.below ((Below.refl w.heap.size w).alloc (Nat.le_refl _) (.cells #[.slice A l.length c] 24)))
 obtain ⟨m, hm⟩ : ∃ m, m = l.length := ⟨_, rfl⟩
 rw [← hm] at hc1 HU hn ⊢
 have HM := zH hm
 have HB0 := zH ((Below.refl w.heap.size w).alloc (Nat.le_refl _) (.cells #[.slice A m c] 24))
 have HF := zH (show firstR l s = ruIdx (named s) 0 (l.drop 0) from rfl)
 have hbx := pbox (w := w) (u := .slice A m c) (Below.refl _ _)
 clear hu hm
 obtain ⟨W0, hW0⟩ : ∃ W0, W0 = w.alloc (.cells #[.slice A m c] 24) := ⟨_, rfl⟩
 rw [← hW0] at HU HB0 hbx
 have HW0 := zH hW0
 clear hW0
 go_enter Tryz.func71, Tryz.ntmps71
 go_wp2_with fail
 rw [← HW0.out]
 go_loopw [5] (fun i wr => ∃ (k : Nat), k ≤ m ∧ i = .int .i64 (k : Int) ∧ wr = W0 ∧ Hid (firstR l s = ruIdx (named s) k (l.drop k))) (fun i _ => m - (intOf i).toNat)
 case atStart => exact ⟨0, Nat.zero_le _, rfl, rfl, HF⟩
 case round =>
  obtain ⟨k, hk, rfl, rfl, HK⟩ := hrel
  by_cases hlt : k < m
  · obtain ⟨g, o, r, v1, v2, y, b, hA⟩ := HU.out.get k (by rw [← HM.out]; exact hlt)
    obtain rfl := hA.eq
    have c0 := hA.cells.c0
    have HG := zH (ruIdx_here (p := named s) hA.get)
    clear hA
    by_cases hx : r.name = s
    · have hbe := beq_yes hx
      have HE := zH (show firstR l s = (k : Int) by rw [HK.out, HG.out]; unfold named; rw [decide_eq_true hx]; rfl)
      clear hx
      go_wp2
      go_ret
      exact ⟨by rw [HE.out]; rfl, HB0.out⟩
    have hbe := beq_no hx
    have HE := zH (show firstR l s = ruIdx (named s) (k + 1) (l.drop (k + 1)) by rw [HK.out, HG.out]; unfold named; rw [decide_eq_false hx]; rfl)
    clear hx
    go_wp2
    go_roundw
    case rel => exact ⟨k + 1, by omega, by go_num, by trivial, HE⟩
    case measure => simp [intOf]; omega
  have HE := zH (show firstR l s = -1 by rw [HK.out, List.drop_eq_nil_of_le (by rw [← HM.out]; omega)]; rfl)
  go_wp2
  go_ret
  exact ⟨by rw [HE.out]; rfl, HB0.out⟩
theorem find_any (l : List Ru) (v : Value) (bs : List Nat) (s t : ByteArray) (w : World) (hv : PrIs w v l bs) (hn : l.length ≤ 1099511627776) :
 Calls Tryz.prog 70 #[v, .string s, .string t] w (RetPost (.int .i64 (findR l s t)) w) := by
 obtain ⟨u, rfl, hu⟩ := hv
 obtain ⟨A, c, rfl, hc1, hc2, -⟩ := id hu
 have HU := zH (hu.below ((Below.refl w.heap.size w).alloc (Nat.le_refl _) (.cells #[.slice A l.length c] 24)))
 obtain ⟨m, hm⟩ : ∃ m, m = l.length := ⟨_, rfl⟩
 rw [← hm] at hc1 HU hn ⊢
 have HM := zH hm
 have HB0 := zH ((Below.refl w.heap.size w).alloc (Nat.le_refl _) (.cells #[.slice A m c] 24))
 have HF := zH (show findR l s t = ruIdx (namedC s t) 0 (l.drop 0) from rfl)
 have hbx := pbox (w := w) (u := .slice A m c) (Below.refl _ _)
 clear hu hm
 obtain ⟨W0, hW0⟩ : ∃ W0, W0 = w.alloc (.cells #[.slice A m c] 24) := ⟨_, rfl⟩
 rw [← hW0] at HU HB0 hbx
 have HW0 := zH hW0
 clear hW0
 go_enter Tryz.func70, Tryz.ntmps70
 go_wp2_with fail
 rw [← HW0.out]
 go_loopw [7] (fun i wr => ∃ (k : Nat), k ≤ m ∧ i = .int .i64 (k : Int) ∧ wr = W0 ∧ Hid (findR l s t = ruIdx (namedC s t) k (l.drop k))) (fun i _ => m - (intOf i).toNat)
 case atStart => exact ⟨0, Nat.zero_le _, rfl, rfl, HF⟩
 case round =>
  obtain ⟨k, hk, rfl, rfl, HK⟩ := hrel
  by_cases hlt : k < m
  · obtain ⟨g, o, r, v1, v2, y, b, hA⟩ := HU.out.get k (by rw [← HM.out]; exact hlt)
    obtain rfl := hA.eq
    have c0 := hA.cells.c0
    have c1 := hA.cells.c1
    have HG := zH (ruIdx_here (p := namedC s t) hA.get)
    clear hA
    by_cases hx : r.name = s
    · have hbe := beq_yes hx
      by_cases hy : r.con = t
      · have hbc := beq_yes hy
        have HE := zH (show findR l s t = (k : Int) by rw [HK.out, HG.out]; unfold namedC; rw [decide_eq_true hx, decide_eq_true hy]; rfl)
        clear hx hy
        go_wp2
        go_ret
        exact ⟨by rw [HE.out]; rfl, HB0.out⟩
      have hbc := beq_no hy
      have HE := zH (show findR l s t = ruIdx (namedC s t) (k + 1) (l.drop (k + 1)) by rw [HK.out, HG.out]; unfold namedC; rw [decide_eq_false hy, Bool.and_false]; rfl)
      clear hx hy
      go_wp2
      go_roundw
      case rel => exact ⟨k + 1, by omega, by go_num, by trivial, HE⟩
      case measure => simp [intOf]; omega
    have hbe := beq_no hx
    have HE := zH (show findR l s t = ruIdx (namedC s t) (k + 1) (l.drop (k + 1)) by rw [HK.out, HG.out]; unfold namedC; rw [decide_eq_false hx, Bool.false_and]; rfl)
    clear hx
    go_wp2
    go_roundw
    case rel => exact ⟨k + 1, by omega, by go_num, by trivial, HE⟩
    case measure => simp [intOf]; omega
  have HE := zH (show findR l s t = -1 by rw [HK.out, List.drop_eq_nil_of_le (by rw [← HM.out]; omega)]; rfl)
  go_wp2
  go_ret
  exact ⟨by rw [HE.out]; rfl, HB0.out⟩
theorem first_at (l : List Ru) (s : ByteArray) : (firstR l s = -1 ∧ l.find? (named s) = none) ∨ ∃ (j : Nat) (r : Ru), firstR l s = (j : Int) ∧ l[j]? = some r ∧ l.find? (named s) = some r := by
 unfold firstR
 rcases ruIdx_spec (named s) l 0 with ⟨h1, h2⟩ | ⟨j, r, h1, h2, h3, -⟩
 · exact Or.inl ⟨h1, h2⟩
 exact Or.inr ⟨j, r, by rw [h1, Nat.zero_add], h2, h3⟩
theorem empty_str (x : ByteArray) : x.toList.isEmpty = decide (x.size = 0) := by
 rw [Lib.toList_data]
 have h : x.data.toList.length = x.size := Array.length_toList
 cases hx : x.data.toList with
 | nil => rw [hx] at h; simp at h; simp [← h]
 | cons a t => rw [hx] at h; simp at h; simp [← h]
theorem bitR (b : Bool) (w : World) : Calls Tryz.prog 61 #[.bool b] w fun e w' => e = .returned (.int .i64 (if b then 1 else 0)) ∧ w' = w := by
 cases b
 · go_enter Tryz.func61, Tryz.ntmps61
   go_wp2
   go_ret
   exact ⟨rfl, rfl⟩
 go_enter Tryz.func61, Tryz.ntmps61
 go_wp2
 go_ret
 exact ⟨rfl, rfl⟩
theorem arity_any (l : List Ru) (v : Value) (bs : List Nat) (s : ByteArray) (w : World) (hv : PrIs w v l bs) (hn : rusTot l ≤ 1048576) :
 Calls Tryz.prog 122 #[v, .string s] w (RetPost (.int .i64 (arityR l s)) w) := by
 have hll := rusTot_ge l
 have HC := zH (fun (W : World) (hb : Below w.heap.size w W) => first_any l v bs s W (hv.below hb) (by omega))
 obtain ⟨u, rfl, hu⟩ := hv
 obtain ⟨A, c, rfl, hc1, hc2, -⟩ := id hu
 have HU := zH (fun (W : World) (hb : Below w.heap.size w W) => hu.below hb)
 obtain ⟨m, hm⟩ : ∃ m, m = l.length := ⟨_, rfl⟩
 rw [← hm] at hc1 HU HC hll ⊢
 have HM := zH hm
 have HB0 := zH ((Below.refl w.heap.size w).alloc (Nat.le_refl _) (.cells #[.slice A m c] 24))
 clear hu hm
 rcases first_at l s with ⟨h1, h2⟩ | ⟨j, r, h1, h2, h3⟩
 · have HE := zH (show arityR l s = -1 by unfold arityR; rw [h2])
   rw [h1] at HC
   clear h1 h2
   go_enter Tryz.func122, Tryz.ntmps122
   go_wp2_with (go_at_call 71; refine (HC.out _ HB0.out).mono ?_; rintro e w1 ⟨rfl, hb1⟩; have HB1 := zH (HB0.out.trans (hb1.mono HB0.out.size)); clear hb1)
   go_ret
   exact ⟨by rw [HE.out]; rfl, HB1.out⟩
 have HE := zH (show arityR l s = (r.params.length : Int) + (if r.con.size = 0 then 0 else 1) by unfold arityR; rw [h3])
 rw [h1] at HC
 have HJ := zH h2
 have hj := (List.getElem?_eq_some_iff.1 h2).1
 have hjm : (j : Int) < (m : Int) := by have := HM.out; omega
 have hcz := empty_str r.con
 clear h1 h2 h3
 go_enter Tryz.func122, Tryz.ntmps122
 go_wp2_with fail
 go_at_call 71
 refine (HC.out _ HB0.out).mono ?_
 rintro e w1 ⟨rfl, hb1⟩
 have hbx := pbox hb1
 have HB1 := zH (HB0.out.trans (hb1.mono HB0.out.size))
 obtain ⟨g, o, r2, v1, v2, y, b, hA⟩ := (HU.out w1 HB1.out).get j hj
 obtain rfl := hA.eq
 obtain rfl : r = r2 := Option.some.inj (HJ.out.symm.trans hA.get)
 have hsz := rusTot_mem hA.mem
 obtain ⟨b1, b2, b3, -, -, -, -, hp2, -⟩ := hA.is.parts
 obtain ⟨A2, c2', rfl⟩ := hp2.slice
 have c1 := hA.cells.c1
 have c3 := hA.cells.c3
 have hpl : r.params.length ≤ 1048576 := by unfold ruTot ssTot at hsz; omega
 clear hA hb1 hj hp2 hsz
 obtain ⟨q, hq⟩ : ∃ q, q = r.params.length := ⟨_, rfl⟩
 rw [← hq] at hpl HE c3
 have h0j : (0 : Int) ≤ (j : Int) := by omega
 clear hq
 have HBT := zH (fun (b : Bool) (W : World) => bitR b W)
 by_cases hz : r.con.size = 0
 · rw [decide_eq_true hz] at hcz
   rw [if_pos hz] at HE
   have hadd : IntKind.i64.wrap ((q : Int) + 0) = (q : Int) := by rw [Int.add_zero]; exact IntWalk.i64_in _ (by omega)
   have hneg : (!r.con.toList.isEmpty) = false := by rw [hcz]; rfl
   clear hz
   go_wp2_with fail
   go_quiet (first | (go_at_call 61; refine Calls.quiet_of_same (HBT.out _ _)))
   go_wp2
   go_ret
   exact ⟨by rw [HE.out]; simp, HB1.out.trans ⟨rfl, rfl, rfl, Nat.le_refl _, fun _ _ => rfl⟩⟩
 rw [decide_eq_false hz] at hcz
 rw [if_neg hz] at HE
 have hadd : IntKind.i64.wrap ((q : Int) + 1) = (q : Int) + 1 := IntWalk.i64_in _ (by omega)
 have hneg : (!r.con.toList.isEmpty) = true := by rw [hcz]; rfl
 clear hz
 go_wp2_with fail
 go_quiet (first | (go_at_call 61; refine Calls.quiet_of_same (HBT.out _ _)))
 go_wp2
 go_ret
 exact ⟨by rw [HE.out]; rfl, HB1.out.trans ⟨rfl, rfl, rfl, Nat.le_refl _, fun _ _ => rfl⟩⟩
def isNm (s : ByteArray) : Bool := nameL 97 122 s.data.toList
def allNm (xs : List ByteArray) : Bool := xs.all isNm
def within (xs all : List ByteArray) : Bool := xs.all (fun s => decide (0 ≤ idx all s))
theorem allNm_here {xs : List ByteArray} {k : Nat} {x : ByteArray} (h : xs[k]? = some x) : allNm (xs.drop k) = (isNm x && allNm (xs.drop (k + 1))) := by
 obtain ⟨h1, h2⟩ := List.getElem?_eq_some_iff.1 h
 rw [List.drop_eq_getElem_cons h1, h2, allNm, List.all_cons]; rfl
theorem within_here {xs all : List ByteArray} {k : Nat} {x : ByteArray} (h : xs[k]? = some x) : within (xs.drop k) all = (decide (0 ≤ idx all x) && within (xs.drop (k + 1)) all) := by
 obtain ⟨h1, h2⟩ := List.getElem?_eq_some_iff.1 h
 rw [List.drop_eq_getElem_cons h1, h2, within, List.all_cons]; rfl
theorem names_any (A : Option Addr) (xs : List ByteArray) (cap : Nat) (w : World) (hs : Strs w A xs) (hn : xs.length ≤ 1099511627776) (hz : ∀ x ∈ xs, x.size ≤ 1048576) :
 Calls Tryz.prog 41 #[.slice A xs.length cap] w fun e w' => e = .returned (.bool (allNm xs)) ∧ w = w' := by
 obtain ⟨n, hm⟩ : ∃ n, n = xs.length := ⟨_, rfl⟩
 rw [← hm] at hn ⊢
 have HN := zH hm
 have HS := zH hs
 have HZ := zH hz
 clear hs hm hz
 go_enter Tryz.func41, Tryz.ntmps41
 go_wp2_with fail
 go_loopw [3] (fun i wr => ∃ (k : Nat), k ≤ n ∧ i = .int .i64 (k : Int) ∧ Hid (allNm xs = allNm (xs.drop k)) ∧ wr = w) (fun i _ => n - (intOf i).toNat)
 case atStart => exact ⟨0, Nat.zero_le _, rfl, zH rfl, rfl⟩
 case round =>
  obtain ⟨k, hk, rfl, HK, rfl⟩ := hrel
  by_cases hlt : k < n
  · obtain ⟨a, e1, hca, hla⟩ := HS.out.at_ k (by rw [← HN.out]; exact hlt)
    have HG := zH (allNm_here (xs := xs) (k := k) (List.getElem?_eq_getElem (by rw [← HN.out]; exact hlt)))
    have hzx := HZ.out (xs[k]'(by rw [← HN.out]; exact hlt)) (List.getElem_mem _)
    subst e1
    generalize xs[k]'(by rw [← HN.out]; exact hlt) = x at *
    have HC := zH (isname_any x wr hzx)
    have hk0 : (0 : Int) ≤ (k : Int) := by omega
    have hkn : (k : Int) < (n : Int) := by omega
    cases hnm : isNm x
    · have HE := zH (show allNm xs = false by rw [HK.out, HG.out, hnm, Bool.false_and])
      have HNM := zH (show nameL 97 122 x.data.toList = false from hnm)
      clear hnm
      go_wp2_with (go_at_call 39; refine HC.out.mono ?_; rintro r w2 ⟨rfl, rfl⟩; rw [HNM.out])
      go_ret
      exact ⟨by rw [HE.out]; rfl, rfl⟩
    have HE := zH (show allNm xs = allNm (xs.drop (k + 1)) by rw [HK.out, HG.out, hnm, Bool.true_and])
    have HNM := zH (show nameL 97 122 x.data.toList = true from hnm)
    clear hnm
    go_wp2_with (go_at_call 39; refine HC.out.mono ?_; rintro r w2 ⟨rfl, rfl⟩; rw [HNM.out])
    go_roundw
    case rel => exact ⟨k + 1, by omega, by go_num, HE, trivial⟩
    case measure => simp [intOf]; omega
  have HE := zH (show allNm xs = true by rw [HK.out, List.drop_eq_nil_of_le (by rw [← HN.out]; omega)]; rfl)
  go_wp2
  go_ret
  exact ⟨by rw [HE.out]; rfl, rfl⟩
theorem within_any (A B : Option Addr) (xs ys : List ByteArray) (cap cap2 : Nat) (w : World) (hs : Strs w A xs) (hs2 : Strs w B ys) (hn : xs.length ≤ 1099511627776) (hm : ys.length ≤ 1099511627776) :
 Calls Tryz.prog 68 #[.slice A xs.length cap, .slice B ys.length cap2] w fun e w' => e = .returned (.bool (within xs ys)) ∧ w = w' := by
 obtain ⟨n, hl⟩ : ∃ n, n = xs.length := ⟨_, rfl⟩
 rw [← hl] at hn ⊢
 have HN := zH hl
 have HS := zH hs
 have HC := zH (fun (s : ByteArray) => idx_any B ys cap2 s w hs2 (by omega))
 generalize hq : ys.length = q at *
 clear hs hs2 hl hm hq
 go_enter Tryz.func68, Tryz.ntmps68
 go_wp2_with fail
 go_loopw [5] (fun i wr => ∃ (k : Nat), k ≤ n ∧ i = .int .i64 (k : Int) ∧ Hid (within xs ys = within (xs.drop k) ys) ∧ wr = w) (fun i _ => n - (intOf i).toNat)
 case atStart => exact ⟨0, Nat.zero_le _, rfl, zH rfl, rfl⟩
 case round =>
  obtain ⟨k, hk, rfl, HK, rfl⟩ := hrel
  by_cases hlt : k < n
  · obtain ⟨a, e1, hca, hla⟩ := HS.out.at_ k (by rw [← HN.out]; exact hlt)
    have HG := zH (within_here (xs := xs) (all := ys) (k := k) (List.getElem?_eq_getElem (by rw [← HN.out]; exact hlt)))
    subst e1
    generalize xs[k]'(by rw [← HN.out]; exact hlt) = x at *
    have hk0 : (0 : Int) ≤ (k : Int) := by omega
    have hkn : (k : Int) < (n : Int) := by omega
    have HCX := zH (HC.out x)
    by_cases hx : 0 ≤ idx ys x
    · have HE := zH (show within xs ys = within (xs.drop (k + 1)) ys by rw [HK.out, HG.out, decide_eq_true hx, Bool.true_and])
      generalize idx ys x = z at *
      go_wp2_with (go_at_call 66; refine HCX.out.mono ?_; rintro r w2 ⟨rfl, rfl⟩)
      go_roundw
      case rel => exact ⟨k + 1, by omega, by go_num, HE, trivial⟩
      case measure => simp [intOf]; omega
    have HE := zH (show within xs ys = false by rw [HK.out, HG.out, decide_eq_false hx, Bool.false_and])
    generalize idx ys x = z at *
    have hx2 : z < 0 := by omega
    go_wp2_with (go_at_call 66; refine HCX.out.mono ?_; rintro r w2 ⟨rfl, rfl⟩)
    go_ret
    exact ⟨by rw [HE.out]; rfl, rfl⟩
  have HE := zH (show within xs ys = true by rw [HK.out, List.drop_eq_nil_of_le (by rw [← HN.out]; omega)]; rfl)
  go_wp2
  go_ret
  exact ⟨by rw [HE.out]; rfl, rfl⟩
end Go.Proofs.YthljhiklpopmgaaGreatDoor
