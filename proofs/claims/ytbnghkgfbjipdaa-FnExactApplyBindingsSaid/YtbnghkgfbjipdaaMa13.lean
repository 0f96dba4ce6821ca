/- A copy under way: rows whose last parts are done, one row hanging in the open place of the next. No condition. Maps that hold the first one of a list at each key; keys that are strings, or structs of two strings. No condition. The contract of the program's own (*copying).replaced: what stands for a part of an expression. No condition. -/
import Derived.Test.YtbnghkgfbjipdaaMa09
import Derived.Test.YtbnghkgfbjipdaaMa04
import Derived.Test.YtbnghkgfbjipdaaMa01
import Derived.Test.YtbnghkgfbjipdaaMa12
namespace Go.Proofs.Ytbnghkgfbjipdaa
open Go Go.RowKit

/-- A place that holds an expression in memory that no string shares. -/
abbrev Pt (wo : World) : Type := { x : Nat × Nat × Ex × List Nat // ExAt wo x.1 x.2.1 x.2.2.1 x.2.2.2 ∧ x.1 < wo.heap.size ∧ ∀ z ∈ x.2.2.2, FreeB wo z }
section
variable {wo : World}
def Pt.ex (x : Pt wo) : Ex := x.1.2.2.1
def Pt.adr (x : Pt wo) : Addr := ⟨x.1.1, x.1.2.1, none⟩
theorem kids_pts {g o : Nat} (hg : g < wo.heap.size) : ∀ (l : List Ex) (j : Nat) (bs : List Nat), ExsAt wo g o j l bs → (∀ z ∈ bs, FreeB wo z) → ∃ ks : List (Pt wo), ks.map Pt.ex = l ∧ ∀ (i : Nat) (k : Pt wo), ks[i]? = some k → k.adr = ⟨g, o + (j + i) * 3, none⟩ := by
  intro l
  induction l with
  | nil => intro j bs _ _; exact ⟨[], rfl, fun i k h => by simp at h⟩
  | cons e r ih =>
    intro j bs h hF
    rw [ExsAt] at h
    obtain ⟨b1, b2, rfl, h1, h2⟩ := h
    obtain ⟨ks, e1, e2⟩ := ih (j + 1) b2 h2 (fun z hz => hF z (by simp [hz]))
    refine ⟨⟨(g, o + j * 3, e, b1), h1, hg, fun z hz => hF z (by simp [hz])⟩ :: ks, by rw [List.map_cons, e1]; rfl, fun i k hi => ?_⟩
    cases i with
    | zero =>
      simp at hi
      rw [← hi]
      rfl
    | succ i =>
      rw [e2 i k (by simpa using hi)]
      congr 2
      omega
theorem SlIs.pts {A : Option Addr} {q c : Nat} {l : List Ex} {bs : List Nat} (h : SlIs wo (.slice A q c) l bs) (hF : ∀ z ∈ bs, FreeB wo z) : q = l.length ∧ (l = [] ∨ ∃ g o, A = some ⟨g, o, none⟩ ∧ g < wo.heap.size ∧ FreeB wo g ∧ ∃ ks : List (Pt wo), ks.map Pt.ex = l ∧ ∀ (i : Nat) (k : Pt wo), ks[i]? = some k → k.adr = ⟨g, o + i * 3, none⟩) := by
  refine ⟨h.len.1, ?_⟩
  obtain ⟨A', c', e1, h1, h2, h3⟩ := h
  cases e1
  rcases h3 with ⟨rfl, -⟩ | ⟨g, o, bs', rfl, hb, rfl, h4⟩
  · exact Or.inl rfl
  · obtain ⟨ks, e1, e2⟩ := kids_pts hb l 0 bs' h4 (fun z hz => hF z (by simp [hz]))
    exact Or.inr ⟨g, o, rfl, hb, hF g (by simp), ks, e1, fun i k hi => by rw [e2 i k hi, Nat.zero_add]⟩
theorem Pt.parts (x : Pt wo) : ∃ A c bs, wo.cell? ⟨x.1.1, x.1.2.1, none⟩ = some (.int .i64 x.ex.kind) ∧ wo.cell? ⟨x.1.1, x.1.2.1 + 1, none⟩ = some (.string x.ex.name) ∧ wo.cell? ⟨x.1.1, x.1.2.1 + 2, none⟩ = some (.slice A x.ex.args.length c) ∧ ExIs wo (.agg #[.int .i64 x.ex.kind, .string x.ex.name, .slice A x.ex.args.length c]) x.ex bs ∧ ∀ z ∈ bs, FreeB wo z := by
  obtain ⟨u, c0, c1, c2, h⟩ := x.2.1.is
  obtain ⟨u', e1, hs, A, c, e2, h1, h2, h3⟩ := id h
  simp only [Value.agg.injEq, Array.mk.injEq, List.cons.injEq, and_true, true_and] at e1
  subst e1; subst e2
  exact ⟨A, c, _, c0, c1, c2, h, x.2.2.2⟩

/-- A part that is still to be copied: its place, and whether it was inserted. -/
abbrev Un (wo : World) : Type := Pt wo × Bool
def resU (f : ByteArray → Option Ex) (u : Un wo) : Ex := resE f u.1.ex u.2
def lay (b : Bool) : Int := if b then 1 else 0
theorem lay_eq (a b : Bool) : (lay a = lay b) ↔ a = b := by cases a <;> cases b <;> simp [lay]

/-- A row of expressions that is plain memory. -/
def TyE (w : World) (x : Nat) : Prop := ∃ cs, w.heap[x]? = some (.cells cs 26 (0, 0))
def TyN (w : World) (x n : Nat) : Prop := ∃ cs : Array Value, w.heap[x]? = some (.cells cs 26 (0, 0)) ∧ cs.size = n
theorem TyN.ty {w : World} {x n : Nat} (h : TyN w x n) : TyE w x := by obtain ⟨cs, h, -⟩ := h; exact ⟨cs, h⟩
theorem TyE.lt {w : World} {x : Nat} (h : TyE w x) : x < w.heap.size := by obtain ⟨cs, h⟩ := h; exact (Array.getElem?_eq_some_iff.1 h).1
theorem TyE.free {w : World} {x : Nat} (h : TyE w x) (o : Nat) : w.frozen? ⟨x, o, none⟩ = false := by
  obtain ⟨cs, h⟩ := h
  simp [World.frozen?, h]
theorem TyN.cell {w : World} {x n : Nat} (h : TyN w x n) {i : Nat} (hi : i < n) : ∃ u, w.cell? ⟨x, i, none⟩ = some u := by
  obtain ⟨cs, h, hs⟩ := h
  exact ⟨cs[i], by simp [World.cell?, h, hs, hi]⟩
/-- Of the rows of expressions only those of S have turned. -/
structure EF (S : List Nat) (w w' : World) : Prop where
  size : w.heap.size ≤ w'.heap.size
  block : ∀ x, x ∉ S → TyE w x → w'.heap[x]? = w.heap[x]?
theorem EF.refl (S : List Nat) (w : World) : EF S w w := ⟨Nat.le_refl _, fun _ _ _ => rfl⟩
theorem EF.ty {S : List Nat} {w w' : World} (h : EF S w w') {x : Nat} (hx : x ∉ S) (ht : TyE w x) : TyE w' x := by
  obtain ⟨cs, hc⟩ := id ht
  exact ⟨cs, (h.block x hx ht).trans hc⟩
theorem EF.tyn {S : List Nat} {w w' : World} (h : EF S w w') {x n : Nat} (hx : x ∉ S) (ht : TyN w x n) : TyN w' x n := by
  obtain ⟨cs, hc, hs⟩ := id ht
  exact ⟨cs, (h.block x hx ht.ty).trans hc, hs⟩
theorem EF.trans {S : List Nat} {a b c : World} (h : EF S a b) (k : EF S b c) : EF S a c :=
  ⟨Nat.le_trans h.size k.size, fun x hx ht => (k.block x hx (h.ty hx ht)).trans (h.block x hx ht)⟩
theorem EF.more {S T : List Nat} {a b : World} (h : EF S a b) (hs : ∀ x ∈ S, x ∈ T) : EF T a b := ⟨h.size, fun x hx => h.block x (fun k => hx (hs x k))⟩
theorem EF.keeps {S bs : List Nat} {w w' : World} (h : EF S w w') (hb : ∀ x ∈ bs, x ∉ S ∧ TyE w x) : Keeps w w' bs := ⟨h.size, fun x hx _ => h.block x (hb x hx).1 (hb x hx).2⟩
theorem EF.cell {S : List Nat} {w w' : World} (h : EF S w w') {x : Nat} (hx : x ∉ S) (ht : TyE w x) (i : Nat) : w'.cell? ⟨x, i, none⟩ = w.cell? ⟨x, i, none⟩ := World.cell?_of_block (w := w) (a := ⟨x, i, none⟩) (h.block x hx ht)
theorem EF.of_below {w w' : World} (h : Below w.heap.size w w') (S : List Nat) : EF S w w' := ⟨h.size, fun x _ ht => h.block x ht.lt⟩
theorem EF.drew {w : World} (S : List Nat) : EF S w w.drew := ⟨Nat.le_refl _, fun _ _ _ => rfl⟩
/-- A change of one block that is no row of expressions. -/
theorem EF.one {w w' : World} {b : Nat} (hb : ¬ TyE w b) (hs : w.heap.size ≤ w'.heap.size) (h : ∀ k, k < w.heap.size → k ≠ b → w'.heap[k]? = w.heap[k]?) (S : List Nat) : EF S w w' :=
  ⟨hs, fun x _ ht => h x ht.lt (fun e => hb (e ▸ ht))⟩

/-- Three cells stored. -/
def tri (W : World) (B o : Nat) (x0 x1 x2 : Value) : World := ((W.setCell ⟨B, o, none⟩ x0).setCell ⟨B, o + 1, none⟩ x1).setCell ⟨B, o + 2, none⟩ x2
theorem tri_size (W : World) (B o : Nat) (x0 x1 x2 : Value) : (tri W B o x0 x1 x2).heap.size = W.heap.size := by simp [tri, World.setCell]
theorem tri_other (W : World) (B o : Nat) (x0 x1 x2 : Value) (k : Nat) (h : k ≠ B) : (tri W B o x0 x1 x2).heap[k]? = W.heap[k]? := by
  unfold tri
  exact ((Below.heap_setCell _ _ _ k h).trans (Below.heap_setCell _ _ _ k h)).trans (Below.heap_setCell _ _ _ k h)
theorem tri_ef (W : World) (B o : Nat) (x0 x1 x2 : Value) : EF [B] W (tri W B o x0 x1 x2) := ⟨by rw [tri_size]; exact Nat.le_refl _, fun x hx _ => tri_other W B o x0 x1 x2 x (by simpa using hx)⟩
theorem tyn_set {W : World} {B n : Nat} (h : TyN W B n) (o : Nat) (u : Value) : TyN (W.setCell ⟨B, o, none⟩ u) B n := by
  obtain ⟨cs, h, hs⟩ := h
  exact ⟨cs.setIfInBounds o u, by simp [World.setCell, Array.getElem?_modify, h], by simp [hs]⟩
theorem tri_tyn {W : World} {B n : Nat} (h : TyN W B n) (o : Nat) (x0 x1 x2 : Value) : TyN (tri W B o x0 x1 x2) B n := tyn_set (tyn_set (tyn_set h _ _) _ _) _ _
theorem tri_cells {W : World} {B n o : Nat} (h : TyN W B n) (ho : o + 3 ≤ n) (x0 x1 x2 : Value) : (tri W B o x0 x1 x2).cell? ⟨B, o, none⟩ = some x0 ∧ (tri W B o x0 x1 x2).cell? ⟨B, o + 1, none⟩ = some x1 ∧ (tri W B o x0 x1 x2).cell? ⟨B, o + 2, none⟩ = some x2 := by
  obtain ⟨u0, h0⟩ := h.cell (i := o) (by omega)
  obtain ⟨u1, h1⟩ := h.cell (i := o + 1) (by omega)
  obtain ⟨u2, h2⟩ := h.cell (i := o + 2) (by omega)
  unfold tri
  refine ⟨?_, ?_, ?_⟩
  · rw [set_other _ _ _ _ _ (by omega), set_other _ _ _ _ _ (by omega)]
    exact World.cell?_setCell_same _ _ _ h0
  · rw [set_other _ _ _ _ _ (by omega)]
    exact World.cell?_setCell_same _ _ _ (u := u1) (by rw [set_other _ _ _ _ _ (by omega)]; exact h1)
  · exact World.cell?_setCell_same _ _ _ (u := u2) (by rw [set_other _ _ _ _ _ (by omega), set_other _ _ _ _ _ (by omega)]; exact h2)
theorem tri_far (W : World) (B o : Nat) (x0 x1 x2 : Value) (m : Nat) (h : m < o ∨ o + 3 ≤ m) : (tri W B o x0 x1 x2).cell? ⟨B, m, none⟩ = W.cell? ⟨B, m, none⟩ := by
  unfold tri
  rw [set_other _ _ _ _ _ (by omega), set_other _ _ _ _ _ (by omega), set_other _ _ _ _ _ (by omega)]

/-- A row under way: its block, what it is to hold, the parts of it that are still open. -/
structure Lev (wo : World) where
  b : Nat
  l : List Ex
  its : List (Un wo)
/-- Beyond the open parts, from index j on, the row is done. -/
def DoneAt (w : World) (n0 b j : Nat) (len : Nat) (t : List Ex) (hi : Nat) (bs : List Nat) : Prop :=
  n0 ≤ b ∧ b < hi ∧ TyN w b (len * 3) ∧ ExsAt w b 0 j t bs ∧ bs.Nodup ∧ (∀ x ∈ bs, b < x ∧ x < hi ∧ TyE w x) ∧ len ≤ 9223372036854775807
theorem DoneAt.ef {S : List Nat} {w w' : World} {n0 b j len hi : Nat} {t : List Ex} {bs : List Nat} (h : DoneAt w n0 b j len t hi bs) (he : EF S w w') (hS : ∀ x, x < hi → x ∉ S) : DoneAt w' n0 b j len t hi bs := by
  obtain ⟨h1, h2, h3, h4, h5, h6, h7⟩ := h
  refine ⟨h1, h2, he.tyn (hS b h2) h3, ?_, h5, fun x hx => ⟨(h6 x hx).1, (h6 x hx).2.1, he.ty (hS x (h6 x hx).2.1) (h6 x hx).2.2⟩, h7⟩
  exact (ex_keeps _).2 t (Nat.le_refl _) w w' b 0 j bs h4 h3.ty.lt (he.keeps (fun x hx => by
    rcases List.mem_cons.1 hx with rfl | hx
    · exact ⟨hS x h2, h3.ty⟩
    · exact ⟨hS x (h6 x hx).2.1, (h6 x hx).2.2⟩))
theorem DoneAt.up {w : World} {n0 b j len hi hi' : Nat} {t : List Ex} {bs : List Nat} (h : DoneAt w n0 b j len t hi bs) (hh : hi ≤ hi') : DoneAt w n0 b j len t hi' bs := by
  obtain ⟨h1, h2, h3, h4, h5, h6, h7⟩ := h
  exact ⟨h1, Nat.lt_of_lt_of_le h2 hh, h3, h4, h5, fun x hx => ⟨(h6 x hx).1, Nat.lt_of_lt_of_le (h6 x hx).2.1 hh, (h6 x hx).2.2⟩, h7⟩
/-- The three cells of the open place in which the next row hangs. -/
def HoleAt (w : World) (b p : Nat) (k : Int) (s : ByteArray) (b' n : Nat) : Prop :=
  w.cell? ⟨b, p * 3, none⟩ = some (.int .i64 k) ∧ w.cell? ⟨b, p * 3 + 1, none⟩ = some (.string s) ∧ s.size ≤ 9223372036854775807 ∧ w.cell? ⟨b, p * 3 + 2, none⟩ = some (.slice (some ⟨b', 0, none⟩) n n)
/-- The rows below one. -/
def Rest (w : World) (f : ByteArray → Option Ex) (n0 : Nat) : Nat → List Ex → List (Lev wo) → Prop
  | _, _, [] => True
  | b', l', L :: more => (∃ k s t bs, L.l = L.its.map (resU f) ++ .mk k s l' :: t ∧ DoneAt w n0 L.b (L.its.length + 1) L.l.length t b' bs ∧ HoleAt w L.b L.its.length k s b' l'.length) ∧ Rest w f n0 L.b L.l more
def Top (w : World) (f : ByteArray → Option Ex) (n0 hi : Nat) (L : Lev wo) : Prop := ∃ t bs, L.l = L.its.map (resU f) ++ t ∧ DoneAt w n0 L.b L.its.length L.l.length t hi bs
/-- A copy under way, the topmost row first. -/
def Zip (w : World) (f : ByteArray → Option Ex) (n0 : Nat) : List (Lev wo) → Prop
  | [] => False
  | T :: more => Top w f n0 w.heap.size T ∧ Rest w f n0 T.b T.l more
/-- The lowest row is the result's own box. -/
def Bot (b0 : Nat) (R : Ex) : List (Lev wo) → Prop
  | [] => False
  | [L] => L.b = b0 ∧ L.l = [R]
  | _ :: L :: r => Bot b0 R (L :: r)
theorem rest_ef {S : List Nat} {w w' : World} {f : ByteArray → Option Ex} {n0 : Nat} (he : EF S w w') : ∀ (Ls : List (Lev wo)) (b' : Nat) (l' : List Ex), (∀ x, x < b' → x ∉ S) → Rest w f n0 b' l' Ls → Rest w' f n0 b' l' Ls := by
  intro Ls
  induction Ls with
  | nil => intro b' l' _ _; trivial
  | cons L more ih =>
    intro b' l' hS h
    obtain ⟨⟨k, s, t, bs, h1, h2, h3⟩, h4⟩ := h
    have hLb := h2.2.1
    have hty := h2.2.2.1.ty
    obtain ⟨c0, c1, hs, c2⟩ := h3
    have hc := fun i => he.cell (hS _ hLb) hty i
    exact ⟨⟨k, s, t, bs, h1, h2.ef he hS, (hc _).trans c0, (hc _).trans c1, hs, (hc _).trans c2⟩, ih L.b L.l (fun x hx => hS x (by omega)) h4⟩
theorem zip_ef {w w' : World} {f : ByteArray → Option Ex} {n0 : Nat} {Ls : List (Lev wo)} (he : EF [] w w') (h : Zip w f n0 Ls) : Zip w' f n0 Ls := by
  cases Ls with
  | nil => exact h
  | cons T more =>
    obtain ⟨⟨t, bs, h1, h2⟩, h3⟩ := h
    exact ⟨⟨t, bs, h1, (h2.ef he (fun _ _ => by simp)).up he.size⟩, rest_ef he more T.b T.l (fun _ _ => by simp) h3⟩
/-- A row that is done is part of the one below. -/
theorem zip_fold {w : World} {f : ByteArray → Option Ex} {n0 : Nat} {T L : Lev wo} {more : List (Lev wo)} (h : Zip w f n0 (T :: L :: more)) (hT : T.its = []) : Zip w f n0 (L :: more) := by
  obtain ⟨⟨t, bs, h1, h2⟩, ⟨⟨k, s, t', bs', h3, h4, h5⟩, h6⟩⟩ := h
  rw [hT] at h1 h2
  simp only [List.map_nil, List.nil_append] at h1
  obtain ⟨a1, a2, a3, a4, a5, a6, a7⟩ := h2
  obtain ⟨b1, b2, b3, b4, b5, b6, b7⟩ := h4
  obtain ⟨c0, c1, cs, c2⟩ := h5
  have hTl := a3.ty.lt
  refine ⟨⟨.mk k s T.l :: t', (T.b :: bs) ++ bs', h3, b1, b3.ty.lt, b3, ?_, ?_, ?_, b7⟩, h6⟩
  · rw [ExsAt]
    refine ⟨T.b :: bs, bs', rfl, ?_, b4⟩
    rw [ExAt, Nat.zero_add]
    exact ⟨c0, c1, cs, _, _, c2, Nat.le_refl _, a7, Or.inr ⟨T.b, 0, bs, rfl, hTl, rfl, by rw [h1]; exact a4⟩⟩
  · rw [List.nodup_append]
    refine ⟨List.nodup_cons.2 ⟨fun hx => by have := (a6 _ hx).1; omega, a5⟩, b5, fun x hx y hy e => ?_⟩
    have hy2 := (b6 y hy).2.1
    rcases List.mem_cons.1 hx with rfl | hx
    · omega
    · have := (a6 x hx).1; omega
  · intro x hx
    rcases List.mem_append.1 hx with hx | hx
    · rcases List.mem_cons.1 hx with rfl | hx
      · exact ⟨b2, hTl, a3.ty⟩
      · exact ⟨Nat.lt_trans b2 (a6 x hx).1, (a6 x hx).2.2.lt, (a6 x hx).2.2⟩
    · exact ⟨(b6 x hx).1, (b6 x hx).2.2.lt, (b6 x hx).2.2⟩

/-- What is still open, in the order of the list: the row's block, the index, the part. -/
def openOf (L : Lev wo) : List (Nat × Nat × Un wo) := L.its.zipIdx.map (fun u => (L.b, u.2, u.1))
def opens : List (Lev wo) → List (Nat × Nat × Un wo)
  | [] => []
  | L :: more => opens more ++ openOf L
def ucells (x : Nat × Nat × Un wo) : List Value := [.pointer (some x.2.2.1.adr), .pointer (some ⟨x.1, x.2.1 * 3, none⟩), .int .i64 (lay x.2.2.2)]
def uflat (xs : List (Nat × Nat × Un wo)) : List Value := xs.flatMap ucells
theorem uflat_len (xs : List (Nat × Nat × Un wo)) : (uflat xs).length = xs.length * 3 := by
  induction xs with
  | nil => rfl
  | cons p r ih => rw [uflat, List.flatMap_cons, List.length_append, ← uflat, ih]; simp [ucells]; omega
theorem uflat_app (xs ys : List (Nat × Nat × Un wo)) : uflat (xs ++ ys) = uflat xs ++ uflat ys := by simp [uflat]
theorem uflat_one (xs : List (Nat × Nat × Un wo)) (x : Nat × Nat × Un wo) : uflat (xs ++ [x]) = uflat xs ++ ucells x := by simp [uflat]
/-- How many nodes are still to be made. -/
def uweigh (f : ByteArray → Option Ex) : List (Nat × Nat × Un wo) → Nat
  | [] => 0
  | x :: r => exSize (resU f x.2.2) + uweigh f r
theorem uweigh_app (f : ByteArray → Option Ex) : ∀ (a b : List (Nat × Nat × Un wo)), uweigh f (a ++ b) = uweigh f a + uweigh f b := by
  intro a
  induction a with
  | nil => intro b; simp [uweigh]
  | cons p r ih => intro b; rw [List.cons_append, uweigh, uweigh, ih]; omega
theorem uweigh_len (f : ByteArray → Option Ex) (xs : List (Nat × Nat × Un wo)) : xs.length ≤ uweigh f xs := by
  induction xs with
  | nil => simp [uweigh]
  | cons p r ih => rw [uweigh, List.length_cons]; have := exSize_pos (resU f p.2.2); omega
theorem openOf_snoc (b : Nat) (l : List Ex) (its : List (Un wo)) (x : Un wo) : openOf ⟨b, l, its ++ [x]⟩ = openOf ⟨b, l, its⟩ ++ [(b, its.length, x)] := by
  simp [openOf, List.zipIdx_append]
theorem openOf_len (L : Lev wo) : (openOf L).length = L.its.length := by simp [openOf]
theorem openOf_weigh (f : ByteArray → Option Ex) (L : Lev wo) : uweigh f (openOf L) = exSizes (L.its.map (resU f)) := by
  have h : ∀ (its : List (Un wo)) (j : Nat), uweigh f ((its.zipIdx j).map (fun u => (L.b, u.2, u.1))) = exSizes (its.map (resU f)) := by
    intro its
    induction its with
    | nil => intro j; rfl
    | cons x r ih => intro j; rw [List.zipIdx_cons, List.map_cons, uweigh, ih, List.map_cons, exSizes]
  exact h L.its 0
/-- Rows that are done are folded until one has an open part. -/
theorem zip_norm {w : World} {f : ByteArray → Option Ex} {n0 b0 : Nat} {R : Ex} : ∀ (Ls : List (Lev wo)), Zip w f n0 Ls → Bot b0 R Ls →
    (opens Ls = [] ∧ ∃ T : Lev wo, Zip w f n0 [T] ∧ T.b = b0 ∧ T.l = [R] ∧ T.its = []) ∨ ∃ b l its x more, Zip w f n0 (⟨b, l, its ++ [x]⟩ :: more) ∧ Bot b0 R (⟨b, l, its ++ [x]⟩ :: more) ∧ opens Ls = opens (⟨b, l, its⟩ :: more) ++ [(b, its.length, x)] := by
  intro Ls
  induction Ls with
  | nil => intro h; exact h.elim
  | cons T more ih =>
    intro h hb
    rcases List.eq_nil_or_concat T.its with hT | ⟨its, x, hT⟩
    · cases more with
      | nil => exact Or.inl ⟨by simp [opens, openOf, hT], T, h, hb.1, hb.2, hT⟩
      | cons L more' =>
        have ho : opens (T :: L :: more') = opens (L :: more') := by rw [opens]; simp [openOf, hT]
        rw [ho]
        exact ih (zip_fold h hT) hb
    · obtain ⟨b, l, its0⟩ := T
      simp only [List.concat_eq_append] at hT
      subst hT
      exact Or.inr ⟨b, l, its, x, more, h, hb, by rw [opens, opens, openOf_snoc, List.append_assoc]⟩
/-- The result, when nothing is open any more. -/
theorem zip_end {w : World} {f : ByteArray → Option Ex} {n0 b0 : Nat} {R : Ex} {T : Lev wo} (h : Zip w f n0 [T]) (hb : T.b = b0) (hl : T.l = [R]) (hT : T.its = []) :
    ∃ bs, ExAt w b0 0 R bs ∧ bs.Nodup ∧ (∀ x ∈ bs, b0 < x ∧ TyE w x) ∧ TyE w b0 ∧ n0 ≤ b0 := by
  obtain ⟨⟨t, bs, h1, h2⟩, -⟩ := h
  rw [hT, hl] at h1
  obtain ⟨a1, a2, a3, a4, a5, a6, -⟩ := h2
  simp only [List.map_nil, List.nil_append] at h1
  rw [hT, ← h1, ExsAt] at a4
  obtain ⟨b1, b2, e1, e2, e3⟩ := a4
  rw [ExsAt] at e3
  subst e3
  rw [List.append_nil] at e1
  subst e1
  rw [hb] at a1 a3 a6 e2
  exact ⟨bs, by simpa using e2, a5, fun x hx => ⟨(a6 x hx).1, (a6 x hx).2.2⟩, a3.ty, a1⟩
/-- The start: the result's own box, and the whole expression open. -/
theorem zip_start {w : World} (f : ByteArray → Option Ex) {n0 b0 : Nat} (u : Un wo) (hn : n0 ≤ b0) (ht : TyN w b0 3) : Zip w f n0 [⟨b0, [resU f u], [u]⟩] ∧ Bot b0 (resU f u) [(⟨b0, [resU f u], [u]⟩ : Lev wo)] :=
  ⟨⟨⟨[], [], by simp, hn, ht.ty.lt, ht, by rw [ExsAt], List.nodup_nil, (fun x hx => by cases hx), by simp⟩, trivial⟩, rfl, rfl⟩
/-- A part without arguments is written. -/
theorem zip_leaf {w : World} {f : ByteArray → Option Ex} {n0 b : Nat} {l : List Ex} {its : List (Un wo)} {x : Un wo} {more : List (Lev wo)} {k : Int} {s : ByteArray} (h : Zip w f n0 (⟨b, l, its ++ [x]⟩ :: more)) (hx : resU f x = .mk k s []) (hs : s.size ≤ 9223372036854775807) :
    Zip (tri w b (its.length * 3) (.int .i64 k) (.string s) (.slice none 0 0)) f n0 (⟨b, l, its⟩ :: more) := by
  obtain ⟨⟨t, bs, h1, h2⟩, h3⟩ := h
  simp only at h1 h2 h3
  obtain ⟨a1, a2, a3, a4, a5, a6, a7⟩ := h2
  have hef := tri_ef w b (its.length * 3) (.int .i64 k) (.string s) (.slice none 0 0)
  have hp : its.length < l.length := by rw [h1]; simp
  obtain ⟨q0, q1, q2⟩ := tri_cells a3 (o := its.length * 3) (by omega) (.int .i64 k) (.string s) (.slice none 0 0)
  have hne : ∀ y ∈ bs, y ∉ [b] := fun y hy => by have := (a6 y hy).1; simp; omega
  refine ⟨⟨.mk k s [] :: t, bs, by rw [h1, List.map_append, List.map_singleton, hx, List.append_assoc]; rfl, a1, by rw [tri_size]; exact a2, tri_tyn a3 _ _ _ _, ?_, a5, fun y hy => ⟨(a6 y hy).1, by rw [tri_size]; exact (a6 y hy).2.1, hef.ty (hne y hy) (a6 y hy).2.2⟩, a7⟩, rest_ef hef more b l (fun y hy => by simp; omega) h3⟩
  rw [ExsAt]
  refine ⟨[], bs, rfl, ?_, ?_⟩
  · rw [ExAt, Nat.zero_add]
    exact ⟨q0, q1, hs, none, 0, q2, by simp, by simp, Or.inl ⟨rfl, rfl⟩⟩
  · rw [List.length_append, List.length_singleton] at a4
    exact ExsAt.from_ t (its.length + 1) bs a4 (fun m hm => tri_far _ _ _ _ _ _ m (by omega)) (hef.keeps (fun y hy => ⟨hne y hy, (a6 y hy).2.2⟩))
/-- A part with arguments is written, and the row for these is the topmost one then. -/
theorem zip_push {w w1 : World} {f : ByteArray → Option Ex} {n0 b b2 : Nat} {l : List Ex} {its ks : List (Un wo)} {x : Un wo} {more : List (Lev wo)} {k : Int} {s : ByteArray} (h : Zip w f n0 (⟨b, l, its ++ [x]⟩ :: more)) (hx : resU f x = .mk k s (ks.map (resU f))) (hs : s.size ≤ 9223372036854775807)
    (he : EF [] w w1) (hb2 : w.heap.size ≤ b2) (hT2 : TyN w1 b2 (ks.length * 3)) (hkl : ks.length ≤ 9223372036854775807) :
    Zip (tri w1 b (its.length * 3) (.int .i64 k) (.string s) (.slice (some ⟨b2, 0, none⟩) ks.length ks.length)) f n0 (⟨b2, ks.map (resU f), ks⟩ :: ⟨b, l, its⟩ :: more) := by
  obtain ⟨⟨t, bs, h1, h2⟩, h3⟩ := h
  simp only at h1 h2 h3
  have h4 := h2.ef he (fun _ _ => by simp)
  obtain ⟨a1, a2, a3, a4, a5, a6, a7⟩ := h4
  have hef := tri_ef w1 b (its.length * 3) (.int .i64 k) (.string s) (.slice (some ⟨b2, 0, none⟩) ks.length ks.length)
  have hp : its.length < l.length := by rw [h1]; simp
  obtain ⟨q0, q1, q2⟩ := tri_cells a3 (o := its.length * 3) (by omega) (.int .i64 k) (.string s) (.slice (some ⟨b2, 0, none⟩) ks.length ks.length)
  have hne : ∀ y ∈ bs, y ∉ [b] := fun y hy => by have := (a6 y hy).1; simp; omega
  have hbne : b2 ∉ [b] := by simp; omega
  refine ⟨⟨[], [], by simp, (show n0 ≤ b2 by omega), (hef.ty hbne hT2.ty).lt, ?_, by rw [ExsAt], List.nodup_nil, (fun y hy => by cases hy), by simpa using hkl⟩, ⟨k, s, t, bs, ?_, ⟨a1, by simp only; omega, tri_tyn a3 _ _ _ _, ?_, a5, fun y hy => ⟨(a6 y hy).1, by have := (a6 y hy).2.1; simp only; omega, hef.ty (hne y hy) (a6 y hy).2.2⟩, a7⟩, q0, q1, hs, by simpa using q2⟩, ?_⟩
  · simpa using hef.tyn hbne hT2
  · rw [h1, List.map_append, List.map_singleton, hx, List.append_assoc]; rfl
  · rw [List.length_append, List.length_singleton] at a4
    exact ExsAt.from_ t (its.length + 1) bs a4 (fun m hm => tri_far _ _ _ _ _ _ m (by omega)) (hef.keeps (fun y hy => ⟨hne y hy, (a6 y hy).2.2⟩))
  · exact rest_ef hef more b l (fun y hy => by simp; omega) (rest_ef he more b l (fun _ _ => by simp) h3)
end
end Go.Proofs.Ytbnghkgfbjipdaa

namespace Go.Proofs.Ytbnghkgfbjipdaa
open Go Go.RowKit

section
variable {α : Type} {key val : α → Value}
/-- p is the first of F at the key k. -/
def FirstAt (key : α → Value) (F : List α) (k : Value) (p : α) : Prop := ∃ A B, F = A ++ p :: B ∧ key p = k ∧ ∀ a ∈ A, key a ≠ k
theorem FirstAt.mem {F : List α} {k : Value} {p : α} (h : FirstAt key F k p) : p ∈ F ∧ key p = k := by
  obtain ⟨A, B, rfl, h1, -⟩ := h
  exact ⟨by simp, h1⟩
theorem firstAt_cons {F : List α} {x p : α} {k : Value} : FirstAt key (x :: F) k p ↔ (key x = k ∧ p = x) ∨ (key x ≠ k ∧ FirstAt key F k p) := by
  constructor
  · rintro ⟨A, B, h, h1, h2⟩
    cases A with
    | nil =>
      simp only [List.nil_append, List.cons.injEq] at h
      obtain ⟨rfl, rfl⟩ := h
      exact Or.inl ⟨h1, rfl⟩
    | cons a A =>
      simp only [List.cons_append, List.cons.injEq] at h
      obtain ⟨rfl, rfl⟩ := h
      exact Or.inr ⟨h2 _ (by simp), A, B, rfl, h1, fun b hb => h2 b (by simp [hb])⟩
  · rintro (⟨h1, rfl⟩ | ⟨h1, A, B, rfl, h2, h3⟩)
    · exact ⟨[], F, rfl, h1, fun a ha => by cases ha⟩
    · refine ⟨x :: A, B, rfl, h2, fun a ha => ?_⟩
      rcases List.mem_cons.1 ha with rfl | ha
      · exact h1
      · exact h3 a ha
theorem firstAt_some : ∀ {F : List α} {k : Value}, (∃ p ∈ F, key p = k) → ∃ p, FirstAt key F k p := by
  intro F
  induction F with
  | nil => rintro k ⟨p, hp, -⟩; cases hp
  | cons x F ih =>
    rintro k ⟨p, hp, hk⟩
    by_cases hx : key x = k
    · exact ⟨x, firstAt_cons.2 (Or.inl ⟨hx, rfl⟩)⟩
    · rcases List.mem_cons.1 hp with rfl | hp
      · exact absurd hk hx
      · obtain ⟨q, hq⟩ := ih ⟨p, hp, hk⟩
        exact ⟨q, firstAt_cons.2 (Or.inr ⟨hx, hq⟩)⟩
theorem FirstAt.uniq : ∀ {F : List α} {k : Value} {p q : α}, FirstAt key F k p → FirstAt key F k q → p = q := by
  intro F
  induction F with
  | nil => rintro k p q ⟨A, B, h, -⟩; simp at h
  | cons x F ih =>
    intro k p q hp hq
    rcases firstAt_cons.1 hp with ⟨h1, rfl⟩ | ⟨h1, h2⟩ <;> rcases firstAt_cons.1 hq with ⟨h3, rfl⟩ | ⟨h3, h4⟩
    · rfl
    · exact absurd h1 h3
    · exact absurd h3 h1
    · exact ih h2 h4
theorem firstAt_snoc {F : List α} {x p : α} {k : Value} : FirstAt key (F ++ [x]) k p ↔ FirstAt key F k p ∨ ((∀ a ∈ F, key a ≠ k) ∧ key x = k ∧ p = x) := by
  induction F with
  | nil =>
    rw [List.nil_append, firstAt_cons]
    constructor
    · rintro (⟨h1, rfl⟩ | ⟨-, A, B, h, -⟩)
      · exact Or.inr ⟨(fun a ha => by cases ha), h1, rfl⟩
      · simp at h
    · rintro (⟨A, B, h, -⟩ | ⟨-, h1, rfl⟩)
      · simp at h
      · exact Or.inl ⟨h1, rfl⟩
  | cons y F ih =>
    rw [List.cons_append, firstAt_cons, firstAt_cons, ih]
    constructor
    · rintro (h | ⟨h1, h | ⟨h2, h3⟩⟩)
      · exact Or.inl (Or.inl h)
      · exact Or.inl (Or.inr ⟨h1, h⟩)
      · refine Or.inr ⟨fun a ha => ?_, h3⟩
        rcases List.mem_cons.1 ha with rfl | ha
        · exact h1
        · exact h2 a ha
    · rintro ((h | ⟨h1, h⟩) | ⟨h1, h2⟩)
      · exact Or.inl h
      · exact Or.inr ⟨h1, Or.inl h⟩
      · exact Or.inr ⟨h1 y (by simp), Or.inr ⟨fun a ha => h1 a (by simp [ha]), h2⟩⟩

/-- The map holds the first one of F at each key. -/
structure Firsts (key val : α → Value) (F : List α) (M : List (Value × Value)) : Prop where
  mem : ∀ k v, (k, v) ∈ M ↔ ∃ p, FirstAt key F k p ∧ val p = v
  len : M.length ≤ F.length ∧ (M.length = F.length ↔ (F.map key).Nodup)
theorem firsts_nil : Firsts key val [] [] := ⟨fun k v => ⟨(fun h => by cases h), fun ⟨p, ⟨A, B, h, _⟩, _⟩ => by simp at h⟩, by simp⟩
theorem Firsts.keys {F : List α} {M : List (Value × Value)} (h : Firsts key val F M) (k : Value) : (∃ x ∈ M, x.1 = k) ↔ ∃ p ∈ F, key p = k := by
  constructor
  · rintro ⟨⟨k', v⟩, hx, rfl⟩
    obtain ⟨p, hp, -⟩ := (h.mem _ _).1 hx
    exact ⟨p, hp.mem⟩
  · intro hp
    obtain ⟨p, hp⟩ := firstAt_some hp
    exact ⟨(k, val p), (h.mem _ _).2 ⟨p, hp, rfl⟩, rfl⟩
theorem put_mem {L L2 : List (Value × Value)} {k0 v0 : Value} (hn : (L.map Prod.fst).Nodup) (h : Put L k0 v0 L2) (k v : Value) : (k, v) ∈ L2 ↔ (k = k0 ∧ v = v0) ∨ (k ≠ k0 ∧ (k, v) ∈ L) := by
  rcases h with ⟨h1, rfl⟩ | ⟨A, u, B, rfl, rfl⟩
  · rw [List.mem_append, List.mem_singleton, Prod.mk.injEq]
    constructor
    · rintro (h | h)
      · exact Or.inr ⟨h1 _ h, h⟩
      · exact Or.inl h
    · rintro (h | ⟨-, h⟩)
      · exact Or.inr h
      · exact Or.inl h
  · rw [List.map_append, List.map_cons, List.nodup_append] at hn
    obtain ⟨-, h2, h3⟩ := hn
    rw [List.nodup_cons] at h2
    have hA : ∀ x ∈ A, x.1 ≠ k0 := fun x hx => h3 x.1 (List.mem_map_of_mem hx) k0 (by simp)
    have hB : ∀ x ∈ B, x.1 ≠ k0 := fun x hx e => h2.1 (show k0 ∈ B.map Prod.fst by rw [← e]; exact List.mem_map_of_mem hx)
    simp only [List.mem_append, List.mem_cons, Prod.mk.injEq]
    constructor
    · rintro (h | h | h)
      · exact Or.inr ⟨hA _ h, Or.inl h⟩
      · exact Or.inl h
      · exact Or.inr ⟨hB _ h, Or.inr (Or.inr h)⟩
    · rintro (h | ⟨h, h4 | h4 | h4⟩)
      · exact Or.inr (Or.inl h)
      · exact Or.inl h4
      · exact absurd h4.1 h
      · exact Or.inr (Or.inr h4)
/-- One more in front, stored over what was there. -/
theorem Firsts.cons {F : List α} {M M2 : List (Value × Value)} {x : α} (h : Firsts key val F M) (hn : (M.map Prod.fst).Nodup) (hp : Put M (key x) (val x) M2) : Firsts key val (x :: F) M2 := by
  refine ⟨fun k v => ?_, ?_⟩
  · rw [put_mem hn hp, h.mem]
    constructor
    · rintro (⟨rfl, rfl⟩ | ⟨h1, p, h2, h3⟩)
      · exact ⟨x, firstAt_cons.2 (Or.inl ⟨rfl, rfl⟩), rfl⟩
      · exact ⟨p, firstAt_cons.2 (Or.inr ⟨fun e => h1 e.symm, h2⟩), h3⟩
    · rintro ⟨p, h1, h2⟩
      rcases firstAt_cons.1 h1 with ⟨h3, rfl⟩ | ⟨h3, h4⟩
      · exact Or.inl ⟨h3.symm, h2.symm⟩
      · exact Or.inr ⟨fun e => h3 e.symm, p, h4, h2⟩
  · have hk := h.keys (key x)
    have hl := h.len
    rw [List.map_cons, List.nodup_cons, List.length_cons]
    rcases hp with ⟨h1, rfl⟩ | ⟨A, u, B, rfl, rfl⟩
    · have hne : key x ∉ F.map key := fun hm => by
        obtain ⟨p, hp1, hp2⟩ := List.mem_map.1 hm
        obtain ⟨y, hy, e⟩ := hk.2 ⟨p, hp1, hp2⟩
        exact h1 y hy e
      refine ⟨by simp; omega, ?_⟩
      rw [List.length_append]
      simp only [List.length_cons, List.length_nil, hne, not_false_eq_true, true_and]
      rw [← hl.2]
      omega
    · obtain ⟨p, hp1, hp2⟩ := hk.1 ⟨(key x, u), by simp, rfl⟩
      have hin : key x ∈ F.map key := List.mem_map.2 ⟨p, hp1, hp2⟩
      have hl1 := hl.1
      simp only [List.length_append, List.length_cons] at hl1 ⊢
      refine ⟨by omega, ?_⟩
      constructor
      · intro e; omega
      · intro e; exact absurd hin e.1
/-- One more behind, stored where there was none. -/
theorem Firsts.snoc {F : List α} {M M2 : List (Value × Value)} {x : α} (h : Firsts key val F M) (hn : (M.map Prod.fst).Nodup) (hp : Put M (key x) (val x) M2) (ho : ∀ y ∈ M, y.1 ≠ key x) : Firsts key val (F ++ [x]) M2 := by
  have hk : ∀ p ∈ F, key p ≠ key x := fun p hp1 e => by
    obtain ⟨y, hy, e2⟩ := (h.keys (key x)).2 ⟨p, hp1, e⟩
    exact ho y hy e2
  refine ⟨fun k v => ?_, ?_⟩
  · rw [put_mem hn hp, h.mem]
    constructor
    · rintro (⟨rfl, rfl⟩ | ⟨h1, p, h2, h3⟩)
      · exact ⟨x, firstAt_snoc.2 (Or.inr ⟨hk, rfl, rfl⟩), rfl⟩
      · exact ⟨p, firstAt_snoc.2 (Or.inl h2), h3⟩
    · rintro ⟨p, h1, h2⟩
      rcases firstAt_snoc.1 h1 with h3 | ⟨h3, h4, rfl⟩
      · refine Or.inr ⟨fun e => hk p h3.mem.1 (h3.mem.2.trans e), p, h3, h2⟩
      · exact Or.inl ⟨h4.symm, h2.symm⟩
  · have hl := h.len
    have hne : key x ∉ F.map key := fun hm => by
      obtain ⟨p, hp1, hp2⟩ := List.mem_map.1 hm
      exact hk p hp1 hp2
    rcases hp with ⟨h1, rfl⟩ | ⟨A, u, B, rfl, -⟩
    · refine ⟨by simp; omega, ?_⟩
      rw [List.length_append, List.length_append, List.map_append, List.nodup_append]
      constructor
      · intro e
        refine ⟨hl.2.1 (by simpa using e), by simp, fun a ha b hb e2 => ?_⟩
        simp only [List.map_cons, List.map_nil, List.mem_singleton] at hb
        rw [e2, hb] at ha
        exact hne ha
      · intro e
        have := hl.2.2 e.1
        simp; omega
    · exact absurd rfl (ho (key x, u) (by simp))
/-- One more behind, where there is one already. -/
theorem Firsts.more {F : List α} {M : List (Value × Value)} {x : α} (h : Firsts key val F M) (ho : ∃ y ∈ M, y.1 = key x) : ∀ k v, (k, v) ∈ M ↔ ∃ p, FirstAt key (F ++ [x]) k p ∧ val p = v := by
  obtain ⟨q, hq1, hq2⟩ := (h.keys (key x)).1 ho
  intro k v
  rw [h.mem]
  constructor
  · rintro ⟨p, h1, h2⟩; exact ⟨p, firstAt_snoc.2 (Or.inl h1), h2⟩
  · rintro ⟨p, h1, h2⟩
    rcases firstAt_snoc.1 h1 with h3 | ⟨h3, h4, rfl⟩
    · exact ⟨p, h3, h2⟩
    · exact absurd (hq2.trans h4) (h3 q hq1)
theorem Firsts.hits {F : List α} {M : List (Value × Value)} (h : Firsts key val F M) {k z v : Value} {b : Bool} (hh : Hits M k z v b) : (∃ p, FirstAt key F k p ∧ v = val p ∧ b = true) ∨ ((∀ p ∈ F, key p ≠ k) ∧ v = z ∧ b = false) := by
  rcases hh with ⟨h1, rfl⟩ | ⟨h1, rfl, rfl⟩
  · obtain ⟨p, h2, h3⟩ := (h.mem _ _).1 h1
    exact Or.inl ⟨p, h2, h3.symm, rfl⟩
  · refine Or.inr ⟨fun p hp e => ?_, rfl, rfl⟩
    obtain ⟨y, hy, e2⟩ := (h.keys k).2 ⟨p, hp, e⟩
    exact h1 y hy e2
end

/-- Strings as keys. -/
def StrK (v : Value) : Prop := ∃ s, v = .string s
theorem strT (w : World) : KeyT Try.prog 9 w StrK := by
  have hk := Try.underlying9
  have isK : ∀ {v : Value}, StrK v → MapKept.IsKey .string v := fun {v} ⟨s, h⟩ => by subst h; trivial
  refine ⟨fun em v h => MapKept.run_checkKey hk (isK h) em 9999, fun x es hx hes => ?_, fun v h => MapKept.run_keyThatStays (isK h)⟩
  rcases MapKept.findNow_spec (isK hx) es 0 (fun y hy => isK (hes y hy)) with ⟨h1, h2⟩ | ⟨j, e0, h1, h2, h3⟩
  · exact Or.inl ⟨MapKept.run_findKey hk h1, h2⟩
  · exact Or.inr ⟨j, e0, by simpa using MapKept.run_findKey hk h1, h2, h3⟩

/-- Structs of two strings as keys. -/
def TwoK (v : Value) : Prop := ∃ s t, v = .agg #[.string s, .string t]
theorem eq_str {w : World} (a b : ByteArray) (d : Nat) : (Op.equalIn (d + 1) 9 (.string a) (.string b)).run Try.prog w = .ok (a == b) w := by
  simp [Op.equalIn, run_underlying Try.underlying9]
end Go.Proofs.Ytbnghkgfbjipdaa

namespace Go.Proofs.Ytbnghkgfbjipdaa
open Go Go.RowKit

/-- Only where a piece ends as R says. -/
def onlyR9 (R : Act → World → Prop) : Exit → Act → World → Prop
  | .normal, a, W => R a W
  | _, _, _ => False
/-- The orders of a piece meet again. -/
theorem cut_r9 {P : Program} {c : Code} {K : Act → World → Prop} {Q : Exit → Act → World → Prop} {a : Act} {w : World} (R : Act → World → Prop) (h : c.wp P (onlyR9 R) a w) (hK : ∀ a W, R a W → K a W) : c.wp P (Exit.then K Q) a w :=
  wpIn_wide.1 (wpIn_mono (wpIn_wide.2 h : c.wpIn Fence.wide 0 P (onlyR9 R) a w) (fun e a W hq => by
    cases e with
    | normal => exact hK a W hq
    | exit id => exact hq.elim
    | goto t => exact hq.elim
    | ret => exact hq.elim
    | panic c => exact hq.elim
    | outgrown => exact hq.elim))
/-- The values of a copy: a map from names. -/
structure ValsIs (wo : World) (M : List (Value × Value)) (f : ByteArray → Option Ex) : Prop where
  keys : ∀ x ∈ M, StrK x.1
  some_ : ∀ s v, (Value.string s, v) ∈ M → ∃ e bs u, v = .agg #[.int .i64 e.kind, .string e.name, u] ∧ f s = some e ∧ ExIs wo v e bs ∧ ∀ z ∈ bs, FreeB wo z
  none_ : ∀ s, (∀ x ∈ M, x.1 ≠ .string s) → f s = none
theorem zeroExV (w : World) : (zeroValue 26).run Try.prog w = .ok (.agg #[.int .i64 0, .string ⟨#[]⟩, .slice none 0 0]) w := by kernel_rfl
theorem box_cells9 (w : World) (x0 x1 x2 : Value) (o : Obj) : ((w.alloc (.cells #[x0, x1, x2] 26)).alloc o).cell? ⟨w.heap.size, 0, none⟩ = some x0 ∧ ((w.alloc (.cells #[x0, x1, x2] 26)).alloc o).cell? ⟨w.heap.size, 1, none⟩ = some x1 ∧ ((w.alloc (.cells #[x0, x1, x2] 26)).alloc o).cell? ⟨w.heap.size, 2, none⟩ = some x2 := by
  have h : ((w.alloc (.cells #[x0, x1, x2] 26)).alloc o).heap[w.heap.size]? = some (.cells #[x0, x1, x2] 26 (0, 0)) := (Below.heap_alloc _ _ _ (by simp)).trans (heap_alloc_new w _)
  simp [World.cell?, h]
theorem below_tri {n : Nat} {w W : World} (h : Below n w W) {B : Nat} (hB : n ≤ B) (o : Nat) (x0 x1 x2 : Value) : Below n w (tri W B o x0 x1 x2) :=
  ⟨h.os, h.tape, h.output, by rw [tri_size]; exact h.size, fun k hk => (tri_other _ _ _ _ _ _ k (by omega)).trans (h.block k hk)⟩
/-- What replaced gives. -/
def ReplPost (wo : World) (f : ByteArray → Option Ex) (e : Ex) (b : Bool) (w : World) (r : Ending) (w2 : World) : Prop :=
  ∃ A q c bs, r = .returned (.tuple #[.agg #[.int .i64 (replE f e b).kind, .string (replE f e b).name, .slice A q c], .int .i64 (lay (replB e b))]) ∧ ExIs wo (.agg #[.int .i64 (replE f e b).kind, .string (replE f e b).name, .slice A q c]) (replE f e b) bs ∧ (∀ z ∈ bs, FreeB wo z) ∧ Below w.heap.size w w2
theorem vals_look {wo : World} {f : ByteArray → Option Ex} {mb : Nat} {M : List (Value × Value)} {W : World} (hm : MapIs W mb M) (hv : ValsIs wo M f) (s : ByteArray) :
    ∃ v has, Hits M (.string s) (.agg #[.int .i64 0, .string ⟨#[]⟩, .slice none 0 0]) v has ∧ ∀ X, Below W.heap.size W X → (Instr.lookup 76 (.map (some mb)) (.string s) true).run Try.prog X = .ok (.tuple #[v, .bool has]) X := by
  have one : ∀ X, Below W.heap.size W X → ∃ v has, Hits M (.string s) (.agg #[.int .i64 0, .string ⟨#[]⟩, .slice none 0 0]) v has ∧ (Instr.lookup 76 (.map (some mb)) (.string s) true).run Try.prog X = .ok (.tuple #[v, .bool has]) X := fun X hX => by
    obtain ⟨v, has, h1, h2⟩ := (hm.on (hX.block _ hm.lt)).look (strT X) Try.underlying76 (zeroExV X) (key := .string s) ⟨_, rfl⟩ hv.keys
    exact ⟨v, has, h2, by simpa using h1 true⟩
  obtain ⟨v, has, h1, h2⟩ := one W (Below.refl _ _)
  obtain ⟨_, _, _, _, hn⟩ := id hm
  refine ⟨v, has, h1, fun X hX => ?_⟩
  obtain ⟨v', has', h3, h4⟩ := one X hX
  obtain ⟨rfl, rfl⟩ := Hits.uniq hn h1 h3
  exact h4
set_option maxRecDepth 100000 in
set_option maxHeartbeats 4000000 in
theorem own_replaced (wo : World) (f : ByteArray → Option Ex) (cb mb : Nat) (M : List (Value × Value)) (e : Ex) (b : Bool) (A : Option Addr) (n c : Nat) (bs : List Nat) (w : World) (hx : ExIs wo (.agg #[.int .i64 e.kind, .string e.name, .slice A n c]) e bs) (hFx : ∀ z ∈ bs, FreeB wo z)
    (hc : w.cell? ⟨cb, 0, none⟩ = some (.map (some mb))) (hm : MapIs w mb M) (hv : ValsIs wo M f) :
    Calls Try.prog 94 #[.pointer (some ⟨cb, 0, none⟩), .agg #[.int .i64 e.kind, .string e.name, .slice A n c], .int .i64 (lay b)] w (ReplPost wo f e b w) := by
  have HX := Lib.hid (And.intro hx hFx)
  have hcl : cb < w.heap.size := World.block_lt_of_cell? w _ hc
  have HB := Lib.hid (fun (o o2 : Obj) => ((Below.refl w.heap.size w).alloc (Nat.le_refl _) o).alloc (by simp) o2)
  clear hx hFx
  by_cases hk : e.kind = 1
  · cases b with
    | true =>
      have HE := Lib.hid (show replE f e true = e by simp [replE])
      have HL := Lib.hid (show replB e true = true by simp [replB])
      have HP := Lib.hid (show ∀ (r : Ending) (w2 : World), r = .returned (.tuple #[.agg #[.int .i64 e.kind, .string e.name, .slice A n c], .int .i64 1]) → Below w.heap.size w w2 → ReplPost wo f e true w r w2 from fun r w2 hr hb => by
        unfold ReplPost
        rw [HE.out, HL.out]
        exact ⟨A, n, c, bs, hr, HX.out.1, HX.out.2, hb⟩)
      clear hm hv HE HL HX
      generalize e.kind = K at *
      generalize e.name = S at *
      subst hk
      go_enter Try.func94, Try.ntmps94
      simp only [lay]
      go_wp2_with fail
      refine bodyPost_ret (v := .tuple #[.agg #[.int .i64 1, .string S, .slice A n c], .int .i64 1]) (by simp [results, Try.results94, go_sem]) rfl ?_
      exact HP.out _ _ rfl (HB.out _ _)
    | false =>
      obtain ⟨v, has, hit, hrun⟩ := vals_look hm hv e.name
      obtain ⟨K1, S1, A1, n1, c1, rfl, hpost⟩ : ∃ K1 S1 A1 n1 c1, v = .agg #[.int .i64 K1, .string S1, .slice A1 n1 c1] ∧ ∀ (r : Ending) (w2 : World), r = .returned (.tuple #[if has then .agg #[.int .i64 K1, .string S1, .slice A1 n1 c1] else .agg #[.int .i64 e.kind, .string e.name, .slice A n c], .int .i64 1]) → Below w.heap.size w w2 → ReplPost wo f e false w r w2 := by
        have HL : replB e false = true := by simp [replB, hk]
        rcases hit with ⟨h1, rfl⟩ | ⟨h1, rfl, rfl⟩
        · obtain ⟨e1, b1, u, rfl, hf, hi, hFi⟩ := hv.some_ _ _ h1
          obtain ⟨u', e0, h2, A1, c1, e2, h3⟩ := id hi
          simp only [Value.agg.injEq, Array.mk.injEq, List.cons.injEq, and_true, true_and] at e0
          subst e0; subst e2
          have HE : replE f e false = e1 := by simp [replE, hk, hf]
          refine ⟨_, _, _, _, _, rfl, fun r w2 hr hb => ?_⟩
          unfold ReplPost
          rw [HE, HL]
          exact ⟨A1, _, c1, b1, hr, hi, hFi, hb⟩
        · have hf := hv.none_ _ h1
          have HE : replE f e false = e := by simp [replE, hk, hf]
          refine ⟨_, _, _, _, _, rfl, fun r w2 hr hb => ?_⟩
          unfold ReplPost
          rw [HE, HL]
          exact ⟨A, n, c, bs, hr, HX.out.1, HX.out.2, hb⟩
      have HP := Lib.hid hpost
      clear hpost hit hv HX
      have hmlt := hm.lt
      obtain ⟨K, hK⟩ : ∃ K, K = e.kind := ⟨_, rfl⟩
      obtain ⟨S, hS⟩ : ∃ S, S = e.name := ⟨_, rfl⟩
      rw [← hK, ← hS] at HP
      rw [← hS] at hrun
      rw [← hK, ← hS]
      rw [← hK] at hk
      clear hK hS hm
      subst hk
      obtain ⟨W0, hW0⟩ : ∃ W0, W0 = (w.alloc (.cells #[.int .i64 1, .string S, .slice A n c] 26)).alloc (.cells #[.int .i64 0, .string ⟨#[]⟩, .slice none 0 0] 26) := ⟨_, rfl⟩
      have hb0 : Below w.heap.size w W0 := by rw [hW0]; exact HB.out _ _
      have HS := Lib.hid (show ∀ X, Below W0.heap.size W0 X → X.cell? ⟨cb, 0, none⟩ = some (.map (some mb)) ∧ X.cell? ⟨w.heap.size, 1, none⟩ = some (.string S) ∧ (Instr.lookup 76 (.map (some mb)) (.string S) true).run Try.prog X = .ok (.tuple #[.agg #[.int .i64 K1, .string S1, .slice A1 n1 c1], .bool has]) X from fun X hX => by
        have h1 := hb0.trans (hX.mono hb0.size)
        refine ⟨(h1.cell hcl).trans hc, (hX.cell (p := ⟨w.heap.size, 1, none⟩) (by rw [hW0]; simp; omega)).trans ?_, hrun X h1⟩
        rw [hW0]
        exact (box_cells9 w _ _ _ _).2.1)
      have HW0 := Lib.hid hW0
      have HB0 := Lib.hid hb0
      clear hrun hW0 hb0
      go_enter Try.func94, Try.ntmps94
      simp only [lay]
      go_wp2_with fail
      rw [← HW0.out]
      refine cut_r9 (fun a W => a = { tmps := #[.pointer (some ⟨cb, 0, none⟩), .agg #[.int .i64 1, .string S, .slice A n c], .int .i64 0, undef, .pointer (some ⟨w.heap.size, 0, none⟩), undef, .pointer (some ⟨w.heap.size + 1, 0, none⟩), .int .i64 0, .pointer (some ⟨W0.heap.size, 0, none⟩), .bool has, .pointer (some ⟨w.heap.size, 0, none⟩), .int .i64 1, .bool false, .bool false, .int .i64 0, .bool false, .bool false, undef, undef, .tuple #[.agg #[.int .i64 K1, .string S1, .slice A1 n1 c1], .bool has], .pointer (some ⟨cb, 0, none⟩), .pointer (some ⟨cb, 0, none⟩), .pointer (some ⟨cb, 0, none⟩), .map (some mb), .pointer (some ⟨w.heap.size, 1, none⟩), .string S, .tuple #[.agg #[.int .i64 K1, .string S1, .slice A1 n1 c1], .bool has], .agg #[.int .i64 K1, .string S1, .slice A1 n1 c1], .bool has, undef, undef, undef], defers := [] } ∧ W = (W0.alloc (.cells #[.int .i64 K1, .string S1, .slice A1 n1 c1] 26)).drew) ?_ ?_
      · go_region_held3 (fun X => X.cell? ⟨cb, 0, none⟩ = some (.map (some mb)) ∧ X.cell? ⟨w.heap.size, 1, none⟩ = some (.string S) ∧ (Instr.lookup 76 (.map (some mb)) (.string S) true).run Try.prog X = .ok (.tuple #[.agg #[.int .i64 K1, .string S1, .slice A1 n1 c1], .bool has]) X)
          (first
          | exact HS.out _ ((Below.refl _ _).drew)
          | exact HS.out _ ((Below.refl _ _).drew.alloc (Nat.le_refl _) _))
          (fail)
        all_goals exact ⟨rfl, rfl⟩
      rintro _ _ ⟨rfl, rfl⟩
      obtain ⟨Wa, hWa⟩ : ∃ W, W = (W0.alloc (.cells #[.int .i64 K1, .string S1, .slice A1 n1 c1] 26)).drew := ⟨_, rfl⟩
      rw [← hWa]
      obtain ⟨hla, hva, hea, hra⟩ : Below w.heap.size w Wa ∧ Wa.heap[W0.heap.size]? = some (.cells #[.int .i64 K1, .string S1, .slice A1 n1 c1] 26 (0, 0)) ∧ Wa.heap[w.heap.size]? = some (.cells #[.int .i64 1, .string S, .slice A n c] 26 (0, 0)) ∧ Wa.heap[w.heap.size + 1]? = some (.cells #[.int .i64 0, .string ⟨#[]⟩, .slice none 0 0] 26 (0, 0)) := by
        have hs0 : W0.heap.size = w.heap.size + 1 + 1 := by rw [HW0.out]; simp
        have b1 : Below W0.heap.size W0 Wa := by rw [hWa]; exact ((Below.refl _ _).alloc (Nat.le_refl _) _).drew
        refine ⟨HB0.out.trans (b1.mono HB0.out.size), by rw [hWa]; exact heap_alloc_new W0 _, (b1.block _ (by omega)).trans ?_, (b1.block _ (by omega)).trans ?_⟩
        · rw [HW0.out]; exact (Below.heap_alloc _ _ _ (by simp)).trans (heap_alloc_new w _)
        · rw [HW0.out]
          have := heap_alloc_new (w.alloc (.cells #[.int .i64 1, .string S, .slice A n c] 26)) (.cells #[.int .i64 0, .string ⟨#[]⟩, .slice none 0 0] 26)
          rw [World.size_alloc] at this
          exact this
      have HLA := Lib.hid hla
      have v0 : Wa.cell? ⟨W0.heap.size, 0, none⟩ = some (.int .i64 K1) := by simp [World.cell?, hva]
      have v1 : Wa.cell? ⟨W0.heap.size, 1, none⟩ = some (.string S1) := by simp [World.cell?, hva]
      have v2 : Wa.cell? ⟨W0.heap.size, 2, none⟩ = some (.slice A1 n1 c1) := by simp [World.cell?, hva]
      have e0 : Wa.cell? ⟨w.heap.size, 0, none⟩ = some (.int .i64 1) := by simp [World.cell?, hea]
      have e1 : Wa.cell? ⟨w.heap.size, 1, none⟩ = some (.string S) := by simp [World.cell?, hea]
      have e2 : Wa.cell? ⟨w.heap.size, 2, none⟩ = some (.slice A n c) := by simp [World.cell?, hea]
      have r0 : Wa.cell? ⟨w.heap.size + 1, 0, none⟩ = some (.int .i64 0) := by simp [World.cell?, hra]
      have r1 : Wa.cell? ⟨w.heap.size + 1, 1, none⟩ = some (.string ⟨#[]⟩) := by simp [World.cell?, hra]
      have r2 : Wa.cell? ⟨w.heap.size + 1, 2, none⟩ = some (.slice none 0 0) := by simp [World.cell?, hra]
      have rf : ∀ o, Wa.frozen? ⟨w.heap.size + 1, o, none⟩ = false := fun o => by simp [World.frozen?, hra]
      have rl : w.heap.size + 1 < Wa.heap.size := (Array.getElem?_eq_some_iff.1 hra).1
      clear hla hva hea hra hWa
      cases has
      · go_wp2_with fail
        refine bodyPost_ret (v := .tuple #[.agg #[.int .i64 1, .string S, .slice A n c], .int .i64 1]) (by simp [results, Try.results94, go_sem, r0, r1, r2]) rfl ?_
        exact HP.out _ _ rfl (below_tri HLA.out (Nat.le_succ _) 0 _ _ _)
      · go_wp2_with fail
        refine bodyPost_ret (v := .tuple #[.agg #[.int .i64 K1, .string S1, .slice A1 n1 c1], .int .i64 1]) (by simp [results, Try.results94, go_sem, r0, r1, r2]) rfl ?_
        exact HP.out _ _ rfl (below_tri HLA.out (Nat.le_succ _) 0 _ _ _)
  · have HE := Lib.hid (show replE f e b = e by simp [replE, hk])
    have HL := Lib.hid (show replB e b = b by simp [replB, hk])
    have HP := Lib.hid (show ∀ (r : Ending) (w2 : World), r = .returned (.tuple #[.agg #[.int .i64 e.kind, .string e.name, .slice A n c], .int .i64 (lay b)]) → Below w.heap.size w w2 → ReplPost wo f e b w r w2 from fun r w2 hr hb => by
      unfold ReplPost
      rw [HE.out, HL.out]
      exact ⟨A, n, c, bs, hr, HX.out.1, HX.out.2, hb⟩)
    clear hm hv HE HL HX
    generalize e.kind = K at *
    generalize e.name = S at *
    generalize lay b = B at *
    have hk2 : (K != 1) = true := by simp [hk]
    go_enter Try.func94, Try.ntmps94
    go_wp2_with fail
    refine bodyPost_ret (v := .tuple #[.agg #[.int .i64 K, .string S, .slice A n c], .int .i64 B]) (by simp [results, Try.results94, go_sem]) rfl ?_
    exact HP.out _ _ rfl (HB.out _ _)
end Go.Proofs.Ytbnghkgfbjipdaa
