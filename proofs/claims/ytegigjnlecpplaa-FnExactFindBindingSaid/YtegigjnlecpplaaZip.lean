/- A copy under way: rows whose last parts are done, one row hanging in the open place of the next. No condition. -/
import Derived.Test.YtegigjnlecpplaaSub
import Derived.Test.YtegigjnlecpplaaExMark
import Derived.Test.YtegigjnlecpplaaExCopy
namespace Go.Proofs.Ytegigjnlecpplaa
open Go Go.RowKit

/-- A place that holds an expression. -/
abbrev Pt (wo : World) : Type := { x : Nat × Nat × Ex × List Nat // ExAt wo x.1 x.2.1 x.2.2.1 x.2.2.2 ∧ x.1 < wo.heap.size }
section
variable {wo : World}
def Pt.ex (x : Pt wo) : Ex := x.1.2.2.1
def Pt.adr (x : Pt wo) : Addr := ⟨x.1.1, x.1.2.1, none⟩
theorem kids_pts {g o : Nat} (hg : g < wo.heap.size) : ∀ (l : List Ex) (j : Nat) (bs : List Nat), ExsAt wo g o j l bs → ∃ ks : List (Pt wo), ks.map Pt.ex = l ∧ ∀ (i : Nat) (k : Pt wo), ks[i]? = some k → k.adr = ⟨g, o + (j + i) * 3, none⟩ := by
  intro l
  induction l with
  | nil => intro j bs _; exact ⟨[], rfl, fun i k h => by simp at h⟩
  | cons e r ih =>
    intro j bs h
    rw [ExsAt] at h
    obtain ⟨b1, b2, rfl, h1, h2⟩ := h
    obtain ⟨ks, e1, e2⟩ := ih (j + 1) b2 h2
    refine ⟨⟨(g, o + j * 3, e, b1), h1, hg⟩ :: ks, by rw [List.map_cons, e1]; rfl, fun i k hi => ?_⟩
    cases i with
    | zero =>
      simp at hi
      rw [← hi]
      rfl
    | succ i =>
      rw [e2 i k (by simpa using hi)]
      congr 2
      omega
theorem SlIs.pts {A : Option Addr} {q c : Nat} {l : List Ex} {bs : List Nat} (h : SlIs wo (.slice A q c) l bs) : q = l.length ∧ (l = [] ∨ ∃ g o, A = some ⟨g, o, none⟩ ∧ g < wo.heap.size ∧ ∃ ks : List (Pt wo), ks.map Pt.ex = l ∧ ∀ (i : Nat) (k : Pt wo), ks[i]? = some k → k.adr = ⟨g, o + i * 3, none⟩) := by
  refine ⟨h.len.1, ?_⟩
  obtain ⟨A', c', e1, h1, h2, h3⟩ := h
  cases e1
  rcases h3 with ⟨rfl, -⟩ | ⟨g, o, bs', rfl, hb, rfl, h4⟩
  · exact Or.inl rfl
  · obtain ⟨ks, e1, e2⟩ := kids_pts hb l 0 bs' h4
    exact Or.inr ⟨g, o, rfl, hb, ks, e1, fun i k hi => by rw [e2 i k hi, Nat.zero_add]⟩
theorem Pt.parts (x : Pt wo) : ∃ A c bs, wo.cell? ⟨x.1.1, x.1.2.1, none⟩ = some (.int .i64 x.ex.kind) ∧ wo.cell? ⟨x.1.1, x.1.2.1 + 1, none⟩ = some (.string x.ex.name) ∧ wo.cell? ⟨x.1.1, x.1.2.1 + 2, none⟩ = some (.slice A x.ex.args.length c) ∧ ExIs wo (.agg #[.int .i64 x.ex.kind, .string x.ex.name, .slice A x.ex.args.length c]) x.ex bs := by
  obtain ⟨u, c0, c1, c2, h⟩ := x.2.1.is
  obtain ⟨u', e1, hs, A, c, e2, h1, h2, h3⟩ := id h
  simp only [Value.agg.injEq, Array.mk.injEq, List.cons.injEq, and_true, true_and] at e1
  subst e1; subst e2
  exact ⟨A, c, _, c0, c1, c2, h⟩

/-- A part that is still to be copied: its place, and whether it was inserted. -/
abbrev Un (wo : World) : Type := Pt wo × Bool
def resU (f : ByteArray → Option Ex) (u : Un wo) : Ex := resE f u.1.ex u.2
def lay (b : Bool) : Int := if b then 1 else 0
theorem lay_eq (a b : Bool) : (lay a = lay b) ↔ a = b := by cases a <;> cases b <;> simp [lay]

/-- A row of expressions that is plain memory. -/
def TyE (w : World) (x : Nat) : Prop := ∃ cs, w.heap[x]? = some (.cells cs 26 (0, 0))
def TyN (w : World) (x n : Nat) : Prop := ∃ cs : Array Value, w.heap[x]? = some (.cells cs 26 (0, 0)) ∧ cs.size = n
theorem TyN.ty {w : World} {x n : Nat} (h : TyN w x n) : TyE w x := by obtain ⟨cs, h, -⟩ := h; exact ⟨cs, h⟩
theorem TyE.lt {w : World} {x : Nat} (h : TyE w x) : x < w.heap.size := by obtain ⟨cs, h⟩ := h; exact (Array.getElem?_eq_some_iff.1 h).1
theorem TyE.free {w : World} {x : Nat} (h : TyE w x) (o : Nat) : w.frozen? ⟨x, o, none⟩ = false := by
  obtain ⟨cs, h⟩ := h
  simp [World.frozen?, h]
theorem TyN.cell {w : World} {x n : Nat} (h : TyN w x n) {i : Nat} (hi : i < n) : ∃ u, w.cell? ⟨x, i, none⟩ = some u := by
  obtain ⟨cs, h, hs⟩ := h
  exact ⟨cs[i], by simp [World.cell?, h, hs, hi]⟩
/-- Of the rows of expressions only those of S have turned. -/
structure EF (S : List Nat) (w w' : World) : Prop where
  size : w.heap.size ≤ w'.heap.size
  block : ∀ x, x ∉ S → TyE w x → w'.heap[x]? = w.heap[x]?
theorem EF.refl (S : List Nat) (w : World) : EF S w w := ⟨Nat.le_refl _, fun _ _ _ => rfl⟩
theorem EF.ty {S : List Nat} {w w' : World} (h : EF S w w') {x : Nat} (hx : x ∉ S) (ht : TyE w x) : TyE w' x := by
  obtain ⟨cs, hc⟩ := id ht
  exact ⟨cs, (h.block x hx ht).trans hc⟩
theorem EF.tyn {S : List Nat} {w w' : World} (h : EF S w w') {x n : Nat} (hx : x ∉ S) (ht : TyN w x n) : TyN w' x n := by
  obtain ⟨cs, hc, hs⟩ := id ht
  exact ⟨cs, (h.block x hx ht.ty).trans hc, hs⟩
theorem EF.trans {S : List Nat} {a b c : World} (h : EF S a b) (k : EF S b c) : EF S a c :=
  ⟨Nat.le_trans h.size k.size, fun x hx ht => (k.block x hx (h.ty hx ht)).trans (h.block x hx ht)⟩
theorem EF.more {S T : List Nat} {a b : World} (h : EF S a b) (hs : ∀ x ∈ S, x ∈ T) : EF T a b := ⟨h.size, fun x hx => h.block x (fun k => hx (hs x k))⟩
theorem EF.keeps {S bs : List Nat} {w w' : World} (h : EF S w w') (hb : ∀ x ∈ bs, x ∉ S ∧ TyE w x) : Keeps w w' bs := ⟨h.size, fun x hx _ => h.block x (hb x hx).1 (hb x hx).2⟩
theorem EF.cell {S : List Nat} {w w' : World} (h : EF S w w') {x : Nat} (hx : x ∉ S) (ht : TyE w x) (i : Nat) : w'.cell? ⟨x, i, none⟩ = w.cell? ⟨x, i, none⟩ := World.cell?_of_block (w := w) (a := ⟨x, i, none⟩) (h.block x hx ht)
theorem EF.of_below {w w' : World} (h : Below w.heap.size w w') (S : List Nat) : EF S w w' := ⟨h.size, fun x _ ht => h.block x ht.lt⟩
theorem EF.drew {w : World} (S : List Nat) : EF S w w.drew := ⟨Nat.le_refl _, fun _ _ _ => rfl⟩
/-- A change of one block that is no row of expressions. -/
theorem EF.one {w w' : World} {b : Nat} (hb : ¬ TyE w b) (hs : w.heap.size ≤ w'.heap.size) (h : ∀ k, k < w.heap.size → k ≠ b → w'.heap[k]? = w.heap[k]?) (S : List Nat) : EF S w w' :=
  ⟨hs, fun x _ ht => h x ht.lt (fun e => hb (e ▸ ht))⟩

/-- Three cells stored. -/
def tri (W : World) (B o : Nat) (x0 x1 x2 : Value) : World := ((W.setCell ⟨B, o, none⟩ x0).setCell ⟨B, o + 1, none⟩ x1).setCell ⟨B, o + 2, none⟩ x2
theorem tri_size (W : World) (B o : Nat) (x0 x1 x2 : Value) : (tri W B o x0 x1 x2).heap.size = W.heap.size := by simp [tri, World.setCell]
theorem tri_other (W : World) (B o : Nat) (x0 x1 x2 : Value) (k : Nat) (h : k ≠ B) : (tri W B o x0 x1 x2).heap[k]? = W.heap[k]? := by
  unfold tri
  exact ((Below.heap_setCell _ _ _ k h).trans (Below.heap_setCell _ _ _ k h)).trans (Below.heap_setCell _ _ _ k h)
theorem tri_ef (W : World) (B o : Nat) (x0 x1 x2 : Value) : EF [B] W (tri W B o x0 x1 x2) := ⟨by rw [tri_size]; exact Nat.le_refl _, fun x hx _ => tri_other W B o x0 x1 x2 x (by simpa using hx)⟩
theorem tyn_set {W : World} {B n : Nat} (h : TyN W B n) (o : Nat) (u : Value) : TyN (W.setCell ⟨B, o, none⟩ u) B n := by
  obtain ⟨cs, h, hs⟩ := h
  exact ⟨cs.setIfInBounds o u, by simp [World.setCell, Array.getElem?_modify, h], by simp [hs]⟩
theorem tri_tyn {W : World} {B n : Nat} (h : TyN W B n) (o : Nat) (x0 x1 x2 : Value) : TyN (tri W B o x0 x1 x2) B n := tyn_set (tyn_set (tyn_set h _ _) _ _) _ _
theorem tri_cells {W : World} {B n o : Nat} (h : TyN W B n) (ho : o + 3 ≤ n) (x0 x1 x2 : Value) : (tri W B o x0 x1 x2).cell? ⟨B, o, none⟩ = some x0 ∧ (tri W B o x0 x1 x2).cell? ⟨B, o + 1, none⟩ = some x1 ∧ (tri W B o x0 x1 x2).cell? ⟨B, o + 2, none⟩ = some x2 := by
  obtain ⟨u0, h0⟩ := h.cell (i := o) (by omega)
  obtain ⟨u1, h1⟩ := h.cell (i := o + 1) (by omega)
  obtain ⟨u2, h2⟩ := h.cell (i := o + 2) (by omega)
  unfold tri
  refine ⟨?_, ?_, ?_⟩
  · rw [set_other _ _ _ _ _ (by omega), set_other _ _ _ _ _ (by omega)]
    exact World.cell?_setCell_same _ _ _ h0
  · rw [set_other _ _ _ _ _ (by omega)]
    exact World.cell?_setCell_same _ _ _ (u := u1) (by rw [set_other _ _ _ _ _ (by omega)]; exact h1)
  · exact World.cell?_setCell_same _ _ _ (u := u2) (by rw [set_other _ _ _ _ _ (by omega), set_other _ _ _ _ _ (by omega)]; exact h2)
theorem tri_far (W : World) (B o : Nat) (x0 x1 x2 : Value) (m : Nat) (h : m < o ∨ o + 3 ≤ m) : (tri W B o x0 x1 x2).cell? ⟨B, m, none⟩ = W.cell? ⟨B, m, none⟩ := by
  unfold tri
  rw [set_other _ _ _ _ _ (by omega), set_other _ _ _ _ _ (by omega), set_other _ _ _ _ _ (by omega)]

/-- A row under way: its block, what it is to hold, the parts of it that are still open. -/
structure Lev (wo : World) where
  b : Nat
  l : List Ex
  its : List (Un wo)
/-- Beyond the open parts, from index j on, the row is done. -/
def DoneAt (w : World) (n0 b j : Nat) (len : Nat) (t : List Ex) (hi : Nat) (bs : List Nat) : Prop :=
  n0 ≤ b ∧ b < hi ∧ TyN w b (len * 3) ∧ ExsAt w b 0 j t bs ∧ bs.Nodup ∧ (∀ x ∈ bs, b < x ∧ x < hi ∧ TyE w x) ∧ len ≤ 9223372036854775807
theorem DoneAt.ef {S : List Nat} {w w' : World} {n0 b j len hi : Nat} {t : List Ex} {bs : List Nat} (h : DoneAt w n0 b j len t hi bs) (he : EF S w w') (hS : ∀ x, x < hi → x ∉ S) : DoneAt w' n0 b j len t hi bs := by
  obtain ⟨h1, h2, h3, h4, h5, h6, h7⟩ := h
  refine ⟨h1, h2, he.tyn (hS b h2) h3, ?_, h5, fun x hx => ⟨(h6 x hx).1, (h6 x hx).2.1, he.ty (hS x (h6 x hx).2.1) (h6 x hx).2.2⟩, h7⟩
  exact (ex_keeps _).2 t (Nat.le_refl _) w w' b 0 j bs h4 h3.ty.lt (he.keeps (fun x hx => by
    rcases List.mem_cons.1 hx with rfl | hx
    · exact ⟨hS x h2, h3.ty⟩
    · exact ⟨hS x (h6 x hx).2.1, (h6 x hx).2.2⟩))
theorem DoneAt.up {w : World} {n0 b j len hi hi' : Nat} {t : List Ex} {bs : List Nat} (h : DoneAt w n0 b j len t hi bs) (hh : hi ≤ hi') : DoneAt w n0 b j len t hi' bs := by
  obtain ⟨h1, h2, h3, h4, h5, h6, h7⟩ := h
  exact ⟨h1, Nat.lt_of_lt_of_le h2 hh, h3, h4, h5, fun x hx => ⟨(h6 x hx).1, Nat.lt_of_lt_of_le (h6 x hx).2.1 hh, (h6 x hx).2.2⟩, h7⟩
/-- The three cells of the open place in which the next row hangs. -/
def HoleAt (w : World) (b p : Nat) (k : Int) (s : ByteArray) (b' n : Nat) : Prop :=
  w.cell? ⟨b, p * 3, none⟩ = some (.int .i64 k) ∧ w.cell? ⟨b, p * 3 + 1, none⟩ = some (.string s) ∧ s.size ≤ 9223372036854775807 ∧ w.cell? ⟨b, p * 3 + 2, none⟩ = some (.slice (some ⟨b', 0, none⟩) n n)
/-- The rows below one. -/
def Rest (w : World) (f : ByteArray → Option Ex) (n0 : Nat) : Nat → List Ex → List (Lev wo) → Prop
  | _, _, [] => True
  | b', l', L :: more => (∃ k s t bs, L.l = L.its.map (resU f) ++ .mk k s l' :: t ∧ DoneAt w n0 L.b (L.its.length + 1) L.l.length t b' bs ∧ HoleAt w L.b L.its.length k s b' l'.length) ∧ Rest w f n0 L.b L.l more
def Top (w : World) (f : ByteArray → Option Ex) (n0 hi : Nat) (L : Lev wo) : Prop := ∃ t bs, L.l = L.its.map (resU f) ++ t ∧ DoneAt w n0 L.b L.its.length L.l.length t hi bs
/-- A copy under way, the topmost row first. -/
def Zip (w : World) (f : ByteArray → Option Ex) (n0 : Nat) : List (Lev wo) → Prop
  | [] => False
  | T :: more => Top w f n0 w.heap.size T ∧ Rest w f n0 T.b T.l more
/-- The lowest row is the result's own box. -/
def Bot (b0 : Nat) (R : Ex) : List (Lev wo) → Prop
  | [] => False
  | [L] => L.b = b0 ∧ L.l = [R]
  | _ :: L :: r => Bot b0 R (L :: r)
theorem rest_ef {S : List Nat} {w w' : World} {f : ByteArray → Option Ex} {n0 : Nat} (he : EF S w w') : ∀ (Ls : List (Lev wo)) (b' : Nat) (l' : List Ex), (∀ x, x < b' → x ∉ S) → Rest w f n0 b' l' Ls → Rest w' f n0 b' l' Ls := by
  intro Ls
  induction Ls with
  | nil => intro b' l' _ _; trivial
  | cons L more ih =>
    intro b' l' hS h
    obtain ⟨⟨k, s, t, bs, h1, h2, h3⟩, h4⟩ := h
    have hLb := h2.2.1
    have hty := h2.2.2.1.ty
    obtain ⟨c0, c1, hs, c2⟩ := h3
    have hc := fun i => he.cell (hS _ hLb) hty i
    exact ⟨⟨k, s, t, bs, h1, h2.ef he hS, (hc _).trans c0, (hc _).trans c1, hs, (hc _).trans c2⟩, ih L.b L.l (fun x hx => hS x (by omega)) h4⟩
theorem zip_ef {w w' : World} {f : ByteArray → Option Ex} {n0 : Nat} {Ls : List (Lev wo)} (he : EF [] w w') (h : Zip w f n0 Ls) : Zip w' f n0 Ls := by
  cases Ls with
  | nil => exact h
  | cons T more =>
    obtain ⟨⟨t, bs, h1, h2⟩, h3⟩ := h
    exact ⟨⟨t, bs, h1, (h2.ef he (fun _ _ => by simp)).up he.size⟩, rest_ef he more T.b T.l (fun _ _ => by simp) h3⟩
/-- A row that is done is part of the one below. -/
theorem zip_fold {w : World} {f : ByteArray → Option Ex} {n0 : Nat} {T L : Lev wo} {more : List (Lev wo)} (h : Zip w f n0 (T :: L :: more)) (hT : T.its = []) : Zip w f n0 (L :: more) := by
  obtain ⟨⟨t, bs, h1, h2⟩, ⟨⟨k, s, t', bs', h3, h4, h5⟩, h6⟩⟩ := h
  rw [hT] at h1 h2
  simp only [List.map_nil, List.nil_append] at h1
  obtain ⟨a1, a2, a3, a4, a5, a6, a7⟩ := h2
  obtain ⟨b1, b2, b3, b4, b5, b6, b7⟩ := h4
  obtain ⟨c0, c1, cs, c2⟩ := h5
  have hTl := a3.ty.lt
  refine ⟨⟨.mk k s T.l :: t', (T.b :: bs) ++ bs', h3, b1, b3.ty.lt, b3, ?_, ?_, ?_, b7⟩, h6⟩
  · rw [ExsAt]
    refine ⟨T.b :: bs, bs', rfl, ?_, b4⟩
    rw [ExAt, Nat.zero_add]
    exact ⟨c0, c1, cs, _, _, c2, Nat.le_refl _, a7, Or.inr ⟨T.b, 0, bs, rfl, hTl, rfl, by rw [h1]; exact a4⟩⟩
  · rw [List.nodup_append]
    refine ⟨List.nodup_cons.2 ⟨fun hx => by have := (a6 _ hx).1; omega, a5⟩, b5, fun x hx y hy e => ?_⟩
    have hy2 := (b6 y hy).2.1
    rcases List.mem_cons.1 hx with rfl | hx
    · omega
    · have := (a6 x hx).1; omega
  · intro x hx
    rcases List.mem_append.1 hx with hx | hx
    · rcases List.mem_cons.1 hx with rfl | hx
      · exact ⟨b2, hTl, a3.ty⟩
      · exact ⟨Nat.lt_trans b2 (a6 x hx).1, (a6 x hx).2.2.lt, (a6 x hx).2.2⟩
    · exact ⟨(b6 x hx).1, (b6 x hx).2.2.lt, (b6 x hx).2.2⟩

/-- What is still open, in the order of the list: the row's block, the index, the part. -/
def openOf (L : Lev wo) : List (Nat × Nat × Un wo) := L.its.zipIdx.map (fun u => (L.b, u.2, u.1))
def opens : List (Lev wo) → List (Nat × Nat × Un wo)
  | [] => []
  | L :: more => opens more ++ openOf L
def ucells (x : Nat × Nat × Un wo) : List Value := [.pointer (some x.2.2.1.adr), .pointer (some ⟨x.1, x.2.1 * 3, none⟩), .int .i64 (lay x.2.2.2)]
def uflat (xs : List (Nat × Nat × Un wo)) : List Value := xs.flatMap ucells
theorem uflat_len (xs : List (Nat × Nat × Un wo)) : (uflat xs).length = xs.length * 3 := by
  induction xs with
  | nil => rfl
  | cons p r ih => rw [uflat, List.flatMap_cons, List.length_append, ← uflat, ih]; simp [ucells]; omega
theorem uflat_app (xs ys : List (Nat × Nat × Un wo)) : uflat (xs ++ ys) = uflat xs ++ uflat ys := by simp [uflat]
theorem uflat_one (xs : List (Nat × Nat × Un wo)) (x : Nat × Nat × Un wo) : uflat (xs ++ [x]) = uflat xs ++ ucells x := by simp [uflat]
/-- How many nodes are still to be made. -/
def uweigh (f : ByteArray → Option Ex) : List (Nat × Nat × Un wo) → Nat
  | [] => 0
  | x :: r => exSize (resU f x.2.2) + uweigh f r
theorem uweigh_app (f : ByteArray → Option Ex) : ∀ (a b : List (Nat × Nat × Un wo)), uweigh f (a ++ b) = uweigh f a + uweigh f b := by
  intro a
  induction a with
  | nil => intro b; simp [uweigh]
  | cons p r ih => intro b; rw [List.cons_append, uweigh, uweigh, ih]; omega
theorem uweigh_len (f : ByteArray → Option Ex) (xs : List (Nat × Nat × Un wo)) : xs.length ≤ uweigh f xs := by
  induction xs with
  | nil => simp [uweigh]
  | cons p r ih => rw [uweigh, List.length_cons]; have := exSize_pos (resU f p.2.2); omega
theorem openOf_snoc (b : Nat) (l : List Ex) (its : List (Un wo)) (x : Un wo) : openOf ⟨b, l, its ++ [x]⟩ = openOf ⟨b, l, its⟩ ++ [(b, its.length, x)] := by
  simp [openOf, List.zipIdx_append]
theorem openOf_len (L : Lev wo) : (openOf L).length = L.its.length := by simp [openOf]
theorem openOf_weigh (f : ByteArray → Option Ex) (L : Lev wo) : uweigh f (openOf L) = exSizes (L.its.map (resU f)) := by
  have h : ∀ (its : List (Un wo)) (j : Nat), uweigh f ((its.zipIdx j).map (fun u => (L.b, u.2, u.1))) = exSizes (its.map (resU f)) := by
    intro its
    induction its with
    | nil => intro j; rfl
    | cons x r ih => intro j; rw [List.zipIdx_cons, List.map_cons, uweigh, ih, List.map_cons, exSizes]
  exact h L.its 0
/-- Rows that are done are folded until one has an open part. -/
theorem zip_norm {w : World} {f : ByteArray → Option Ex} {n0 b0 : Nat} {R : Ex} : ∀ (Ls : List (Lev wo)), Zip w f n0 Ls → Bot b0 R Ls →
    (opens Ls = [] ∧ ∃ T : Lev wo, Zip w f n0 [T] ∧ T.b = b0 ∧ T.l = [R] ∧ T.its = []) ∨ ∃ b l its x more, Zip w f n0 (⟨b, l, its ++ [x]⟩ :: more) ∧ Bot b0 R (⟨b, l, its ++ [x]⟩ :: more) ∧ opens Ls = opens (⟨b, l, its⟩ :: more) ++ [(b, its.length, x)] := by
  intro Ls
  induction Ls with
  | nil => intro h; exact h.elim
  | cons T more ih =>
    intro h hb
    rcases List.eq_nil_or_concat T.its with hT | ⟨its, x, hT⟩
    · cases more with
      | nil => exact Or.inl ⟨by simp [opens, openOf, hT], T, h, hb.1, hb.2, hT⟩
      | cons L more' =>
        have ho : opens (T :: L :: more') = opens (L :: more') := by rw [opens]; simp [openOf, hT]
        rw [ho]
        exact ih (zip_fold h hT) hb
    · obtain ⟨b, l, its0⟩ := T
      simp only [List.concat_eq_append] at hT
      subst hT
      exact Or.inr ⟨b, l, its, x, more, h, hb, by rw [opens, opens, openOf_snoc, List.append_assoc]⟩
/-- The result, when nothing is open any more. -/
theorem zip_end {w : World} {f : ByteArray → Option Ex} {n0 b0 : Nat} {R : Ex} {T : Lev wo} (h : Zip w f n0 [T]) (hb : T.b = b0) (hl : T.l = [R]) (hT : T.its = []) :
    ∃ bs, ExAt w b0 0 R bs ∧ bs.Nodup ∧ (∀ x ∈ bs, b0 < x ∧ TyE w x) ∧ TyE w b0 ∧ n0 ≤ b0 := by
  obtain ⟨⟨t, bs, h1, h2⟩, -⟩ := h
  rw [hT, hl] at h1
  obtain ⟨a1, a2, a3, a4, a5, a6, -⟩ := h2
  simp only [List.map_nil, List.nil_append] at h1
  rw [hT, ← h1, ExsAt] at a4
  obtain ⟨b1, b2, e1, e2, e3⟩ := a4
  rw [ExsAt] at e3
  subst e3
  rw [List.append_nil] at e1
  subst e1
  rw [hb] at a1 a3 a6 e2
  exact ⟨bs, by simpa using e2, a5, fun x hx => ⟨(a6 x hx).1, (a6 x hx).2.2⟩, a3.ty, a1⟩
/-- The start: the result's own box, and the whole expression open. -/
theorem zip_start {w : World} (f : ByteArray → Option Ex) {n0 b0 : Nat} (u : Un wo) (hn : n0 ≤ b0) (ht : TyN w b0 3) : Zip w f n0 [⟨b0, [resU f u], [u]⟩] ∧ Bot b0 (resU f u) [(⟨b0, [resU f u], [u]⟩ : Lev wo)] :=
  ⟨⟨⟨[], [], by simp, hn, ht.ty.lt, ht, by rw [ExsAt], List.nodup_nil, (fun x hx => by cases hx), by simp⟩, trivial⟩, rfl, rfl⟩
/-- A part without arguments is written. -/
theorem zip_leaf {w : World} {f : ByteArray → Option Ex} {n0 b : Nat} {l : List Ex} {its : List (Un wo)} {x : Un wo} {more : List (Lev wo)} {k : Int} {s : ByteArray} (h : Zip w f n0 (⟨b, l, its ++ [x]⟩ :: more)) (hx : resU f x = .mk k s []) (hs : s.size ≤ 9223372036854775807) :
    Zip (tri w b (its.length * 3) (.int .i64 k) (.string s) (.slice none 0 0)) f n0 (⟨b, l, its⟩ :: more) := by
  obtain ⟨⟨t, bs, h1, h2⟩, h3⟩ := h
  simp only at h1 h2 h3
  obtain ⟨a1, a2, a3, a4, a5, a6, a7⟩ := h2
  have hef := tri_ef w b (its.length * 3) (.int .i64 k) (.string s) (.slice none 0 0)
  have hp : its.length < l.length := by rw [h1]; simp
  obtain ⟨q0, q1, q2⟩ := tri_cells a3 (o := its.length * 3) (by omega) (.int .i64 k) (.string s) (.slice none 0 0)
  have hne : ∀ y ∈ bs, y ∉ [b] := fun y hy => by have := (a6 y hy).1; simp; omega
  refine ⟨⟨.mk k s [] :: t, bs, by rw [h1, List.map_append, List.map_singleton, hx, List.append_assoc]; rfl, a1, by rw [tri_size]; exact a2, tri_tyn a3 _ _ _ _, ?_, a5, fun y hy => ⟨(a6 y hy).1, by rw [tri_size]; exact (a6 y hy).2.1, hef.ty (hne y hy) (a6 y hy).2.2⟩, a7⟩, rest_ef hef more b l (fun y hy => by simp; omega) h3⟩
  rw [ExsAt]
  refine ⟨[], bs, rfl, ?_, ?_⟩
  · rw [ExAt, Nat.zero_add]
    exact ⟨q0, q1, hs, none, 0, q2, by simp, by simp, Or.inl ⟨rfl, rfl⟩⟩
  · rw [List.length_append, List.length_singleton] at a4
    exact ExsAt.from_ t (its.length + 1) bs a4 (fun m hm => tri_far _ _ _ _ _ _ m (by omega)) (hef.keeps (fun y hy => ⟨hne y hy, (a6 y hy).2.2⟩))
/-- A part with arguments is written, and the row for these is the topmost one then. -/
theorem zip_push {w w1 : World} {f : ByteArray → Option Ex} {n0 b b2 : Nat} {l : List Ex} {its ks : List (Un wo)} {x : Un wo} {more : List (Lev wo)} {k : Int} {s : ByteArray} (h : Zip w f n0 (⟨b, l, its ++ [x]⟩ :: more)) (hx : resU f x = .mk k s (ks.map (resU f))) (hs : s.size ≤ 9223372036854775807)
    (he : EF [] w w1) (hb2 : w.heap.size ≤ b2) (hT2 : TyN w1 b2 (ks.length * 3)) (hkl : ks.length ≤ 9223372036854775807) :
    Zip (tri w1 b (its.length * 3) (.int .i64 k) (.string s) (.slice (some ⟨b2, 0, none⟩) ks.length ks.length)) f n0 (⟨b2, ks.map (resU f), ks⟩ :: ⟨b, l, its⟩ :: more) := by
  obtain ⟨⟨t, bs, h1, h2⟩, h3⟩ := h
  simp only at h1 h2 h3
  have h4 := h2.ef he (fun _ _ => by simp)
  obtain ⟨a1, a2, a3, a4, a5, a6, a7⟩ := h4
  have hef := tri_ef w1 b (its.length * 3) (.int .i64 k) (.string s) (.slice (some ⟨b2, 0, none⟩) ks.length ks.length)
  have hp : its.length < l.length := by rw [h1]; simp
  obtain ⟨q0, q1, q2⟩ := tri_cells a3 (o := its.length * 3) (by omega) (.int .i64 k) (.string s) (.slice (some ⟨b2, 0, none⟩) ks.length ks.length)
  have hne : ∀ y ∈ bs, y ∉ [b] := fun y hy => by have := (a6 y hy).1; simp; omega
  have hbne : b2 ∉ [b] := by simp; omega
  refine ⟨⟨[], [], by simp, (show n0 ≤ b2 by omega), (hef.ty hbne hT2.ty).lt, ?_, by rw [ExsAt], List.nodup_nil, (fun y hy => by cases hy), by simpa using hkl⟩, ⟨k, s, t, bs, ?_, ⟨a1, by simp only; omega, tri_tyn a3 _ _ _ _, ?_, a5, fun y hy => ⟨(a6 y hy).1, by have := (a6 y hy).2.1; simp only; omega, hef.ty (hne y hy) (a6 y hy).2.2⟩, a7⟩, q0, q1, hs, by simpa using q2⟩, ?_⟩
  · simpa using hef.tyn hbne hT2
  · rw [h1, List.map_append, List.map_singleton, hx, List.append_assoc]; rfl
  · rw [List.length_append, List.length_singleton] at a4
    exact ExsAt.from_ t (its.length + 1) bs a4 (fun m hm => tri_far _ _ _ _ _ _ m (by omega)) (hef.keeps (fun y hy => ⟨hne y hy, (a6 y hy).2.2⟩))
  · exact rest_ef hef more b l (fun y hy => by simp; omega) (rest_ef he more b l (fun _ _ => by simp) h3)
end
end Go.Proofs.Ytegigjnlecpplaa
