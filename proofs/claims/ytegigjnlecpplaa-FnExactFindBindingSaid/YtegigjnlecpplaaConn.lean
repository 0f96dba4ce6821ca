/- For the program's own equalities: places that hold arguments, what it says that they are joined, and that joined places hold equal arguments once nothing is left to compare. No condition. -/
import Derived.Test.YtegigjnlecpplaaEqKit
import Derived.Test.YtegigjnlecpplaaFirsts
namespace Go.Proofs.Ytegigjnlecpplaa
open Go Go.RowKit

theorem eq_iff (n : Nat) : (∀ (a b : Ex), exSize a ≤ n → (exEq a b = true ↔ a = b)) ∧ (∀ (l m : List Ex), exSizes l ≤ n → (exEqs l m = true ↔ l = m)) := by
  induction n with
  | zero =>
    refine ⟨fun a b h => by have := exSize_pos a; omega, fun l m h => ?_⟩
    cases l with
    | nil => cases m <;> simp [exEqs]
    | cons a r => rw [exSizes] at h; have := exSize_pos a; omega
  | succ n ih =>
    have hE : ∀ (a b : Ex), exSize a ≤ n + 1 → (exEq a b = true ↔ a = b) := by
      intro a b h
      cases a with
      | mk k s l =>
        cases b with
        | mk k2 s2 l2 =>
          rw [exSize] at h
          have := ih.2 l l2 (by omega)
          rw [exEq_parts, Bool.and_eq_true, Bool.and_eq_true, Ex.mk.injEq]
          exact ⟨fun h => ⟨of_decide_eq_true h.1, of_decide_eq_true h.2.1, this.1 h.2.2⟩, fun h => ⟨decide_eq_true h.1, decide_eq_true h.2.1, this.2 h.2.2⟩⟩
    refine ⟨hE, ?_⟩
    intro l
    induction l with
    | nil => intro m _; cases m <;> simp [exEqs]
    | cons a r ihl =>
      intro m h
      rw [exSizes] at h
      have := exSize_pos a
      cases m with
      | nil => simp [exEqs]
      | cons b s => rw [exEqs, Bool.and_eq_true, hE a b (by omega), ihl s (by omega)]; simp
theorem exEq_same (a b : Ex) : exEq a b = true ↔ a = b := (eq_iff _).1 a b (Nat.le_refl _)

/-- A place that holds some arguments. -/
abbrev Pl (wo : World) (G : List Nat) : Type := { p : Nat × Nat × List Ex × List Nat // ExsAt wo p.1 p.2.1 0 p.2.2.1 p.2.2.2 ∧ p.1 ∈ G ∧ (∀ z ∈ p.2.2.2, z ∈ G) ∧ p.2.2.1 ≠ [] }
section
variable {wo : World} {G : List Nat}
def Pl.exs (p : Pl wo G) : List Ex := p.1.2.2.1
def Pl.adr (p : Pl wo G) : Addr := ⟨p.1.1, p.1.2.1, none⟩
def Pl.key (p : Pl wo G) : Value := .agg #[.pointer (some p.adr), .int .i64 (p.exs.length : Int)]
theorem Pl.det {p q : Pl wo G} (h : p.key = q.key) : p.exs = q.exs := by
  simp only [Pl.key, Pl.adr, Value.agg.injEq, Array.mk.injEq, List.cons.injEq, Value.pointer.injEq, Option.some.injEq, Addr.mk.injEq, Value.int.injEq, and_true, true_and] at h
  obtain ⟨⟨h1, h2⟩, h3⟩ := h
  have hq := q.2.1
  rw [← h1, ← h2] at hq
  exact (at_det _).2 _ _ (Nat.le_refl _) wo _ _ _ _ _ p.2.1 hq (show p.exs.length = q.exs.length by omega)
theorem Pl.kids_ex (p : Pl wo G) : ∃ ks : List (At wo G), ks.map At.ex = p.exs ∧ ∀ (i : Nat) (k : At wo G), ks[i]? = some k → k.adr = ⟨p.1.1, p.1.2.1 + (0 + i) * 3, none⟩ := kids_places p.2.2.1 _ 0 _ p.2.1 p.2.2.2.1
noncomputable def Pl.kids (p : Pl wo G) : List (At wo G) := Classical.choose p.kids_ex
theorem Pl.kids_map (p : Pl wo G) : p.kids.map At.ex = p.exs := (Classical.choose_spec p.kids_ex).1
theorem Pl.kids_adr (p : Pl wo G) {i : Nat} {k : At wo G} (h : p.kids[i]? = some k) : k.adr = ⟨p.1.1, p.1.2.1 + i * 3, none⟩ := by
  rw [(Classical.choose_spec p.kids_ex).2 i k h, Nat.zero_add]
theorem Pl.kids_len (p : Pl wo G) : p.kids.length = p.exs.length := by rw [← p.kids_map, List.length_map]
theorem Pl.pos (p : Pl wo G) : 0 < p.exs.length := List.length_pos_iff.2 p.2.2.2.2
/-- What lies in the slice cell of an expression. -/
theorem At.place (x : At wo G) : ∃ A c, wo.cell? x.adr = some (.int .i64 x.ex.kind) ∧ wo.cell? ⟨x.1.1, x.1.2.1 + 1, none⟩ = some (.string x.ex.name) ∧ wo.cell? ⟨x.1.1, x.1.2.1 + 2, none⟩ = some (.slice A x.ex.args.length c) ∧ x.ex.name.size ≤ 9223372036854775807 ∧ x.ex.args.length ≤ c ∧ c ≤ 9223372036854775807 ∧
    (x.ex.args = [] ∨ ∃ p : Pl wo G, A = some p.adr ∧ p.exs = x.ex.args) := by
  obtain ⟨u, c0, c1, c2, h⟩ := x.2.1.is
  obtain ⟨u', e1, hs, A, c, e2, h1, h2, h3⟩ := h
  simp only [Value.agg.injEq, Array.mk.injEq, List.cons.injEq, and_true, true_and] at e1
  subst e1; subst e2
  refine ⟨A, c, c0, c1, c2, hs, h1, h2, ?_⟩
  rcases h3 with ⟨h3, -⟩ | ⟨g, o, bs', rfl, hg, e3, h4⟩
  · exact Or.inl h3
  · by_cases h0 : x.ex.args = []
    · exact Or.inl h0
    · exact Or.inr ⟨⟨(g, o, x.ex.args, bs'), h4, x.2.2.2 g (by rw [e3]; simp), fun z hz => x.2.2.2 z (by rw [e3]; simp [hz]), h0⟩, rfl, rfl⟩

/-- What joins two places at once. -/
def Link (E : List (Pl wo G × Pl wo G)) (x y : Pl wo G) : Prop := (x, y) ∈ E ∨ (y, x) ∈ E ∨ x.exs = y.exs
/-- Two places are joined. -/
inductive Conn (E : List (Pl wo G × Pl wo G)) : Pl wo G → Pl wo G → Prop
  | same {x y : Pl wo G} (h : x.exs = y.exs) : Conn E x y
  | next {x y z : Pl wo G} (h : Conn E x y) (l : Link E y z) : Conn E x z
variable {E E2 : List (Pl wo G × Pl wo G)} {x y z : Pl wo G}
theorem Link.symm (h : Link E x y) : Link E y x := by
  rcases h with h | h | h
  · exact Or.inr (Or.inl h)
  · exact Or.inl h
  · exact Or.inr (Or.inr h.symm)
theorem Conn.trans (h : Conn E x y) (k : Conn E y z) : Conn E x z := by
  induction k with
  | same e => exact h.next (Or.inr (Or.inr e))
  | next _ l ih => exact ih.next l
theorem Conn.link (l : Link E x y) : Conn E x y := (Conn.same rfl).next l
theorem Conn.symm (h : Conn E x y) : Conn E y x := by
  induction h with
  | same e => exact Conn.same e.symm
  | next _ l ih => exact (Conn.link l.symm).trans ih
theorem Conn.more (hE : ∀ p ∈ E, p ∈ E2) (h : Conn E x y) : Conn E2 x y := by
  induction h with
  | same e => exact Conn.same e
  | next _ l ih =>
    refine ih.next ?_
    rcases l with h | h | h
    · exact Or.inl (hE _ h)
    · exact Or.inr (Or.inl (hE _ h))
    · exact Or.inr (Or.inr h)

/-- A pair that need not be compared again. -/
def Done (E : List (Pl wo G × Pl wo G)) (x y : Ex) : Prop := x.kind = y.kind ∧ x.name = y.name ∧ ((x.args = [] ∧ y.args = []) ∨ ∃ a b : Pl wo G, a.exs = x.args ∧ b.exs = y.args ∧ Conn E a b)
theorem Done.more {a b : Ex} (hE : ∀ p ∈ E, p ∈ E2) (h : Done E a b) : Done E2 a b := by
  obtain ⟨h1, h2, h3⟩ := h
  refine ⟨h1, h2, ?_⟩
  rcases h3 with h3 | ⟨a, b, e1, e2, h3⟩
  · exact Or.inl h3
  · exact Or.inr ⟨a, b, e1, e2, h3.more hE⟩
/-- Whatever was joined: its parts are done, or still to be compared. -/
def Sound {w1 : World} {G1 : List Nat} (E : List (Pl wo G × Pl wo G)) (ps : List (Pr w1 G1)) : Prop := ∀ e ∈ E, e.1.exs.length = e.2.exs.length ∧ ∀ p ∈ e.1.kids.zip e.2.kids, (∃ q ∈ ps, q.1.ex = p.1.ex ∧ q.2.ex = p.2.ex) ∨ Done E p.1.ex p.2.ex
theorem exs_same {a b : Ex} (h1 : a.kind = b.kind) (h2 : a.name = b.name) (h3 : a.args = b.args) : a = b := by
  cases a; cases b
  simp only [Ex.kind, Ex.name, Ex.args] at h1 h2 h3
  rw [h1, h2, h3]
theorem zip_all : ∀ (xs ys : List (At wo G)), xs.length = ys.length → (∀ p ∈ xs.zip ys, p.1.ex = p.2.ex) → xs.map At.ex = ys.map At.ex := by
  intro xs
  induction xs with
  | nil => intro ys h _; cases ys with
    | nil => rfl
    | cons y r => simp at h
  | cons x r ih => intro ys h ha; cases ys with
    | nil => simp at h
    | cons y s =>
      rw [List.map_cons, List.map_cons, ha (x, y) (by simp), ih s (by simpa using h) (fun p hp => ha p (by simp [hp]))]
variable {w1 : World} {G1 : List Nat}
theorem sound_end (hS : Sound (w1 := w1) (G1 := G1) E []) : ∀ (n : Nat) (x y : Pl wo G), Conn E x y → exSizes x.exs ≤ n → x.exs = y.exs := by
  intro n
  induction n with
  | zero =>
    intro x y _ h
    have := sizes_len x.exs
    have := x.pos
    omega
  | succ n ih =>
    intro x y h
    induction h with
    | same e => intro _; exact e
    | @next y z _ l ihc =>
      intro hx
      have e1 := ihc hx
      rw [e1] at hx ⊢
      have key : ∀ (p : Pr wo G), Done E p.1.ex p.2.ex → (exSize p.1.ex ≤ exSizes y.exs ∨ exSize p.2.ex ≤ exSizes y.exs) → p.1.ex = p.2.ex := by
        intro p hd hl
        obtain ⟨h1, h2, h3⟩ := hd
        refine exs_same h1 h2 ?_
        rcases h3 with ⟨h3, h4⟩ | ⟨a, b, ea, eb, h3⟩
        · rw [h3, h4]
        · rw [← ea, ← eb]
          rcases hl with hl | hl
          · refine ih a b h3 ?_
            rw [ea]
            have : exSizes p.1.ex.args < exSize p.1.ex := by cases p.1.ex; simp [exSize, Ex.args]
            omega
          · refine (ih b a h3.symm ?_).symm
            rw [eb]
            have : exSizes p.2.ex.args < exSize p.2.ex := by cases p.2.ex; simp [exSize, Ex.args]
            omega
      have hk : ∀ k ∈ y.kids, exSize k.ex ≤ exSizes y.exs := fun k hk => exSizes_mem (by rw [← y.kids_map]; exact List.mem_map_of_mem hk)
      rcases l with l | l | l
      · obtain ⟨hl, hp⟩ := hS _ l
        have := zip_all y.kids z.kids (by rw [y.kids_len, z.kids_len, hl]) (fun p hz => key p ((hp p hz).resolve_left (by simp)) (Or.inl (hk _ (List.of_mem_zip hz).1)))
        rwa [y.kids_map, z.kids_map] at this
      · obtain ⟨hl, hp⟩ := hS _ l
        have := zip_all z.kids y.kids (by rw [y.kids_len, z.kids_len, hl]) (fun p hz => key p ((hp p hz).resolve_left (by simp)) (Or.inr (hk _ (List.of_mem_zip hz).2)))
        rw [z.kids_map, y.kids_map] at this
        exact this.symm
      · exact l
theorem Sound.conn (hS : Sound (w1 := w1) (G1 := G1) E []) (h : Conn E x y) : x.exs = y.exs := sound_end hS _ x y h (Nat.le_refl _)
theorem Sound.done (hS : Sound (w1 := w1) (G1 := G1) E []) {a b : Ex} (h : Done E a b) : a = b := by
  obtain ⟨h1, h2, h3⟩ := h
  refine exs_same h1 h2 ?_
  rcases h3 with ⟨h3, h4⟩ | ⟨a, b, ea, eb, h3⟩
  · rw [h3, h4]
  · rw [← ea, ← eb]; exact hS.conn h3
theorem Sound.nil {ps : List (Pr w1 G1)} : Sound (wo := wo) (G := G) [] ps := fun e he => by cases he
/-- The pair that was taken is done. -/
theorem Sound.skip {ps : List (Pr w1 G1)} {p : Pr w1 G1} (h : Sound E (ps ++ [p])) (hd : Done E p.1.ex p.2.ex) : Sound E ps := fun e he => by
  obtain ⟨h1, h2⟩ := h e he
  refine ⟨h1, fun q hq => ?_⟩
  rcases h2 q hq with ⟨r, hr, e1, e2⟩ | h
  · rcases List.mem_append.1 hr with h | h
    · exact Or.inl ⟨r, h, e1, e2⟩
    · rw [List.mem_singleton] at h; subst h; rw [e1, e2] at hd; exact Or.inr hd
  · exact Or.inr h
/-- Two places are joined; their parts are to be compared. -/
theorem Sound.push {ps zs : List (Pr w1 G1)} {p : Pr w1 G1} {a b : Pl wo G} (h : Sound E (ps ++ [p])) (hl : a.exs.length = b.exs.length) (hz : ∀ q ∈ a.kids.zip b.kids, ∃ r ∈ zs, r.1.ex = q.1.ex ∧ r.2.ex = q.2.ex) (hd : Done (E ++ [(a, b)]) p.1.ex p.2.ex) : Sound (E ++ [(a, b)]) (ps ++ zs) := fun e he => by
  rcases List.mem_append.1 he with he | he
  · obtain ⟨h1, h2⟩ := h e he
    refine ⟨h1, fun q hq => ?_⟩
    rcases h2 q hq with ⟨r, hr, e1, e2⟩ | h
    · rcases List.mem_append.1 hr with h | h
      · exact Or.inl ⟨r, List.mem_append_left _ h, e1, e2⟩
      · rw [List.mem_singleton] at h; subst h; rw [e1, e2] at hd; exact Or.inr hd
    · exact Or.inr (h.more (fun q hq => List.mem_append_left _ hq))
  · rw [List.mem_singleton] at he
    subst he
    exact ⟨hl, fun q hq => by
      obtain ⟨r, hr, e1⟩ := hz q hq
      exact Or.inl ⟨r, List.mem_append_right _ hr, e1⟩⟩
theorem done_pair {x y : Ex} {a b : Pl wo G} (h1 : x.kind = y.kind) (h2 : x.name = y.name) (ha : a.exs = x.args) (hb : b.exs = y.args) (h : Conn E a b) : Done E x y := ⟨h1, h2, Or.inr ⟨a, b, ha, hb, h⟩⟩
end

/-- Where a key leads to, and in how many steps. -/
inductive Ends (M : List (Value × Value)) : Value → Nat → Value → Prop
  | stop {k : Value} (h : ∀ x ∈ M, x.1 ≠ k) : Ends M k 0 k
  | next {k k2 r : Value} {n : Nat} (h : (k, k2) ∈ M) (t : Ends M k2 n r) : Ends M k (n + 1) r
def Forest (M : List (Value × Value)) : Prop := ∀ k, ∃ n r, Ends M k n r
theorem Ends.last {M : List (Value × Value)} {k r : Value} {n : Nat} (h : Ends M k n r) : ∀ x ∈ M, x.1 ≠ r := by
  induction h with
  | stop h => exact h
  | next _ _ ih => exact ih
theorem one_of {M : List (Value × Value)} (hn : (M.map Prod.fst).Nodup) {k a b : Value} (h : (k, a) ∈ M) (h2 : (k, b) ∈ M) : a = b := (Prod.mk.inj (nodup_one M hn _ h _ h2 rfl)).2
/-- The way of a key is halved. -/
theorem ends_halve {M M2 : List (Value × Value)} (hn : (M.map Prod.fst).Nodup) {at1 nx af : Value} (h1 : (at1, nx) ∈ M) (h2 : (nx, af) ∈ M) (hp : Put M at1 af M2) : ∀ (n : Nat) (k r : Value), Ends M k n r → ∃ n2, n2 ≤ n ∧ Ends M2 k n2 r := by
  intro n
  induction n using Nat.strongRecOn with
  | ind n ih =>
    intro k r h
    cases h with
    | stop h =>
      refine ⟨0, Nat.le_refl _, Ends.stop fun x hx e => ?_⟩
      obtain ⟨x1, x2⟩ := x
      rcases (put_mem hn hp x1 x2).1 hx with ⟨e1, -⟩ | ⟨-, e1⟩
      · exact h _ h1 (e1.symm.trans e)
      · exact h _ e1 e
    | @next _ k2 _ m hk t =>
      by_cases e : k = at1
      · subst e
        obtain rfl := one_of hn hk h1
        cases t with
        | stop h => exact absurd rfl (h _ h2)
        | @next _ k3 _ m hk3 t =>
          obtain rfl := one_of hn hk3 h2
          obtain ⟨n2, hl, t2⟩ := ih m (by omega) _ _ t
          exact ⟨n2 + 1, by omega, Ends.next ((put_mem hn hp _ _).2 (Or.inl ⟨rfl, rfl⟩)) t2⟩
      · obtain ⟨n2, hl, t2⟩ := ih m (by omega) _ _ t
        exact ⟨n2 + 1, by omega, Ends.next ((put_mem hn hp _ _).2 (Or.inr ⟨e, hk⟩)) t2⟩
theorem forest_halve {M M2 : List (Value × Value)} (hn : (M.map Prod.fst).Nodup) {at1 nx af : Value} (h1 : (at1, nx) ∈ M) (h2 : (nx, af) ∈ M) (hp : Put M at1 af M2) (hF : Forest M) : Forest M2 := fun k => by
  obtain ⟨n, r, h⟩ := hF k
  obtain ⟨n2, -, h2⟩ := ends_halve hn h1 h2 hp n k r h
  exact ⟨n2, r, h2⟩
/-- An end leads on to another end. -/
theorem forest_unite {M M2 : List (Value × Value)} (hn : (M.map Prod.fst).Nodup) {a b : Value} (ha : ∀ x ∈ M, x.1 ≠ a) (hb : ∀ x ∈ M, x.1 ≠ b) (hne : a ≠ b) (hp : Put M a b M2) (hF : Forest M) : Forest M2 := fun k => by
  obtain ⟨n, r, h⟩ := hF k
  induction h with
  | @stop k h =>
    by_cases e : k = a
    · subst e
      refine ⟨1, b, Ends.next ((put_mem hn hp _ _).2 (Or.inl ⟨rfl, rfl⟩)) (Ends.stop fun x hx e => ?_)⟩
      obtain ⟨x1, x2⟩ := x
      rcases (put_mem hn hp x1 x2).1 hx with ⟨e1, -⟩ | ⟨-, e1⟩
      · exact hne (e1.symm.trans e)
      · exact hb _ e1 e
    · refine ⟨0, k, Ends.stop fun x hx e2 => ?_⟩
      obtain ⟨x1, x2⟩ := x
      rcases (put_mem hn hp x1 x2).1 hx with ⟨e1, -⟩ | ⟨-, e1⟩
      · exact e (e2.symm.trans e1)
      · exact h _ e1 e2
  | @next k k2 r n hk t ih =>
    obtain ⟨n2, r2, h2⟩ := ih
    exact ⟨n2 + 1, r2, Ends.next ((put_mem hn hp _ _).2 (Or.inr ⟨fun e => ha _ hk e, hk⟩)) h2⟩
theorem forest_nil : Forest [] := fun k => ⟨0, k, Ends.stop fun x h => by cases h⟩
end Go.Proofs.Ytegigjnlecpplaa
