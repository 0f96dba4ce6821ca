/- For the program's own EqualExpr: pairs of places that are still to be compared, and what is known of the pairs that are remembered. No condition. For the program's own equalities: places that hold arguments, what it says that they are joined, and that joined places hold equal arguments once nothing is left to compare. No condition. Places, pointers with a number, as keys of maps and where they are compared. Condition: the memory that they lead to is plain. The contracts of the program's own equalHeads and placeOf. No condition. -/
import Derived.Test.YtbnghkgfbjipdaaMa15
import Derived.Test.YtbnghkgfbjipdaaMa07
import Derived.Test.YtbnghkgfbjipdaaMa12
import Derived.Test.YtbnghkgfbjipdaaMa13
namespace Go.Proofs.Ytbnghkgfbjipdaa
open Go Go.RowKit

/-- One place is one expression. -/
theorem at_det (n : Nat) : (∀ (e e' : Ex), exSize e ≤ n → ∀ (w : World) (g o : Nat) (bs bs' : List Nat), ExAt w g o e bs → ExAt w g o e' bs' → e = e') ∧
    (∀ (l l' : List Ex), exSizes l ≤ n → ∀ (w : World) (g o j : Nat) (bs bs' : List Nat), ExsAt w g o j l bs → ExsAt w g o j l' bs' → l.length = l'.length → l = l') := by
  induction n with
  | zero =>
    refine ⟨fun e _ h => by have := exSize_pos e; omega, fun l l' h => ?_⟩
    cases l with
    | nil => intro w g o j bs bs' _ _ hl; exact (List.eq_nil_of_length_eq_zero (by simpa using hl.symm)).symm
    | cons e r => rw [exSizes] at h; have := exSize_pos e; omega
  | succ n ih =>
    have hE : ∀ (e e' : Ex), exSize e ≤ n + 1 → ∀ (w : World) (g o : Nat) (bs bs' : List Nat), ExAt w g o e bs → ExAt w g o e' bs' → e = e' := by
      intro e e' he w g o bs bs' h h'
      cases e with
      | mk k s l =>
        cases e' with
        | mk k' s' l' =>
          rw [exSize] at he
          rw [ExAt] at h h'
          obtain ⟨h1, h2, -, A, c, h4, -, -, h7⟩ := h
          obtain ⟨h1', h2', -, A', c', h4', -, -, h7'⟩ := h'
          rw [h1] at h1'
          rw [h2] at h2'
          rw [h4] at h4'
          simp only [Option.some.injEq, Value.int.injEq, Value.string.injEq, Value.slice.injEq, true_and] at h1' h2' h4'
          obtain ⟨hA, hl, -⟩ := h4'
          subst h1' h2' hA
          have : l = l' := by
            rcases h7 with ⟨rfl, -⟩ | ⟨g1, o1, b1, e1, -, -, h8⟩
            · exact (List.eq_nil_of_length_eq_zero (by simpa using hl.symm)).symm
            · rcases h7' with ⟨rfl, -⟩ | ⟨g2, o2, b2, e2, -, -, h8'⟩
              · exact List.eq_nil_of_length_eq_zero (by simpa using hl)
              · rw [e1] at e2
                cases e2
                exact ih.2 l l' (by omega) w g1 o1 0 b1 b2 h8 h8' hl
          rw [this]
    refine ⟨hE, ?_⟩
    intro l
    induction l with
    | nil => intro l' _ w g o j bs bs' _ _ hl; exact (List.eq_nil_of_length_eq_zero (by simpa using hl.symm)).symm
    | cons e r ihl =>
      intro l' hs w g o j bs bs' h h' hl
      cases l' with
      | nil => simp at hl
      | cons e' r' =>
        rw [exSizes] at hs
        have hp := exSize_pos e
        rw [ExsAt] at h h'
        obtain ⟨b1, b2, -, h1, h2⟩ := h
        obtain ⟨b1', b2', -, h1', h2'⟩ := h'
        rw [hE e e' (by omega) w g _ b1 b1' h1 h1', ihl r' (by omega) w g o (j + 1) b2 b2' h2 h2' (by simpa using hl)]

/-- A place that holds an expression; its blocks are among G. -/
abbrev At (wo : World) (G : List Nat) : Type := { x : Nat × Nat × Ex × List Nat // ExAt wo x.1 x.2.1 x.2.2.1 x.2.2.2 ∧ x.1 ∈ G ∧ ∀ z ∈ x.2.2.2, z ∈ G }
section
variable {wo : World} {G : List Nat}
def At.ex (x : At wo G) : Ex := x.1.2.2.1
def At.adr (x : At wo G) : Addr := ⟨x.1.1, x.1.2.1, none⟩
theorem At.det {x y : At wo G} (h : x.adr = y.adr) : x.ex = y.ex := by
  have h1 : x.1.1 = y.1.1 := congrArg Addr.block h
  have h2 : x.1.2.1 = y.1.2.1 := congrArg Addr.off h
  have hy := y.2.1
  rw [← h1, ← h2] at hy
  exact (at_det _).1 _ _ (Nat.le_refl _) wo _ _ _ _ x.2.1 hy
theorem kids_places {g o : Nat} (hg : g ∈ G) : ∀ (l : List Ex) (j : Nat) (bs : List Nat), ExsAt wo g o j l bs → (∀ z ∈ bs, z ∈ G) → ∃ ks : List (At wo G), ks.map At.ex = l ∧ ∀ (i : Nat) (k : At wo G), ks[i]? = some k → k.adr = ⟨g, o + (j + i) * 3, none⟩ := by
  intro l
  induction l with
  | nil => intro j bs _ _; exact ⟨[], rfl, fun i k h => by simp at h⟩
  | cons e r ih =>
    intro j bs h hb
    rw [ExsAt] at h
    obtain ⟨b1, b2, rfl, h1, h2⟩ := h
    obtain ⟨ks, e1, e2⟩ := ih (j + 1) b2 h2 (fun z hz => hb z (by simp [hz]))
    refine ⟨⟨(g, o + j * 3, e, b1), h1, hg, fun z hz => hb z (by simp [hz])⟩ :: ks, by rw [List.map_cons, e1]; rfl, fun i k hi => ?_⟩
    cases i with
    | zero =>
      simp at hi
      rw [← hi]
      rfl
    | succ i =>
      rw [e2 i k (by simpa using hi)]
      congr 2
      omega
/-- What lies at a place. -/
theorem At.parts (x : At wo G) : ∃ A c, wo.cell? x.adr = some (.int .i64 x.ex.kind) ∧ wo.cell? ⟨x.1.1, x.1.2.1 + 1, none⟩ = some (.string x.ex.name) ∧ wo.cell? ⟨x.1.1, x.1.2.1 + 2, none⟩ = some (.slice A x.ex.args.length c) ∧ x.ex.args.length ≤ c ∧ c ≤ 9223372036854775807 ∧
    ∃ ks : List (At wo G), ks.map At.ex = x.ex.args ∧ ∀ (i : Nat) (k : At wo G), ks[i]? = some k → ∃ g o, A = some ⟨g, o, none⟩ ∧ g < wo.heap.size ∧ k.adr = ⟨g, o + i * 3, none⟩ := by
  obtain ⟨u, c0, c1, c2, h⟩ := x.2.1.is
  obtain ⟨u', e1, -, A, c, e2, h1, h2, h3⟩ := h
  simp only [Value.agg.injEq, Array.mk.injEq, List.cons.injEq, and_true, true_and] at e1
  subst e1; subst e2
  refine ⟨A, c, c0, c1, c2, h1, h2, ?_⟩
  rcases h3 with ⟨h3, -⟩ | ⟨g, o, bs', rfl, hg, e3, h4⟩
  · refine ⟨[], ?_, fun i k h => by simp at h⟩
    show [] = x.1.2.2.1.args
    rw [h3]
  · obtain ⟨ks, k1, k2⟩ := kids_places (G := G) (x.2.2.2 g (by rw [e3]; simp)) _ 0 bs' h4 (fun z hz => x.2.2.2 z (by rw [e3]; simp [hz]))
    exact ⟨ks, k1, fun i k hi => ⟨g, o, rfl, hg, by rw [k2 i k hi, Nat.zero_add]⟩⟩

/-- A pair of places that is still to be compared. -/
abbrev Pr (wo : World) (G : List Nat) : Type := At wo G × At wo G
def pcells (p : Pr wo G) : List Value := [.pointer (some p.1.adr), .pointer (some p.2.adr)]
def pkey (p : Pr wo G) : Value := .agg #[.pointer (some p.1.adr), .pointer (some p.2.adr)]
def pflat (ps : List (Pr wo G)) : List Value := ps.flatMap pcells
def same (p : Pr wo G) : Bool := exEq p.1.ex p.2.ex
def allEq (ps : List (Pr wo G)) : Bool := ps.all same
def weigh : List (Pr wo G) → Nat
  | [] => 0
  | p :: r => exSize p.1.ex + weigh r
theorem pkey_det {p q : Pr wo G} (h : pkey p = pkey q) : p.1.ex = q.1.ex ∧ p.2.ex = q.2.ex := by
  simp only [pkey, Value.agg.injEq, Array.mk.injEq, List.cons.injEq, Value.pointer.injEq, Option.some.injEq, and_true] at h
  exact ⟨At.det h.1, At.det h.2⟩
theorem pflat_len (ps : List (Pr wo G)) : (pflat ps).length = ps.length * 2 := by
  induction ps with
  | nil => rfl
  | cons p r ih => rw [pflat, List.flatMap_cons, List.length_append, ← pflat, ih]; simp [pcells]; omega
theorem pflat_one (ps : List (Pr wo G)) (p : Pr wo G) : pflat (ps ++ [p]) = pflat ps ++ pcells p := by simp [pflat]
theorem all_one (ps : List (Pr wo G)) (p : Pr wo G) : allEq (ps ++ [p]) = (allEq ps && same p) := by simp [allEq]
theorem all_more (ps qs : List (Pr wo G)) : allEq (ps ++ qs) = (allEq ps && allEq qs) := by simp [allEq]
theorem weigh_app : ∀ (a b : List (Pr wo G)), weigh (a ++ b) = weigh a + weigh b := by
  intro a
  induction a with
  | nil => intro b; simp [weigh]
  | cons p r ih => intro b; rw [List.cons_append, weigh, weigh, ih]; omega
theorem weigh_len (ps : List (Pr wo G)) : ps.length ≤ weigh ps := by
  induction ps with
  | nil => simp [weigh]
  | cons p r ih => rw [weigh, List.length_cons]; have := exSize_pos p.1.ex; omega
theorem zip_eq : ∀ (xs ys : List (At wo G)), xs.length = ys.length → allEq (xs.zip ys) = exEqs (xs.map At.ex) (ys.map At.ex) := by
  intro xs
  induction xs with
  | nil => intro ys h; cases ys with
    | nil => rfl
    | cons y r => simp at h
  | cons x r ih => intro ys h; cases ys with
    | nil => simp at h
    | cons y s =>
      rw [List.zip_cons_cons, List.map_cons, List.map_cons, exEqs, ← ih s (by simpa using h)]
      simp [allEq, same]
theorem zip_weigh : ∀ (xs ys : List (At wo G)), xs.length = ys.length → weigh (xs.zip ys) = exSizes (xs.map At.ex) := by
  intro xs
  induction xs with
  | nil => intro ys _; rfl
  | cons x r ih => intro ys h; cases ys with
    | nil => simp at h
    | cons y s =>
      rw [List.zip_cons_cons, weigh, List.map_cons, exSizes, ih s (by simpa using h)]
theorem zip_less {x : At wo G} {xs ys : List (At wo G)} (hx : xs.map At.ex = x.ex.args) : ∀ z ∈ xs.zip ys, exSize z.1.ex < exSize x.ex := by
  intro z hz
  refine exSize_args (e := x.ex) ?_
  rw [← hx]
  exact List.mem_map_of_mem (List.of_mem_zip hz).1

/-- Of each pair that is remembered: behind some place of the list there are smaller ones alone, and if these are equal, it is. -/
def SeenOk (sn ps : List (Pr wo G)) : Prop := ∀ s ∈ sn, ∃ j, j ≤ ps.length ∧ (∀ p ∈ ps.drop j, exSize p.1.ex < exSize s.1.ex) ∧ (allEq (ps.drop j) = true → same s = true)
theorem seen_skip {sn ps : List (Pr wo G)} {p s : Pr wo G} (h : SeenOk sn (ps ++ [p])) (hs : s ∈ sn) (hk : pkey s = pkey p) : same p = true ∧ SeenOk sn ps := by
  obtain ⟨e1, e2⟩ := pkey_det hk
  have hp : same p = true := by
    obtain ⟨j, hj, h1, h2⟩ := h s hs
    by_cases hl : j ≤ ps.length
    · rw [List.drop_append_of_le_length hl] at h1
      have := h1 p (by simp)
      rw [e1] at this
      omega
    · rw [List.drop_eq_nil_of_le (by simp; omega)] at h2
      have := h2 rfl
      unfold same at this ⊢
      rw [← e1, ← e2]
      exact this
  refine ⟨hp, fun t ht => ?_⟩
  obtain ⟨j, hj, h1, h2⟩ := h t ht
  by_cases hl : j ≤ ps.length
  · rw [List.drop_append_of_le_length hl] at h1 h2
    exact ⟨j, hl, fun q hq => h1 q (by simp [hq]), fun ha => h2 (by rw [all_one, ha, hp]; rfl)⟩
  · rw [List.drop_eq_nil_of_le (by simp; omega)] at h2
    exact ⟨ps.length, Nat.le_refl _, fun q hq => by simp at hq, fun _ => h2 rfl⟩
theorem seen_push {sn ps zs : List (Pr wo G)} {p : Pr wo G} (h : SeenOk sn (ps ++ [p])) (heq : allEq zs = true → same p = true) (hz : ∀ z ∈ zs, exSize z.1.ex < exSize p.1.ex) : SeenOk (sn ++ [p]) (ps ++ zs) := by
  intro t ht
  rcases List.mem_append.1 ht with ht | ht
  · obtain ⟨j, hj, h1, h2⟩ := h t ht
    by_cases hl : j ≤ ps.length
    · rw [List.drop_append_of_le_length hl] at h1 h2
      refine ⟨j, by simp; omega, fun q hq => ?_, fun ha => ?_⟩
      · rw [List.drop_append_of_le_length hl] at hq
        rcases List.mem_append.1 hq with hq | hq
        · exact h1 q (by simp [hq])
        · exact Nat.lt_trans (hz q hq) (h1 p (by simp))
      · rw [List.drop_append_of_le_length hl, all_more, Bool.and_eq_true] at ha
        exact h2 (by rw [all_one, ha.1, heq ha.2]; rfl)
    · rw [List.drop_eq_nil_of_le (by simp; omega)] at h2
      exact ⟨(ps ++ zs).length, Nat.le_refl _, fun q hq => by simp at hq, fun _ => h2 rfl⟩
  · rw [List.mem_singleton] at ht
    subst ht
    exact ⟨ps.length, by simp, fun q hq => hz q (by simpa using hq), fun ha => heq (by simpa using ha)⟩
theorem SeenOk.less {sn sn2 ps : List (Pr wo G)} (h : SeenOk sn ps) (hs : ∀ s ∈ sn2, s ∈ sn) : SeenOk sn2 ps := fun s ht => h s (hs s ht)

/-- The last pair of the list, written out. -/
theorem pair_top {W : World} {ps : List (Pr wo G)} {p : Pr wo G} {AO : Option Addr} {n co base : Nat} (hn : n = ps.length) (h : W.ownsRow base 125 2 (.slice AO (n + 1) co) (n + 1) (pflat (ps ++ [p]))) :
    ∃ g, AO = some ⟨g, 0, none⟩ ∧ g < W.heap.size ∧ base ≤ g ∧ n + 1 ≤ co ∧ co ≤ maxLen ∧ W.cell? ⟨g, n * 2, none⟩ = some (.pointer (some p.1.adr)) ∧ W.cell? ⟨g, n * 2 + 1, none⟩ = some (.pointer (some p.2.adr)) ∧ W.ownsRow base 125 2 (.slice AO n co) n (pflat ps) := by
  subst hn
  rw [pflat_one] at h
  obtain ⟨g, cap, hv, h1, h2⟩ := h.form (by omega)
  cases hv
  have hx := pflat_len ps
  have hc : ∀ (j : Nat) (v : Value), (pcells p)[j]? = some v → W.cell? ⟨g, ps.length * 2 + j, none⟩ = some v := by
    intro j v hj
    have hj6 : j < 2 := by have := (List.getElem?_eq_some_iff.1 hj).1; simpa [pcells] using this
    rw [h.cellAt (ps.length * 2 + j) (by omega), List.getElem?_append_right (by omega), hx, Nat.add_sub_cancel_left]
    exact hj
  refine ⟨g, rfl, h2, h1, ?_, ?_, hc 0 _ rfl, hc 1 _ rfl, ownsRow_pop (by rw [hx]) h⟩
  · rcases h.2 with ⟨h0, -⟩ | ⟨g', cap', cur, hv, -, -, hn, -⟩
    · cases h0
    · cases hv; exact hn
  · rcases h.2 with ⟨h0, -⟩ | ⟨g', cap', cur, hv, -, -, -, hm, -⟩
    · cases h0
    · cases hv; exact hm
end
theorem Try.infoTwo : (Try.prog.info? 125).map (fun i => (i.zero, i.size, i.bytes)) = some (some (.agg #[.pointer none, .pointer none]), 2, 16) := by kernel_rfl
end Go.Proofs.Ytbnghkgfbjipdaa

namespace Go.Proofs.Ytbnghkgfbjipdaa
open Go Go.RowKit

theorem eq_iff (n : Nat) : (∀ (a b : Ex), exSize a ≤ n → (exEq a b = true ↔ a = b)) ∧ (∀ (l m : List Ex), exSizes l ≤ n → (exEqs l m = true ↔ l = m)) := by
  induction n with
  | zero =>
    refine ⟨fun a b h => by have := exSize_pos a; omega, fun l m h => ?_⟩
    cases l with
    | nil => cases m <;> simp [exEqs]
    | cons a r => rw [exSizes] at h; have := exSize_pos a; omega
  | succ n ih =>
    have hE : ∀ (a b : Ex), exSize a ≤ n + 1 → (exEq a b = true ↔ a = b) := by
      intro a b h
      cases a with
      | mk k s l =>
        cases b with
        | mk k2 s2 l2 =>
          rw [exSize] at h
          have := ih.2 l l2 (by omega)
          rw [exEq_parts, Bool.and_eq_true, Bool.and_eq_true, Ex.mk.injEq]
          exact ⟨fun h => ⟨of_decide_eq_true h.1, of_decide_eq_true h.2.1, this.1 h.2.2⟩, fun h => ⟨decide_eq_true h.1, decide_eq_true h.2.1, this.2 h.2.2⟩⟩
    refine ⟨hE, ?_⟩
    intro l
    induction l with
    | nil => intro m _; cases m <;> simp [exEqs]
    | cons a r ihl =>
      intro m h
      rw [exSizes] at h
      have := exSize_pos a
      cases m with
      | nil => simp [exEqs]
      | cons b s => rw [exEqs, Bool.and_eq_true, hE a b (by omega), ihl s (by omega)]; simp
theorem exEq_same (a b : Ex) : exEq a b = true ↔ a = b := (eq_iff _).1 a b (Nat.le_refl _)

/-- A place that holds some arguments. -/
abbrev Pl (wo : World) (G : List Nat) : Type := { p : Nat × Nat × List Ex × List Nat // ExsAt wo p.1 p.2.1 0 p.2.2.1 p.2.2.2 ∧ p.1 ∈ G ∧ (∀ z ∈ p.2.2.2, z ∈ G) ∧ p.2.2.1 ≠ [] }
section
variable {wo : World} {G : List Nat}
def Pl.exs (p : Pl wo G) : List Ex := p.1.2.2.1
def Pl.adr (p : Pl wo G) : Addr := ⟨p.1.1, p.1.2.1, none⟩
def Pl.key (p : Pl wo G) : Value := .agg #[.pointer (some p.adr), .int .i64 (p.exs.length : Int)]
theorem Pl.det {p q : Pl wo G} (h : p.key = q.key) : p.exs = q.exs := by
  simp only [Pl.key, Pl.adr, Value.agg.injEq, Array.mk.injEq, List.cons.injEq, Value.pointer.injEq, Option.some.injEq, Addr.mk.injEq, Value.int.injEq, and_true, true_and] at h
  obtain ⟨⟨h1, h2⟩, h3⟩ := h
  have hq := q.2.1
  rw [← h1, ← h2] at hq
  exact (at_det _).2 _ _ (Nat.le_refl _) wo _ _ _ _ _ p.2.1 hq (show p.exs.length = q.exs.length by omega)
theorem Pl.kids_ex (p : Pl wo G) : ∃ ks : List (At wo G), ks.map At.ex = p.exs ∧ ∀ (i : Nat) (k : At wo G), ks[i]? = some k → k.adr = ⟨p.1.1, p.1.2.1 + (0 + i) * 3, none⟩ := kids_places p.2.2.1 _ 0 _ p.2.1 p.2.2.2.1
noncomputable def Pl.kids (p : Pl wo G) : List (At wo G) := Classical.choose p.kids_ex
theorem Pl.kids_map (p : Pl wo G) : p.kids.map At.ex = p.exs := (Classical.choose_spec p.kids_ex).1
theorem Pl.kids_adr (p : Pl wo G) {i : Nat} {k : At wo G} (h : p.kids[i]? = some k) : k.adr = ⟨p.1.1, p.1.2.1 + i * 3, none⟩ := by
  rw [(Classical.choose_spec p.kids_ex).2 i k h, Nat.zero_add]
theorem Pl.kids_len (p : Pl wo G) : p.kids.length = p.exs.length := by rw [← p.kids_map, List.length_map]
theorem Pl.pos (p : Pl wo G) : 0 < p.exs.length := List.length_pos_iff.2 p.2.2.2.2
/-- What lies in the slice cell of an expression. -/
theorem At.place (x : At wo G) : ∃ A c, wo.cell? x.adr = some (.int .i64 x.ex.kind) ∧ wo.cell? ⟨x.1.1, x.1.2.1 + 1, none⟩ = some (.string x.ex.name) ∧ wo.cell? ⟨x.1.1, x.1.2.1 + 2, none⟩ = some (.slice A x.ex.args.length c) ∧ x.ex.name.size ≤ 9223372036854775807 ∧ x.ex.args.length ≤ c ∧ c ≤ 9223372036854775807 ∧
    (x.ex.args = [] ∨ ∃ p : Pl wo G, A = some p.adr ∧ p.exs = x.ex.args) := by
  obtain ⟨u, c0, c1, c2, h⟩ := x.2.1.is
  obtain ⟨u', e1, hs, A, c, e2, h1, h2, h3⟩ := h
  simp only [Value.agg.injEq, Array.mk.injEq, List.cons.injEq, and_true, true_and] at e1
  subst e1; subst e2
  refine ⟨A, c, c0, c1, c2, hs, h1, h2, ?_⟩
  rcases h3 with ⟨h3, -⟩ | ⟨g, o, bs', rfl, hg, e3, h4⟩
  · exact Or.inl h3
  · by_cases h0 : x.ex.args = []
    · exact Or.inl h0
    · exact Or.inr ⟨⟨(g, o, x.ex.args, bs'), h4, x.2.2.2 g (by rw [e3]; simp), fun z hz => x.2.2.2 z (by rw [e3]; simp [hz]), h0⟩, rfl, rfl⟩

/-- What joins two places at once. -/
def Link (E : List (Pl wo G × Pl wo G)) (x y : Pl wo G) : Prop := (x, y) ∈ E ∨ (y, x) ∈ E ∨ x.exs = y.exs
/-- Two places are joined. -/
inductive Conn (E : List (Pl wo G × Pl wo G)) : Pl wo G → Pl wo G → Prop
  | same {x y : Pl wo G} (h : x.exs = y.exs) : Conn E x y
  | next {x y z : Pl wo G} (h : Conn E x y) (l : Link E y z) : Conn E x z
variable {E E2 : List (Pl wo G × Pl wo G)} {x y z : Pl wo G}
theorem Link.symm (h : Link E x y) : Link E y x := by
  rcases h with h | h | h
  · exact Or.inr (Or.inl h)
  · exact Or.inl h
  · exact Or.inr (Or.inr h.symm)
theorem Conn.trans (h : Conn E x y) (k : Conn E y z) : Conn E x z := by
  induction k with
  | same e => exact h.next (Or.inr (Or.inr e))
  | next _ l ih => exact ih.next l
theorem Conn.link (l : Link E x y) : Conn E x y := (Conn.same rfl).next l
theorem Conn.symm (h : Conn E x y) : Conn E y x := by
  induction h with
  | same e => exact Conn.same e.symm
  | next _ l ih => exact (Conn.link l.symm).trans ih
theorem Conn.more (hE : ∀ p ∈ E, p ∈ E2) (h : Conn E x y) : Conn E2 x y := by
  induction h with
  | same e => exact Conn.same e
  | next _ l ih =>
    refine ih.next ?_
    rcases l with h | h | h
    · exact Or.inl (hE _ h)
    · exact Or.inr (Or.inl (hE _ h))
    · exact Or.inr (Or.inr h)

/-- A pair that need not be compared again. -/
def Done (E : List (Pl wo G × Pl wo G)) (x y : Ex) : Prop := x.kind = y.kind ∧ x.name = y.name ∧ ((x.args = [] ∧ y.args = []) ∨ ∃ a b : Pl wo G, a.exs = x.args ∧ b.exs = y.args ∧ Conn E a b)
theorem Done.more {a b : Ex} (hE : ∀ p ∈ E, p ∈ E2) (h : Done E a b) : Done E2 a b := by
  obtain ⟨h1, h2, h3⟩ := h
  refine ⟨h1, h2, ?_⟩
  rcases h3 with h3 | ⟨a, b, e1, e2, h3⟩
  · exact Or.inl h3
  · exact Or.inr ⟨a, b, e1, e2, h3.more hE⟩
/-- Whatever was joined: its parts are done, or still to be compared. -/
def Sound {w1 : World} {G1 : List Nat} (E : List (Pl wo G × Pl wo G)) (ps : List (Pr w1 G1)) : Prop := ∀ e ∈ E, e.1.exs.length = e.2.exs.length ∧ ∀ p ∈ e.1.kids.zip e.2.kids, (∃ q ∈ ps, q.1.ex = p.1.ex ∧ q.2.ex = p.2.ex) ∨ Done E p.1.ex p.2.ex
theorem exs_same {a b : Ex} (h1 : a.kind = b.kind) (h2 : a.name = b.name) (h3 : a.args = b.args) : a = b := by
  cases a; cases b
  simp only [Ex.kind, Ex.name, Ex.args] at h1 h2 h3
  rw [h1, h2, h3]
theorem zip_all : ∀ (xs ys : List (At wo G)), xs.length = ys.length → (∀ p ∈ xs.zip ys, p.1.ex = p.2.ex) → xs.map At.ex = ys.map At.ex := by
  intro xs
  induction xs with
  | nil => intro ys h _; cases ys with
    | nil => rfl
    | cons y r => simp at h
  | cons x r ih => intro ys h ha; cases ys with
    | nil => simp at h
    | cons y s =>
      rw [List.map_cons, List.map_cons, ha (x, y) (by simp), ih s (by simpa using h) (fun p hp => ha p (by simp [hp]))]
variable {w1 : World} {G1 : List Nat}
theorem sound_end (hS : Sound (w1 := w1) (G1 := G1) E []) : ∀ (n : Nat) (x y : Pl wo G), Conn E x y → exSizes x.exs ≤ n → x.exs = y.exs := by
  intro n
  induction n with
  | zero =>
    intro x y _ h
    have := sizes_len x.exs
    have := x.pos
    omega
  | succ n ih =>
    intro x y h
    induction h with
    | same e => intro _; exact e
    | @next y z _ l ihc =>
      intro hx
      have e1 := ihc hx
      rw [e1] at hx ⊢
      have key : ∀ (p : Pr wo G), Done E p.1.ex p.2.ex → (exSize p.1.ex ≤ exSizes y.exs ∨ exSize p.2.ex ≤ exSizes y.exs) → p.1.ex = p.2.ex := by
        intro p hd hl
        obtain ⟨h1, h2, h3⟩ := hd
        refine exs_same h1 h2 ?_
        rcases h3 with ⟨h3, h4⟩ | ⟨a, b, ea, eb, h3⟩
        · rw [h3, h4]
        · rw [← ea, ← eb]
          rcases hl with hl | hl
          · refine ih a b h3 ?_
            rw [ea]
            have : exSizes p.1.ex.args < exSize p.1.ex := by cases p.1.ex; simp [exSize, Ex.args]
            omega
          · refine (ih b a h3.symm ?_).symm
            rw [eb]
            have : exSizes p.2.ex.args < exSize p.2.ex := by cases p.2.ex; simp [exSize, Ex.args]
            omega
      have hk : ∀ k ∈ y.kids, exSize k.ex ≤ exSizes y.exs := fun k hk => exSizes_mem (by rw [← y.kids_map]; exact List.mem_map_of_mem hk)
      rcases l with l | l | l
      · obtain ⟨hl, hp⟩ := hS _ l
        have := zip_all y.kids z.kids (by rw [y.kids_len, z.kids_len, hl]) (fun p hz => key p ((hp p hz).resolve_left (by simp)) (Or.inl (hk _ (List.of_mem_zip hz).1)))
        rwa [y.kids_map, z.kids_map] at this
      · obtain ⟨hl, hp⟩ := hS _ l
        have := zip_all z.kids y.kids (by rw [y.kids_len, z.kids_len, hl]) (fun p hz => key p ((hp p hz).resolve_left (by simp)) (Or.inr (hk _ (List.of_mem_zip hz).2)))
        rw [z.kids_map, y.kids_map] at this
        exact this.symm
      · exact l
theorem Sound.conn (hS : Sound (w1 := w1) (G1 := G1) E []) (h : Conn E x y) : x.exs = y.exs := sound_end hS _ x y h (Nat.le_refl _)
theorem Sound.done (hS : Sound (w1 := w1) (G1 := G1) E []) {a b : Ex} (h : Done E a b) : a = b := by
  obtain ⟨h1, h2, h3⟩ := h
  refine exs_same h1 h2 ?_
  rcases h3 with ⟨h3, h4⟩ | ⟨a, b, ea, eb, h3⟩
  · rw [h3, h4]
  · rw [← ea, ← eb]; exact hS.conn h3
theorem Sound.nil {ps : List (Pr w1 G1)} : Sound (wo := wo) (G := G) [] ps := fun e he => by cases he
/-- The pair that was taken is done. -/
theorem Sound.skip {ps : List (Pr w1 G1)} {p : Pr w1 G1} (h : Sound E (ps ++ [p])) (hd : Done E p.1.ex p.2.ex) : Sound E ps := fun e he => by
  obtain ⟨h1, h2⟩ := h e he
  refine ⟨h1, fun q hq => ?_⟩
  rcases h2 q hq with ⟨r, hr, e1, e2⟩ | h
  · rcases List.mem_append.1 hr with h | h
    · exact Or.inl ⟨r, h, e1, e2⟩
    · rw [List.mem_singleton] at h; subst h; rw [e1, e2] at hd; exact Or.inr hd
  · exact Or.inr h
/-- Two places are joined; their parts are to be compared. -/
theorem Sound.push {ps zs : List (Pr w1 G1)} {p : Pr w1 G1} {a b : Pl wo G} (h : Sound E (ps ++ [p])) (hl : a.exs.length = b.exs.length) (hz : ∀ q ∈ a.kids.zip b.kids, ∃ r ∈ zs, r.1.ex = q.1.ex ∧ r.2.ex = q.2.ex) (hd : Done (E ++ [(a, b)]) p.1.ex p.2.ex) : Sound (E ++ [(a, b)]) (ps ++ zs) := fun e he => by
  rcases List.mem_append.1 he with he | he
  · obtain ⟨h1, h2⟩ := h e he
    refine ⟨h1, fun q hq => ?_⟩
    rcases h2 q hq with ⟨r, hr, e1, e2⟩ | h
    · rcases List.mem_append.1 hr with h | h
      · exact Or.inl ⟨r, List.mem_append_left _ h, e1, e2⟩
      · rw [List.mem_singleton] at h; subst h; rw [e1, e2] at hd; exact Or.inr hd
    · exact Or.inr (h.more (fun q hq => List.mem_append_left _ hq))
  · rw [List.mem_singleton] at he
    subst he
    exact ⟨hl, fun q hq => by
      obtain ⟨r, hr, e1⟩ := hz q hq
      exact Or.inl ⟨r, List.mem_append_right _ hr, e1⟩⟩
theorem done_pair {x y : Ex} {a b : Pl wo G} (h1 : x.kind = y.kind) (h2 : x.name = y.name) (ha : a.exs = x.args) (hb : b.exs = y.args) (h : Conn E a b) : Done E x y := ⟨h1, h2, Or.inr ⟨a, b, ha, hb, h⟩⟩
end

/-- Where a key leads to, and in how many steps. -/
inductive Ends (M : List (Value × Value)) : Value → Nat → Value → Prop
  | stop {k : Value} (h : ∀ x ∈ M, x.1 ≠ k) : Ends M k 0 k
  | next {k k2 r : Value} {n : Nat} (h : (k, k2) ∈ M) (t : Ends M k2 n r) : Ends M k (n + 1) r
def Forest (M : List (Value × Value)) : Prop := ∀ k, ∃ n r, Ends M k n r
theorem Ends.last {M : List (Value × Value)} {k r : Value} {n : Nat} (h : Ends M k n r) : ∀ x ∈ M, x.1 ≠ r := by
  induction h with
  | stop h => exact h
  | next _ _ ih => exact ih
theorem one_of {M : List (Value × Value)} (hn : (M.map Prod.fst).Nodup) {k a b : Value} (h : (k, a) ∈ M) (h2 : (k, b) ∈ M) : a = b := (Prod.mk.inj (nodup_one M hn _ h _ h2 rfl)).2
/-- The way of a key is halved. -/
theorem ends_halve {M M2 : List (Value × Value)} (hn : (M.map Prod.fst).Nodup) {at1 nx af : Value} (h1 : (at1, nx) ∈ M) (h2 : (nx, af) ∈ M) (hp : Put M at1 af M2) : ∀ (n : Nat) (k r : Value), Ends M k n r → ∃ n2, n2 ≤ n ∧ Ends M2 k n2 r := by
  intro n
  induction n using Nat.strongRecOn with
  | ind n ih =>
    intro k r h
    cases h with
    | stop h =>
      refine ⟨0, Nat.le_refl _, Ends.stop fun x hx e => ?_⟩
      obtain ⟨x1, x2⟩ := x
      rcases (put_mem hn hp x1 x2).1 hx with ⟨e1, -⟩ | ⟨-, e1⟩
      · exact h _ h1 (e1.symm.trans e)
      · exact h _ e1 e
    | @next _ k2 _ m hk t =>
      by_cases e : k = at1
      · subst e
        obtain rfl := one_of hn hk h1
        cases t with
        | stop h => exact absurd rfl (h _ h2)
        | @next _ k3 _ m hk3 t =>
          obtain rfl := one_of hn hk3 h2
          obtain ⟨n2, hl, t2⟩ := ih m (by omega) _ _ t
          exact ⟨n2 + 1, by omega, Ends.next ((put_mem hn hp _ _).2 (Or.inl ⟨rfl, rfl⟩)) t2⟩
      · obtain ⟨n2, hl, t2⟩ := ih m (by omega) _ _ t
        exact ⟨n2 + 1, by omega, Ends.next ((put_mem hn hp _ _).2 (Or.inr ⟨e, hk⟩)) t2⟩
theorem forest_halve {M M2 : List (Value × Value)} (hn : (M.map Prod.fst).Nodup) {at1 nx af : Value} (h1 : (at1, nx) ∈ M) (h2 : (nx, af) ∈ M) (hp : Put M at1 af M2) (hF : Forest M) : Forest M2 := fun k => by
  obtain ⟨n, r, h⟩ := hF k
  obtain ⟨n2, -, h2⟩ := ends_halve hn h1 h2 hp n k r h
  exact ⟨n2, r, h2⟩
/-- An end leads on to another end. -/
theorem forest_unite {M M2 : List (Value × Value)} (hn : (M.map Prod.fst).Nodup) {a b : Value} (ha : ∀ x ∈ M, x.1 ≠ a) (hb : ∀ x ∈ M, x.1 ≠ b) (hne : a ≠ b) (hp : Put M a b M2) (hF : Forest M) : Forest M2 := fun k => by
  obtain ⟨n, r, h⟩ := hF k
  induction h with
  | @stop k h =>
    by_cases e : k = a
    · subst e
      refine ⟨1, b, Ends.next ((put_mem hn hp _ _).2 (Or.inl ⟨rfl, rfl⟩)) (Ends.stop fun x hx e => ?_)⟩
      obtain ⟨x1, x2⟩ := x
      rcases (put_mem hn hp x1 x2).1 hx with ⟨e1, -⟩ | ⟨-, e1⟩
      · exact hne (e1.symm.trans e)
      · exact hb _ e1 e
    · refine ⟨0, k, Ends.stop fun x hx e2 => ?_⟩
      obtain ⟨x1, x2⟩ := x
      rcases (put_mem hn hp x1 x2).1 hx with ⟨e1, -⟩ | ⟨-, e1⟩
      · exact e (e2.symm.trans e1)
      · exact h _ e1 e2
  | @next k k2 r n hk t ih =>
    obtain ⟨n2, r2, h2⟩ := ih
    exact ⟨n2 + 1, r2, Ends.next ((put_mem hn hp _ _).2 (Or.inr ⟨fun e => ha _ hk e, hk⟩)) h2⟩
theorem forest_nil : Forest [] := fun k => ⟨0, k, Ends.stop fun x h => by cases h⟩
end Go.Proofs.Ytbnghkgfbjipdaa

namespace Go.Proofs.Ytbnghkgfbjipdaa
open Go Go.RowKit

/-- A pointer to plain memory with a number. -/
def PlaceK (w : World) (v : Value) : Prop := ∃ (a : Addr) (n : Int), v = .agg #[.pointer (some a), .int .i64 n] ∧ FreeB w a.block
theorem eq_int {w : World} (a b : Int) (d : Nat) : (Op.equalIn (d + 1) 3 (.int .i64 a) (.int .i64 b)).run Try.prog w = .ok (decide (a = b)) w := by
  by_cases h : a = b <;> simp [Op.equalIn, run_underlying Try.underlying3, h]
theorem eq_place (w : World) {a c : Addr} {m n : Int} (ha : FreeB w a.block) (hc : FreeB w c.block) :
    (Op.equal 129 (.agg #[.pointer (some a), .int .i64 m]) (.agg #[.pointer (some c), .int .i64 n])).run Try.prog w = .ok (decide (a = c) && decide (m = n)) w := by
  obtain ⟨j, hj, -, hz, -⟩ := info_parts Try.infoEx
  have hz : j.size ≠ 0 := by omega
  have e1 : (Op.equalIn 9999 124 (.pointer (some a)) (.pointer (some c))).run Try.prog w = .ok (decide (a = c)) w := eq_ptr (P := Try.prog) (w := w) (tp := 124) Try.underlying124 hj hz ha hc 9998
  have e2 : (Op.equalIn 9999 3 (.int .i64 m) (.int .i64 n)).run Try.prog w = .ok (decide (m = n)) w := eq_int m n 9998
  have u := run_underlying (w := w) Try.underlying129
  have st : Try.prog.stoodInHeld 129 = false := by kernel_rfl
  have p0 : ∀ x y : Value, (part 124 #[x, y] 0).run Try.prog w = .ok x w := fun x y => by kernel_rfl
  have p1 : ∀ x y : Value, (part 3 #[x, y] 1).run Try.prog w = .ok y w := fun x y => by kernel_rfl
  rw [Op.equal, show Op.maxDepth = 9999 + 1 from rfl, Op.equalIn]
  by_cases h1 : a = c
  · rw [decide_eq_true h1] at e1 ⊢
    by_cases h2 : m = n
    · rw [decide_eq_true h2] at e2 ⊢
      simp [u, st, p0, p1, e1, e2]
    · rw [decide_eq_false h2] at e2 ⊢
      simp [u, st, p0, p1, e1, e2]
  · rw [decide_eq_false h1] at e1 ⊢
    simp [u, st, p0, e1]
theorem placeT (w : World) : KeyT Try.prog 129 w (PlaceK w) := by
  refine ⟨fun em v ⟨a, n, hv, _⟩ => ?_, fun x es hx hes => ?_, fun v ⟨a, n, hv, _⟩ => ?_⟩
  · subst hv
    have u := run_underlying (w := w) Try.underlying129
    have up := run_underlying (w := w) Try.underlying124
    have ui := run_underlying (w := w) Try.underlying3
    have p0 : ∀ x y : Value, (part 124 #[x, y] 0).run Try.prog w = .ok x w := fun x y => by kernel_rfl
    have p1 : ∀ x y : Value, (part 3 #[x, y] 1).run Try.prog w = .ok y w := fun x y => by kernel_rfl
    have c1 : (Instr.checkKey em 9999 124 (.pointer (some a))).run Try.prog w = .ok () w := by rw [show 9999 = 9998 + 1 from rfl, Instr.checkKey]; simp [up]
    have c2 : (Instr.checkKey em 9999 3 (.int .i64 n)).run Try.prog w = .ok () w := by rw [show 9999 = 9998 + 1 from rfl, Instr.checkKey]; simp [ui]
    rw [show 10000 = 9999 + 1 from rfl, Instr.checkKey]
    simp [u, p0, p1, c1, c2]
  · have h := find_asking (P := Try.prog) (k := 129) (w := w) (K := PlaceK w) (fun x y ⟨a, m, hx, h1⟩ ⟨c, n, hy, h2⟩ => ⟨decide (a = c) && decide (m = n), by rw [hx, hy]; exact eq_place w h1 h2, by rw [hx, hy]; simp⟩) hx es 0 hes
    have e := Go.run_findKey_eq (P := Try.prog) w (k := 129) (by kernel_rfl) x es
    rw [e]
    simpa using h
  · subst hv
    simp [Instr.keyThatStays, Instr.sameBits]

/-- Two addresses of which one leads to plain memory that no string shares. -/
theorem same_half {P : Program} {w : World} {a b : Addr} {v : Value} (ha : FreeB w a.block) (hb : w.cell? ⟨b.block, b.off, none⟩ = some v) : (sameAddr a b).run P w = .ok (decide (a = b)) w := by
  by_cases hbl : a.block = b.block
  · have : (a == b) = decide (a = b) := by by_cases h : a = b <;> simp [h]
    simp [sameAddr, hbl, this]
  · obtain ⟨⟨ca, ta, fa, hca⟩, hfa⟩ := ha
    have hne : a ≠ b := fun e => hbl (by rw [e])
    have h1 : ∀ o p, w.frozen? ⟨a.block, o, p⟩ = false := fun o p => frozen_off hfa _ rfl
    obtain ⟨cb, tb, fb, hcb, hsz⟩ : ∃ cb tb fb, w.heap[b.block]? = some (.cells cb tb fb) ∧ cb.size ≠ 0 := by
      unfold World.cell? at hb
      split at hb
      · rename_i cb tb fb he
        refine ⟨cb, tb, fb, he, fun h0 => ?_⟩
        simp [Array.getElem?_eq_none (xs := cb) (i := b.off) (by omega)] at hb
      · cases hb
    simp [sameAddr, hbl, h1, hca, hcb, noView, viewAt, World.shape?, mayBeOne, stringish, hne, hsz]
theorem eq_ptr_half {P : Program} {w : World} {tp te : TypeId} {j : TypeInfo} {a b : Addr} {v : Value} (hp : P.underlying tp = some (.pointer te)) (hte : P.info? te = some j) (hsz : j.size ≠ 0) (ha : FreeB w a.block) (hb : w.cell? ⟨b.block, b.off, none⟩ = some v) (d : Nat) :
    (Op.equalIn (d + 1) tp (.pointer (some a)) (.pointer (some b))).run P w = .ok (decide (a = b)) w := by
  simp [Op.equalIn, run_underlying hp, sizeOf, typeInfo, hte, hsz, same_half ha hb]
theorem eq_place_half (w : World) {a c : Addr} {m n : Int} {v : Value} (ha : FreeB w a.block) (hc : w.cell? ⟨c.block, c.off, none⟩ = some v) :
    (Op.equal 129 (.agg #[.pointer (some a), .int .i64 m]) (.agg #[.pointer (some c), .int .i64 n])).run Try.prog w = .ok (decide (a = c) && decide (m = n)) w := by
  obtain ⟨j, hj, -, hz, -⟩ := info_parts Try.infoEx
  have hz : j.size ≠ 0 := by omega
  have e1 : (Op.equalIn 9999 124 (.pointer (some a)) (.pointer (some c))).run Try.prog w = .ok (decide (a = c)) w := eq_ptr_half (P := Try.prog) (w := w) (tp := 124) Try.underlying124 hj hz ha hc 9998
  have e2 : (Op.equalIn 9999 3 (.int .i64 m) (.int .i64 n)).run Try.prog w = .ok (decide (m = n)) w := eq_int m n 9998
  have u := run_underlying (w := w) Try.underlying129
  have st : Try.prog.stoodInHeld 129 = false := by kernel_rfl
  have p0 : ∀ x y : Value, (part 124 #[x, y] 0).run Try.prog w = .ok x w := fun x y => by kernel_rfl
  have p1 : ∀ x y : Value, (part 3 #[x, y] 1).run Try.prog w = .ok y w := fun x y => by kernel_rfl
  rw [Op.equal, show Op.maxDepth = 9999 + 1 from rfl, Op.equalIn]
  by_cases h1 : a = c
  · rw [decide_eq_true h1] at e1 ⊢
    by_cases h2 : m = n
    · rw [decide_eq_true h2] at e2 ⊢
      simp [u, st, p0, p1, e1, e2]
    · rw [decide_eq_false h2] at e2 ⊢
      simp [u, st, p0, p1, e1, e2]
  · rw [decide_eq_false h1] at e1 ⊢
    simp [u, st, p0, e1]
end Go.Proofs.Ytbnghkgfbjipdaa

namespace Go.Proofs.Ytbnghkgfbjipdaa
open Go Go.RowKit

def headsEq (a b : Ex) : Bool := decide (a.kind = b.kind) && (decide (a.name = b.name) && decide (a.args.length = b.args.length))
set_option maxHeartbeats 1000000 in
theorem own_heads (k k2 : Int) (s s2 : ByteArray) (A A2 : Option Addr) (n m c c2 : Nat) (w : World) :
    Calls Try.prog 79 #[.agg #[.int .i64 k, .string s, .slice A n c], .agg #[.int .i64 k2, .string s2, .slice A2 m c2]] w (RetPost (.bool (decide (k = k2) && (decide (s = s2) && decide (n = m)))) w) := by
  have HL := Lib.hid (fun (o o2 : Obj) => ((Below.refl w.heap.size w).alloc (Nat.le_refl _) o).alloc (by simp) o2)
  by_cases hk : k = k2
  · have h1 : (k == k2) = true := by simp [hk]
    by_cases hs : s = s2
    · have h2 := beq_yes hs
      by_cases hq : n = m
      · have h3 : ((n : Int) == (m : Int)) = true := by simp [hq]
        have HR := Lib.hid (show (decide (k = k2) && (decide (s = s2) && decide (n = m))) = true by simp [hk, hs, hq])
        clear hk hs hq
        go_enter Try.func79, Try.ntmps79
        go_wp2_with fail
        go_ret
        exact ⟨by rw [HR.out]; try rfl, HL.out _ _⟩
      · have h3 : ((n : Int) == (m : Int)) = false := by simp; omega
        have HR := Lib.hid (show (decide (k = k2) && (decide (s = s2) && decide (n = m))) = false by simp [hk, hs, hq])
        clear hk hs hq
        go_enter Try.func79, Try.ntmps79
        go_wp2_with fail
        go_ret
        exact ⟨by rw [HR.out]; try rfl, HL.out _ _⟩
    · have h2 := beq_no hs
      have HR := Lib.hid (show (decide (k = k2) && (decide (s = s2) && decide (n = m))) = false by simp [hk, hs])
      clear hk hs
      go_enter Try.func79, Try.ntmps79
      go_wp2_with fail
      go_ret
      exact ⟨by rw [HR.out]; try rfl, HL.out _ _⟩
  · have h1 : (k == k2) = false := by simp [hk]
    have HR := Lib.hid (show (decide (k = k2) && (decide (s = s2) && decide (n = m))) = false by simp [hk])
    clear hk
    go_enter Try.func79, Try.ntmps79
    go_wp2_with fail
    go_ret
    exact ⟨by rw [HR.out]; try rfl, HL.out _ _⟩
set_option maxHeartbeats 1000000 in
theorem own_place (g o n c : Nat) (w : World) (hn : 0 < n) (hn2 : n ≤ 9223372036854775807) :
    Calls Try.prog 91 #[.slice (some ⟨g, o, none⟩) n c] w (RetPost (.agg #[.pointer (some ⟨g, o, none⟩), .int .i64 (n : Int)]) w) := by
  have HL := Lib.hid (fun (o : Obj) => (Below.refl w.heap.size w).alloc (Nat.le_refl _) o)
  have hn3 : (0 : Int) < (n : Int) := by omega
  obtain ⟨i0, hi, hz0, hz1, hz2⟩ := info_parts Try.infoEx
  go_enter Try.func91, Try.ntmps91
  go_wp2_with fail
  refine bodyPost_ret (v := .agg #[.pointer (some ⟨g, o, none⟩), .int .i64 (n : Int)]) (by simp [results, Try.results91, go_sem]) rfl ?_
  exact ⟨rfl, HL.out _⟩
end Go.Proofs.Ytbnghkgfbjipdaa
