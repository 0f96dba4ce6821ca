/- For the program's own EqualExpr: pairs of places that are still to be compared, and what is known of the pairs that are remembered. No condition. -/
import Derived.Test.YtegigjnlecpplaaNodesKit
import Derived.Test.YtegigjnlecpplaaSpecEqual
import Derived.Test.YtegigjnlecpplaaPtrs
namespace Go.Proofs.Ytegigjnlecpplaa
open Go Go.RowKit

/-- One place is one expression. -/
theorem at_det (n : Nat) : (∀ (e e' : Ex), exSize e ≤ n → ∀ (w : World) (g o : Nat) (bs bs' : List Nat), ExAt w g o e bs → ExAt w g o e' bs' → e = e') ∧
    (∀ (l l' : List Ex), exSizes l ≤ n → ∀ (w : World) (g o j : Nat) (bs bs' : List Nat), ExsAt w g o j l bs → ExsAt w g o j l' bs' → l.length = l'.length → l = l') := by
  induction n with
  | zero =>
    refine ⟨fun e _ h => by have := exSize_pos e; omega, fun l l' h => ?_⟩
    cases l with
    | nil => intro w g o j bs bs' _ _ hl; exact (List.eq_nil_of_length_eq_zero (by simpa using hl.symm)).symm
    | cons e r => rw [exSizes] at h; have := exSize_pos e; omega
  | succ n ih =>
    have hE : ∀ (e e' : Ex), exSize e ≤ n + 1 → ∀ (w : World) (g o : Nat) (bs bs' : List Nat), ExAt w g o e bs → ExAt w g o e' bs' → e = e' := by
      intro e e' he w g o bs bs' h h'
      cases e with
      | mk k s l =>
        cases e' with
        | mk k' s' l' =>
          rw [exSize] at he
          rw [ExAt] at h h'
          obtain ⟨h1, h2, -, A, c, h4, -, -, h7⟩ := h
          obtain ⟨h1', h2', -, A', c', h4', -, -, h7'⟩ := h'
          rw [h1] at h1'
          rw [h2] at h2'
          rw [h4] at h4'
          simp only [Option.some.injEq, Value.int.injEq, Value.string.injEq, Value.slice.injEq, true_and] at h1' h2' h4'
          obtain ⟨hA, hl, -⟩ := h4'
          subst h1' h2' hA
          have : l = l' := by
            rcases h7 with ⟨rfl, -⟩ | ⟨g1, o1, b1, e1, -, -, h8⟩
            · exact (List.eq_nil_of_length_eq_zero (by simpa using hl.symm)).symm
            · rcases h7' with ⟨rfl, -⟩ | ⟨g2, o2, b2, e2, -, -, h8'⟩
              · exact List.eq_nil_of_length_eq_zero (by simpa using hl)
              · rw [e1] at e2
                cases e2
                exact ih.2 l l' (by omega) w g1 o1 0 b1 b2 h8 h8' hl
          rw [this]
    refine ⟨hE, ?_⟩
    intro l
    induction l with
    | nil => intro l' _ w g o j bs bs' _ _ hl; exact (List.eq_nil_of_length_eq_zero (by simpa using hl.symm)).symm
    | cons e r ihl =>
      intro l' hs w g o j bs bs' h h' hl
      cases l' with
      | nil => simp at hl
      | cons e' r' =>
        rw [exSizes] at hs
        have hp := exSize_pos e
        rw [ExsAt] at h h'
        obtain ⟨b1, b2, -, h1, h2⟩ := h
        obtain ⟨b1', b2', -, h1', h2'⟩ := h'
        rw [hE e e' (by omega) w g _ b1 b1' h1 h1', ihl r' (by omega) w g o (j + 1) b2 b2' h2 h2' (by simpa using hl)]

/-- A place that holds an expression; its blocks are among G. -/
abbrev At (wo : World) (G : List Nat) : Type := { x : Nat × Nat × Ex × List Nat // ExAt wo x.1 x.2.1 x.2.2.1 x.2.2.2 ∧ x.1 ∈ G ∧ ∀ z ∈ x.2.2.2, z ∈ G }
section
variable {wo : World} {G : List Nat}
def At.ex (x : At wo G) : Ex := x.1.2.2.1
def At.adr (x : At wo G) : Addr := ⟨x.1.1, x.1.2.1, none⟩
theorem At.det {x y : At wo G} (h : x.adr = y.adr) : x.ex = y.ex := by
  have h1 : x.1.1 = y.1.1 := congrArg Addr.block h
  have h2 : x.1.2.1 = y.1.2.1 := congrArg Addr.off h
  have hy := y.2.1
  rw [← h1, ← h2] at hy
  exact (at_det _).1 _ _ (Nat.le_refl _) wo _ _ _ _ x.2.1 hy
theorem kids_places {g o : Nat} (hg : g ∈ G) : ∀ (l : List Ex) (j : Nat) (bs : List Nat), ExsAt wo g o j l bs → (∀ z ∈ bs, z ∈ G) → ∃ ks : List (At wo G), ks.map At.ex = l ∧ ∀ (i : Nat) (k : At wo G), ks[i]? = some k → k.adr = ⟨g, o + (j + i) * 3, none⟩ := by
  intro l
  induction l with
  | nil => intro j bs _ _; exact ⟨[], rfl, fun i k h => by simp at h⟩
  | cons e r ih =>
    intro j bs h hb
    rw [ExsAt] at h
    obtain ⟨b1, b2, rfl, h1, h2⟩ := h
    obtain ⟨ks, e1, e2⟩ := ih (j + 1) b2 h2 (fun z hz => hb z (by simp [hz]))
    refine ⟨⟨(g, o + j * 3, e, b1), h1, hg, fun z hz => hb z (by simp [hz])⟩ :: ks, by rw [List.map_cons, e1]; rfl, fun i k hi => ?_⟩
    cases i with
    | zero =>
      simp at hi
      rw [← hi]
      rfl
    | succ i =>
      rw [e2 i k (by simpa using hi)]
      congr 2
      omega
/-- What lies at a place. -/
theorem At.parts (x : At wo G) : ∃ A c, wo.cell? x.adr = some (.int .i64 x.ex.kind) ∧ wo.cell? ⟨x.1.1, x.1.2.1 + 1, none⟩ = some (.string x.ex.name) ∧ wo.cell? ⟨x.1.1, x.1.2.1 + 2, none⟩ = some (.slice A x.ex.args.length c) ∧ x.ex.args.length ≤ c ∧ c ≤ 9223372036854775807 ∧
    ∃ ks : List (At wo G), ks.map At.ex = x.ex.args ∧ ∀ (i : Nat) (k : At wo G), ks[i]? = some k → ∃ g o, A = some ⟨g, o, none⟩ ∧ g < wo.heap.size ∧ k.adr = ⟨g, o + i * 3, none⟩ := by
  obtain ⟨u, c0, c1, c2, h⟩ := x.2.1.is
  obtain ⟨u', e1, -, A, c, e2, h1, h2, h3⟩ := h
  simp only [Value.agg.injEq, Array.mk.injEq, List.cons.injEq, and_true, true_and] at e1
  subst e1; subst e2
  refine ⟨A, c, c0, c1, c2, h1, h2, ?_⟩
  rcases h3 with ⟨h3, -⟩ | ⟨g, o, bs', rfl, hg, e3, h4⟩
  · refine ⟨[], ?_, fun i k h => by simp at h⟩
    show [] = x.1.2.2.1.args
    rw [h3]
  · obtain ⟨ks, k1, k2⟩ := kids_places (G := G) (x.2.2.2 g (by rw [e3]; simp)) _ 0 bs' h4 (fun z hz => x.2.2.2 z (by rw [e3]; simp [hz]))
    exact ⟨ks, k1, fun i k hi => ⟨g, o, rfl, hg, by rw [k2 i k hi, Nat.zero_add]⟩⟩

/-- A pair of places that is still to be compared. -/
abbrev Pr (wo : World) (G : List Nat) : Type := At wo G × At wo G
def pcells (p : Pr wo G) : List Value := [.pointer (some p.1.adr), .pointer (some p.2.adr)]
def pkey (p : Pr wo G) : Value := .agg #[.pointer (some p.1.adr), .pointer (some p.2.adr)]
def pflat (ps : List (Pr wo G)) : List Value := ps.flatMap pcells
def same (p : Pr wo G) : Bool := exEq p.1.ex p.2.ex
def allEq (ps : List (Pr wo G)) : Bool := ps.all same
def weigh : List (Pr wo G) → Nat
  | [] => 0
  | p :: r => exSize p.1.ex + weigh r
theorem pkey_det {p q : Pr wo G} (h : pkey p = pkey q) : p.1.ex = q.1.ex ∧ p.2.ex = q.2.ex := by
  simp only [pkey, Value.agg.injEq, Array.mk.injEq, List.cons.injEq, Value.pointer.injEq, Option.some.injEq, and_true] at h
  exact ⟨At.det h.1, At.det h.2⟩
theorem pflat_len (ps : List (Pr wo G)) : (pflat ps).length = ps.length * 2 := by
  induction ps with
  | nil => rfl
  | cons p r ih => rw [pflat, List.flatMap_cons, List.length_append, ← pflat, ih]; simp [pcells]; omega
theorem pflat_one (ps : List (Pr wo G)) (p : Pr wo G) : pflat (ps ++ [p]) = pflat ps ++ pcells p := by simp [pflat]
theorem all_one (ps : List (Pr wo G)) (p : Pr wo G) : allEq (ps ++ [p]) = (allEq ps && same p) := by simp [allEq]
theorem all_more (ps qs : List (Pr wo G)) : allEq (ps ++ qs) = (allEq ps && allEq qs) := by simp [allEq]
theorem weigh_app : ∀ (a b : List (Pr wo G)), weigh (a ++ b) = weigh a + weigh b := by
  intro a
  induction a with
  | nil => intro b; simp [weigh]
  | cons p r ih => intro b; rw [List.cons_append, weigh, weigh, ih]; omega
theorem weigh_len (ps : List (Pr wo G)) : ps.length ≤ weigh ps := by
  induction ps with
  | nil => simp [weigh]
  | cons p r ih => rw [weigh, List.length_cons]; have := exSize_pos p.1.ex; omega
theorem zip_eq : ∀ (xs ys : List (At wo G)), xs.length = ys.length → allEq (xs.zip ys) = exEqs (xs.map At.ex) (ys.map At.ex) := by
  intro xs
  induction xs with
  | nil => intro ys h; cases ys with
    | nil => rfl
    | cons y r => simp at h
  | cons x r ih => intro ys h; cases ys with
    | nil => simp at h
    | cons y s =>
      rw [List.zip_cons_cons, List.map_cons, List.map_cons, exEqs, ← ih s (by simpa using h)]
      simp [allEq, same]
theorem zip_weigh : ∀ (xs ys : List (At wo G)), xs.length = ys.length → weigh (xs.zip ys) = exSizes (xs.map At.ex) := by
  intro xs
  induction xs with
  | nil => intro ys _; rfl
  | cons x r ih => intro ys h; cases ys with
    | nil => simp at h
    | cons y s =>
      rw [List.zip_cons_cons, weigh, List.map_cons, exSizes, ih s (by simpa using h)]
theorem zip_less {x : At wo G} {xs ys : List (At wo G)} (hx : xs.map At.ex = x.ex.args) : ∀ z ∈ xs.zip ys, exSize z.1.ex < exSize x.ex := by
  intro z hz
  refine exSize_args (e := x.ex) ?_
  rw [← hx]
  exact List.mem_map_of_mem (List.of_mem_zip hz).1

/-- Of each pair that is remembered: behind some place of the list there are smaller ones alone, and if these are equal, it is. -/
def SeenOk (sn ps : List (Pr wo G)) : Prop := ∀ s ∈ sn, ∃ j, j ≤ ps.length ∧ (∀ p ∈ ps.drop j, exSize p.1.ex < exSize s.1.ex) ∧ (allEq (ps.drop j) = true → same s = true)
theorem seen_skip {sn ps : List (Pr wo G)} {p s : Pr wo G} (h : SeenOk sn (ps ++ [p])) (hs : s ∈ sn) (hk : pkey s = pkey p) : same p = true ∧ SeenOk sn ps := by
  obtain ⟨e1, e2⟩ := pkey_det hk
  have hp : same p = true := by
    obtain ⟨j, hj, h1, h2⟩ := h s hs
    by_cases hl : j ≤ ps.length
    · rw [List.drop_append_of_le_length hl] at h1
      have := h1 p (by simp)
      rw [e1] at this
      omega
    · rw [List.drop_eq_nil_of_le (by simp; omega)] at h2
      have := h2 rfl
      unfold same at this ⊢
      rw [← e1, ← e2]
      exact this
  refine ⟨hp, fun t ht => ?_⟩
  obtain ⟨j, hj, h1, h2⟩ := h t ht
  by_cases hl : j ≤ ps.length
  · rw [List.drop_append_of_le_length hl] at h1 h2
    exact ⟨j, hl, fun q hq => h1 q (by simp [hq]), fun ha => h2 (by rw [all_one, ha, hp]; rfl)⟩
  · rw [List.drop_eq_nil_of_le (by simp; omega)] at h2
    exact ⟨ps.length, Nat.le_refl _, fun q hq => by simp at hq, fun _ => h2 rfl⟩
theorem seen_push {sn ps zs : List (Pr wo G)} {p : Pr wo G} (h : SeenOk sn (ps ++ [p])) (heq : allEq zs = true → same p = true) (hz : ∀ z ∈ zs, exSize z.1.ex < exSize p.1.ex) : SeenOk (sn ++ [p]) (ps ++ zs) := by
  intro t ht
  rcases List.mem_append.1 ht with ht | ht
  · obtain ⟨j, hj, h1, h2⟩ := h t ht
    by_cases hl : j ≤ ps.length
    · rw [List.drop_append_of_le_length hl] at h1 h2
      refine ⟨j, by simp; omega, fun q hq => ?_, fun ha => ?_⟩
      · rw [List.drop_append_of_le_length hl] at hq
        rcases List.mem_append.1 hq with hq | hq
        · exact h1 q (by simp [hq])
        · exact Nat.lt_trans (hz q hq) (h1 p (by simp))
      · rw [List.drop_append_of_le_length hl, all_more, Bool.and_eq_true] at ha
        exact h2 (by rw [all_one, ha.1, heq ha.2]; rfl)
    · rw [List.drop_eq_nil_of_le (by simp; omega)] at h2
      exact ⟨(ps ++ zs).length, Nat.le_refl _, fun q hq => by simp at hq, fun _ => h2 rfl⟩
  · rw [List.mem_singleton] at ht
    subst ht
    exact ⟨ps.length, by simp, fun q hq => hz q (by simpa using hq), fun ha => heq (by simpa using ha)⟩
theorem SeenOk.less {sn sn2 ps : List (Pr wo G)} (h : SeenOk sn ps) (hs : ∀ s ∈ sn2, s ∈ sn) : SeenOk sn2 ps := fun s ht => h s (hs s ht)

/-- The last pair of the list, written out. -/
theorem pair_top {W : World} {ps : List (Pr wo G)} {p : Pr wo G} {AO : Option Addr} {n co base : Nat} (hn : n = ps.length) (h : W.ownsRow base 105 2 (.slice AO (n + 1) co) (n + 1) (pflat (ps ++ [p]))) :
    ∃ g, AO = some ⟨g, 0, none⟩ ∧ g < W.heap.size ∧ base ≤ g ∧ n + 1 ≤ co ∧ co ≤ maxLen ∧ W.cell? ⟨g, n * 2, none⟩ = some (.pointer (some p.1.adr)) ∧ W.cell? ⟨g, n * 2 + 1, none⟩ = some (.pointer (some p.2.adr)) ∧ W.ownsRow base 105 2 (.slice AO n co) n (pflat ps) := by
  subst hn
  rw [pflat_one] at h
  obtain ⟨g, cap, hv, h1, h2⟩ := h.form (by omega)
  cases hv
  have hx := pflat_len ps
  have hc : ∀ (j : Nat) (v : Value), (pcells p)[j]? = some v → W.cell? ⟨g, ps.length * 2 + j, none⟩ = some v := by
    intro j v hj
    have hj6 : j < 2 := by have := (List.getElem?_eq_some_iff.1 hj).1; simpa [pcells] using this
    rw [h.cellAt (ps.length * 2 + j) (by omega), List.getElem?_append_right (by omega), hx, Nat.add_sub_cancel_left]
    exact hj
  refine ⟨g, rfl, h2, h1, ?_, ?_, hc 0 _ rfl, hc 1 _ rfl, ownsRow_pop (by rw [hx]) h⟩
  · rcases h.2 with ⟨h0, -⟩ | ⟨g', cap', cur, hv, -, -, hn, -⟩
    · cases h0
    · cases hv; exact hn
  · rcases h.2 with ⟨h0, -⟩ | ⟨g', cap', cur, hv, -, -, -, hm, -⟩
    · cases h0
    · cases hv; exact hm
end
theorem Try.infoTwo : (Try.prog.info? 105).map (fun i => (i.zero, i.size, i.bytes)) = some (some (.agg #[.pointer none, .pointer none]), 2, 16) := by kernel_rfl
end Go.Proofs.Ytegigjnlecpplaa
