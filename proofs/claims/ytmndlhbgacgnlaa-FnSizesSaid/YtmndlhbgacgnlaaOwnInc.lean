/- The contract of the program's own include: whether two expressions are equal, and what is known behind it. Conditions: fewer than 2^40 nodes; no string shares the memory of the expressions. -/
import Derived.Test.YtmndlhbgacgnlaaOwnPairs
import Derived.Test.YtmndlhbgacgnlaaLawSizes
namespace Go.Proofs.Ytmndlhbgacgnlaa
open Go Go.RowKit

section
variable {wo : World} {G : List Nat}
/-- A place of an expression, seen from a later world. -/
def At.lift {w1 : World} {G1 : List Nat} (hb : Below wo.heap.size wo w1) (hG : ∀ z ∈ G, z ∈ G1) (x : At wo G) : At w1 G1 :=
  ⟨x.1, (ex_keeps (exSize x.1.2.2.1)).1 _ (Nat.le_refl _) wo w1 _ _ _ x.2.1 (by obtain ⟨u, h, -⟩ := x.2.1.is; exact World.block_lt_of_cell? wo _ h) (keeps_below hb _), hG _ x.2.2.1, fun z hz => hG z (x.2.2.2 z hz)⟩
theorem lift_ex {w1 : World} {G1 : List Nat} (hb : Below wo.heap.size wo w1) (hG : ∀ z ∈ G, z ∈ G1) (x : At wo G) : (At.lift hb hG x).ex = x.ex := rfl
def Pr.lift {w1 : World} {G1 : List Nat} (hb : Below wo.heap.size wo w1) (hG : ∀ z ∈ G, z ∈ G1) (p : Pr wo G) : Pr w1 G1 := (At.lift hb hG p.1, At.lift hb hG p.2)
theorem lift_flat {w1 : World} {G1 : List Nat} (hb : Below wo.heap.size wo w1) (hG : ∀ z ∈ G, z ∈ G1) (ps : List (Pr wo G)) : pflat (ps.map (Pr.lift hb hG)) = pflat ps := by
  induction ps with
  | nil => rfl
  | cons p r ih => rw [List.map_cons, pflat, List.flatMap_cons, ← pflat, ih]; rfl
theorem lift_weigh {w1 : World} {G1 : List Nat} (hb : Below wo.heap.size wo w1) (hG : ∀ z ∈ G, z ∈ G1) (ps : List (Pr wo G)) : weigh (ps.map (Pr.lift hb hG)) = weigh ps := by
  induction ps with
  | nil => rfl
  | cons p r ih => rw [List.map_cons, weigh, weigh, ih]; rfl
theorem lift_all {w1 : World} {G1 : List Nat} (hb : Below wo.heap.size wo w1) (hG : ∀ z ∈ G, z ∈ G1) (ps : List (Pr wo G)) : allEq (ps.map (Pr.lift hb hG)) = allEq ps := by
  unfold allEq
  rw [List.all_map]; rfl
theorem weigh_rev (ps : List (Pr wo G)) : weigh ps.reverse = weigh ps := by
  induction ps with
  | nil => rfl
  | cons p r ih => rw [List.reverse_cons, weigh_app, ih, weigh, weigh, weigh]; omega
/-- What lies in the slice cell of an expression of a later world whose arguments lie in the first. -/
def ArgsIn (w1 : World) (G1 : List Nat) (x : At w1 G1) : Prop := ∃ A c, w1.cell? ⟨x.1.1, x.1.2.1 + 2, none⟩ = some (.slice A x.ex.args.length c) ∧ x.ex.args.length ≤ c ∧ c ≤ 9223372036854775807 ∧ (x.ex.args = [] ∨ ∃ p : Pl wo G, A = some ⟨p.1.1, p.1.2.1, none⟩ ∧ p.exs = x.ex.args)
theorem lift_args {w1 : World} {G1 : List Nat} (hb : Below wo.heap.size wo w1) (hG : ∀ z ∈ G, z ∈ G1) (x : At wo G) : ArgsIn (wo := wo) (G := G) w1 G1 (At.lift hb hG x) := by
  obtain ⟨A, c, -, -, h3, -, h5, h6, h7⟩ := x.place
  exact ⟨A, c, (hb.cell (p := ⟨x.1.1, x.1.2.1 + 2, none⟩) (World.block_lt_of_cell? wo _ h3)).trans h3, h5, h6, h7⟩
/-- What a step keeps that turns the record alone. -/
structure IncB (w w1 : World) (G1 : List Nat) (kq : Nat) (mo : Option Nat) (wo : World) (W : World) : Prop where
  keep : ∀ z ∈ G1, z < w1.heap.size → W.heap[z]? = w1.heap[z]?
  low : Below wo.heap.size wo W
  fr : Fr (kq :: mo.toList) w W
  big : w1.heap.size ≤ W.heap.size
/-- What the loop holds. -/
structure Inc (w w1 : World) (G1 : List Nat) (a b : Ex) (kq N : Nat) (mo : Option Nat) (n : Nat) (AO : Option Addr) (co : Nat) (N2 : Nat) (mo2 : Option Nat) (E : List (Pl wo G × Pl wo G)) (ps : List (Pr w1 G1)) (W : World) : Prop where
  at_ : IncB w w1 G1 kq mo wo W
  st : EqSt E kq N2 mo2 W
  own : ∀ j ∈ mo2.toList, j ∈ mo.toList ∨ w.heap.size ≤ j
  sound : Sound E ps
  root : Done E a b ∨ ∃ q ∈ ps, q.1.ex = a ∧ q.2.ex = b
  yes : exEq a b = true → ∀ p ∈ ps, same p = true
  args : ∀ p ∈ ps, ArgsIn (wo := wo) (G := G) w1 G1 p.1 ∧ ArgsIn (wo := wo) (G := G) w1 G1 p.2
  row : W.ownsRow w1.heap.size 155 2 (.slice AO n co) n (pflat ps)
  len : n = ps.length
  size : N2 + weigh ps + 1 ≤ N + exSize a + ps.length
  wt : weigh ps ≤ exSize a
/-- What include leaves. -/
def IncPost (a b : Ex) (kq N : Nat) (mo : Option Nat) (w : World) (e : Ending) (w2 : World) : Prop :=
  ∃ (N2 : Nat) (mo2 : Option Nat), e = .returned (.bool (exEq a b)) ∧ Fr (kq :: mo.toList) w w2 ∧ (exEq a b = true → EqSt (wo := wo) (G := G) [] kq N2 mo2 w2 ∧ N2 ≤ N + exSize a ∧ ∀ j ∈ mo2.toList, j ∈ mo.toList ∨ w.heap.size ≤ j)
theorem EqSt.settle {w1 : World} {G1 : List Nat} {E : List (Pl wo G × Pl wo G)} {kq N : Nat} {mo : Option Nat} {W : World} (h : EqSt E kq N mo W) (hS : Sound (w1 := w1) (G1 := G1) E []) : EqSt (wo := wo) (G := G) [] kq N mo W :=
  ⟨h.q, fun mb e => by
    obtain ⟨h1, M, h2, h3, h4⟩ := h.map mb e
    refine ⟨h1, M, h2, fun x hx => ?_, h4⟩
    obtain ⟨u, v, e1, c⟩ := h3 x hx
    exact ⟨u, v, e1, Conn.same (hS.conn c)⟩⟩
variable {w w1 : World} {G1 : List Nat} {a b : Ex} {kq N : Nat} {mo : Option Nat} {n : Nat} {AO : Option Addr} {co N2 : Nat} {mo2 : Option Nat} {E : List (Pl wo G × Pl wo G)} {ps : List (Pr w1 G1)} {W : World}
theorem Inc.done (h : Inc w w1 G1 a b kq N mo 0 AO co N2 mo2 E ps W) : exEq a b = true ∧ IncPost (wo := wo) (G := G) a b kq N mo w (.returned (.bool (exEq a b))) W := by
  obtain rfl : ps = [] := List.eq_nil_of_length_eq_zero h.len.symm
  have he : exEq a b = true := by
    rcases h.root with h1 | ⟨q, hq, -⟩
    · exact (exEq_same a b).2 (h.sound.done h1)
    · cases hq
  exact ⟨he, N2, mo2, rfl, h.at_.fr, fun _ => ⟨h.st.settle h.sound, by have := h.size; simp [weigh] at this; omega, h.own⟩⟩
theorem Inc.no (h : Inc w w1 G1 a b kq N mo n AO co N2 mo2 E ps W) {p : Pr w1 G1} (hp : p ∈ ps) (hd : same p = false) {W2 : World} (hf : Fr (kq :: mo.toList) w W2) : IncPost (wo := wo) (G := G) a b kq N mo w (.returned (.bool false)) W2 := by
  have he : exEq a b = false := by
    cases h1 : exEq a b with
    | false => rfl
    | true => have := h.yes h1 p hp; rw [hd] at this; cases this
  exact ⟨N2, mo2, by rw [he], hf, fun h => by rw [he] at h; cases h⟩
/-- The first world's boxes. -/
structure IncW (wo w w1 : World) (G1 : List Nat) (kq : Nat) : Prop where
  g1 : ∀ z ∈ G1, z < wo.heap.size ∨ z = w.heap.size ∨ z = w.heap.size + 1
  b1 : ∃ c t f, w1.heap[w.heap.size]? = some (.cells c t f)
  b2 : ∃ c t f, w1.heap[w.heap.size + 1]? = some (.cells c t f)
  sz : w1.heap.size = w.heap.size + 1 + 1
  kq1 : wo.heap.size ≤ kq
  kq2 : kq < w.heap.size
  le : wo.heap.size ≤ w.heap.size
theorem cells_not_map {W : World} {z mb : Nat} {M : List (Value × Value)} (hm : MapSt W mb M) (hc : ∃ c t f, W.heap[z]? = some (.cells c t f)) : z ≠ mb := fun e => by
  obtain ⟨es, clock, h, -⟩ := hm.is
  obtain ⟨c, t, f, h2⟩ := hc
  rw [e, h] at h2
  cases h2
theorem IncB.move (h : IncB w w1 G1 kq mo wo W) (hw : IncW wo w w1 G1 kq) (hst : EqSt E kq N2 mo2 W) (hown : ∀ j ∈ mo2.toList, j ∈ mo.toList ∨ w.heap.size ≤ j) {W2 : World} (hf : Fr (kq :: mo2.toList) W W2) : IncB w w1 G1 kq mo wo W2 := by
  have hws := h.big
  refine ⟨fun z hz hl => (hf.block z (by omega) ?_).trans (h.keep z hz hl), h.low.trans (hf.below ?_ h.low.size), h.fr.trans hf ?_, Nat.le_trans hws hf.size⟩
  · intro hm
    have hk1 := hw.kq1
    have hk2 := hw.kq2
    rcases List.mem_cons.1 hm with rfl | hm
    · rcases hw.g1 z hz with h1 | h1 | h1 <;> omega
    · obtain ⟨h5, M, h6, -⟩ := hst.map z (by simpa [eq_comm] using hm)
      rcases hw.g1 z hz with h1 | h1 | h1
      · omega
      · refine cells_not_map (z := z) h6 ?_ rfl
        obtain ⟨c, t, f, h7⟩ := hw.b1
        subst h1
        exact ⟨c, t, f, (h.keep _ hz hl).trans h7⟩
      · refine cells_not_map (z := z) h6 ?_ rfl
        obtain ⟨c, t, f, h7⟩ := hw.b2
        subst h1
        exact ⟨c, t, f, (h.keep _ hz hl).trans h7⟩
  · intro x hx
    rcases List.mem_cons.1 hx with rfl | hx
    · exact hw.kq1
    · exact (hst.map x (by simpa [eq_comm] using hx)).1
  · intro x hx
    rcases List.mem_cons.1 hx with rfl | hx
    · exact Or.inl (by simp)
    · exact (hown x hx).imp (fun h => List.mem_cons_of_mem _ h) id
theorem row_move {W W2 : World} (hst : EqSt E kq N2 mo2 W) {base n co : Nat} {AO : Option Addr} {xs : List Value} (hr : W.ownsRow base 155 2 (.slice AO n co) n xs) (hf : Fr (kq :: mo2.toList) W W2) : W2.ownsRow base 155 2 (.slice AO n co) n xs := by
  refine row_on hr (fun j hj => hf.block j (hr.lt j hj).2 (fun hm => ?_))
  have hq := hst.q
  rcases hr.2 with ⟨h0, -⟩ | ⟨g, cap, cur, hv, -, hg, -⟩
  · rw [h0] at hj; cases hj
  · rw [hv] at hj
    obtain rfl : g = j := by simpa [Value.ownBlock] using hj
    rcases List.mem_cons.1 hm with rfl | hm
    · unfold EqBox at hq
      rw [hg] at hq
      simp at hq
    · obtain ⟨h5, M, h6, -⟩ := hst.map g (by simpa [eq_comm] using hm)
      exact cells_not_map (z := g) h6 ⟨_, _, _, hg⟩ rfl
theorem args_size (x : Ex) : x.args.length + 1 ≤ exSize x ∧ exSizes x.args + 1 = exSize x := by
  cases x with
  | mk k s l => rw [exSize]; have := sizes_len l; exact ⟨by simp only [Ex.args]; omega, rfl⟩
theorem Inc.skip {k : Nat} {ps0 : List (Pr w1 G1)} {p : Pr w1 G1} (h : Inc w w1 G1 a b kq N mo (k + 1) AO co N2 mo2 E (ps0 ++ [p]) W) (hd : Done E p.1.ex p.2.ex) {N3 co3 : Nat} {AO3 : Option Addr} {mo3 : Option Nat} {W2 : World} (hb : IncB w w1 G1 kq mo wo W2) (hst : EqSt E kq N3 mo3 W2) (hown : ∀ j ∈ mo3.toList, j ∈ mo.toList ∨ w.heap.size ≤ j) (hrow : W2.ownsRow w1.heap.size 155 2 (.slice AO3 k co3) k (pflat ps0)) (hN : N3 ≤ N2 + p.1.ex.args.length) :
    Inc w w1 G1 a b kq N mo k AO3 co3 N3 mo3 E ps0 W2 := by
  have hl := h.len
  have hs := h.size
  have hw := h.wt
  rw [weigh_app] at hs hw
  simp only [weigh, List.length_append, List.length_cons, List.length_nil] at hl hs hw
  have ha := (args_size p.1.ex).1
  refine ⟨hb, hst, hown, h.sound.skip hd, ?_, fun he q hq => h.yes he q (List.mem_append_left _ hq), fun q hq => h.args q (List.mem_append_left _ hq), hrow, by omega, by omega, by omega⟩
  rcases h.root with h1 | ⟨q, hq, e1, e2⟩
  · exact Or.inl h1
  · rcases List.mem_append.1 hq with hq | hq
    · exact Or.inr ⟨q, hq, e1, e2⟩
    · rw [List.mem_singleton] at hq; subst hq; rw [e1, e2] at hd; exact Or.inl hd
theorem Inc.push {k m : Nat} {ps0 : List (Pr w1 G1)} {p : Pr w1 G1} (h : Inc w w1 G1 a b kq N mo (k + 1) AO co N2 mo2 E (ps0 ++ [p]) W) {P Q : Pl wo G} (hP : P.exs = p.1.ex.args) (hQ : Q.exs = p.2.ex.args) (hm : m = P.exs.length) (hm2 : m = Q.exs.length) (h1 : p.1.ex.kind = p.2.ex.kind) (h2 : p.1.ex.name = p.2.ex.name) (hlow : Below wo.heap.size wo w1) (hGG : ∀ z ∈ G, z ∈ G1)
    {co3 : Nat} {AO3 : Option Addr} {mo3 : Option Nat} {W2 : World} (hb : IncB w w1 G1 kq mo wo W2) (hst : EqSt (E ++ [(P, Q)]) kq (N2 + m) mo3 W2) (hown : ∀ j ∈ mo3.toList, j ∈ mo.toList ∨ w.heap.size ≤ j) (hrow : W2.ownsRow w1.heap.size 155 2 (.slice AO3 (k + m) co3) (k + m) (pflat ps0 ++ pflat (P.kids.zip Q.kids).reverse)) :
    Inc w w1 G1 a b kq N mo (k + m) AO3 co3 (N2 + m) mo3 (E ++ [(P, Q)]) (ps0 ++ (P.kids.zip Q.kids).reverse.map (Pr.lift hlow hGG)) W2 := by
  have hl := h.len
  have hs := h.size
  have hw := h.wt
  rw [weigh_app] at hs hw
  simp only [weigh, List.length_append, List.length_cons, List.length_nil] at hl hs hw
  have hPl := P.kids_len
  have hQl := Q.kids_len
  have hzl : (P.kids.zip Q.kids).length = m := by rw [List.length_zip, hPl, hQl]; omega
  have hwz : weigh ((P.kids.zip Q.kids).reverse.map (Pr.lift (w1 := w1) (G1 := G1) hlow hGG)) + 1 = exSize p.1.ex := by
    rw [lift_weigh, weigh_rev, zip_weigh _ _ (by rw [hPl, hQl]; omega), P.kids_map, hP]
    exact (args_size p.1.ex).2
  have hd : Done (E ++ [(P, Q)]) p.1.ex p.2.ex := done_pair h1 h2 hP hQ (Conn.link (Or.inl (by simp)))
  refine ⟨hb, hst, hown, h.sound.push (by rw [← hm, ← hm2]) (fun q hq => ⟨Pr.lift hlow hGG q, List.mem_map_of_mem (List.mem_reverse.2 hq), rfl, rfl⟩) hd, ?_, ?_, ?_, ?_, ?_, ?_, ?_⟩
  · rcases h.root with h1 | ⟨q, hq, e1, e2⟩
    · exact Or.inl (h1.more (fun q hq => List.mem_append_left _ hq))
    · rcases List.mem_append.1 hq with hq | hq
      · exact Or.inr ⟨q, List.mem_append_left _ hq, e1, e2⟩
      · rw [List.mem_singleton] at hq; subst hq; rw [e1, e2] at hd; exact Or.inl hd
  · intro he q hq
    rcases List.mem_append.1 hq with hq | hq
    · exact h.yes he q (List.mem_append_left _ hq)
    · have hp := h.yes he p (by simp)
      unfold same at hp
      have hpe := (exEq_same _ _).1 hp
      have hall : allEq ((P.kids.zip Q.kids).reverse.map (Pr.lift (w1 := w1) (G1 := G1) hlow hGG)) = true := by
        rw [lift_all]
        have : allEq (P.kids.zip Q.kids) = true := by
          rw [zip_eq _ _ (by rw [hPl, hQl]; omega), P.kids_map, Q.kids_map, hP, hQ, hpe]
          exact ((eq_iff _).2 _ _ (Nat.le_refl _)).2 rfl
        unfold allEq at this ⊢
        rw [List.all_reverse]; exact this
      exact List.all_eq_true.1 hall q hq
  · intro q hq
    rcases List.mem_append.1 hq with hq | hq
    · exact h.args q (List.mem_append_left _ hq)
    · obtain ⟨r, hr, rfl⟩ := List.mem_map.1 hq
      exact ⟨lift_args hlow hGG r.1, lift_args hlow hGG r.2⟩
  · rw [show pflat (ps0 ++ (P.kids.zip Q.kids).reverse.map (Pr.lift (w1 := w1) (G1 := G1) hlow hGG)) = pflat ps0 ++ pflat (P.kids.zip Q.kids).reverse by rw [← lift_flat hlow hGG (P.kids.zip Q.kids).reverse]; simp [pflat]]
    exact hrow
  · simp [hzl]; omega
  · rw [weigh_app]; simp only [List.length_append, List.length_map, List.length_reverse, hzl]; omega
  · rw [weigh_app]; omega
end
end Go.Proofs.Ytmndlhbgacgnlaa
