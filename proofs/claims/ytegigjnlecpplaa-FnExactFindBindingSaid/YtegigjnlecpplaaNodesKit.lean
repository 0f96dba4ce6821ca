/- For the program's own nodesWhere (it hands out the nodes of an expression, each before its arguments, without the arguments that are not gone into): what holds between two rounds. Condition: fewer than 2^40 nodes. -/
import Derived.Test.YtegigjnlecpplaaPush
import Derived.Sort.LoopGhostIn
import Derived.WalkSmall
import Derived.Deep.AppendLies
namespace Go.Proofs.Ytegigjnlecpplaa
open Go Go.RowKit Go.Shelf
attribute [local go_sem] Oper.semAt_some

mutual
/-- The nodes, each before its arguments. -/
def exNodes : Ex → List Ex
  | .mk k s l => .mk k s l :: exNodesL l
def exNodesL : List Ex → List Ex
  | [] => []
  | e :: r => exNodes e ++ exNodesL r
end
def It.cells {wo : World} (x : It wo) : List Value := [.int .i64 x.ex.kind, .string x.ex.name, x.1.2.2.1]
def flat {wo : World} (st : List (It wo)) : List Value := st.flatMap It.cells
/-- What is still to come when the list holds st. -/
def due {wo : World} (st : List (It wo)) : List Ex := st.reverse.flatMap (fun x => exNodes x.ex)

theorem flat_len {wo : World} (st : List (It wo)) : (flat st).length = st.length * 3 := by
  induction st with
  | nil => rfl
  | cons x r ih => rw [flat, List.flatMap_cons, List.length_append, ← flat, ih]; simp [It.cells]; omega

/-- The list under way, between two rounds of the outer loop. Bg: the box of the function that tells which arguments are gone into; M0: the blocks that are the iterator's from the beginning on. -/
structure Nd (wo : World) (n1 N Bg : Nat) (gv : Value) (M0 : List Nat) (Inv : List (It wo) → List (It wo) → Prop) (B : Nat) (pre : List (It wo)) (st : List (It wo)) (lv : Value) (M : List Nat) (W : World) : Prop where
  inv : Inv pre st
  bnd : pre.length + (due st).length ≤ N
  box : Boxed W B 24 lv
  row : W.ownsRow n1 26 3 lv st.length (flat st)
  inB : B ∈ M
  inR : ∀ k, lv.ownBlock = some k → k ∈ M
  lt : ∀ k ∈ M, k < W.heap.size
  low : Below wo.heap.size wo W
  Bn : n1 ≤ B
  Mn : ∀ k ∈ M, wo.heap.size ≤ k
  own : ∀ k ∈ M0, k ∈ M
  gbox : Boxed W Bg 141 gv

theorem nodes_size (n : Nat) : (∀ e : Ex, exSize e ≤ n → (exNodes e).length = exSize e) ∧ (∀ l : List Ex, exSizes l ≤ n → (exNodesL l).length = exSizes l) := by
  induction n with
  | zero =>
    refine ⟨fun e h => by have := exSize_pos e; omega, fun l h => ?_⟩
    cases l with
    | nil => simp [exNodesL, exSizes]
    | cons e r => rw [exSizes] at h; have := exSize_pos e; omega
  | succ n ih =>
    have hE : ∀ e : Ex, exSize e ≤ n + 1 → (exNodes e).length = exSize e := by
      intro e h
      cases e with
      | mk k s l =>
        rw [exSize] at h ⊢
        rw [exNodes, List.length_cons, ih.2 l (by omega)]
    refine ⟨hE, ?_⟩
    intro l
    induction l with
    | nil => intro _; simp [exNodesL, exSizes]
    | cons e r ihl =>
      intro h
      rw [exSizes] at h ⊢
      rw [exNodesL, List.length_append, hE e (by omega), ihl (by omega)]
theorem nodes_len (e : Ex) : (exNodes e).length = exSize e := (nodes_size _).1 e (Nat.le_refl _)
theorem nodes_cons (e : Ex) : exNodes e = e :: exNodesL e.args := by cases e; rw [exNodes]; rfl
theorem nodesL_flat : ∀ l : List Ex, exNodesL l = l.flatMap exNodes := by
  intro l
  induction l with
  | nil => rfl
  | cons e r ih => rw [exNodesL, ih, List.flatMap_cons]
theorem due_app {wo : World} (a b : List (It wo)) : due (a ++ b) = due b ++ due a := by simp [due]
theorem due_one {wo : World} (st : List (It wo)) (x : It wo) : due (st ++ [x]) = x.ex :: (exNodesL x.ex.args ++ due st) := by
  rw [due_app, show due [x] = exNodes x.ex by simp [due], nodes_cons]; rfl
theorem due_kids {wo : World} (ks : List (It wo)) (l : List Ex) (h : ks.map It.ex = l.reverse) : due ks = exNodesL l := by
  rw [nodesL_flat, due]
  have h2 : ks.reverse.map It.ex = l := by rw [List.map_reverse, h, List.reverse_reverse]
  rw [← h2, List.flatMap_map]
theorem due_len {wo : World} (st : List (It wo)) : st.length ≤ (due st).length := by
  induction st with
  | nil => simp
  | cons x r ih =>
    rw [show x :: r = [x] ++ r by rfl, due_app, List.length_append, List.length_append, show due [x] = exNodes x.ex by simp [due], nodes_len]
    have := exSize_pos x.ex
    simp; omega
theorem last_of {α : Type} (l : List α) : l = [] ∨ ∃ a x, l = a ++ [x] := by
  rcases List.eq_nil_or_concat l with h | ⟨a, x, h⟩
  · exact Or.inl h
  · exact Or.inr ⟨a, x, by rw [h]; simp⟩
theorem It.slice {wo : World} (x : It wo) : ∃ A c, x.1.2.2.1 = .slice A x.ex.args.length c ∧ SlIs wo (.slice A x.ex.args.length c) x.ex.args x.1.2.2.2 ∧ x.ex.args.length ≤ c ∧ c ≤ 9223372036854775807 := by
  obtain ⟨u, e1, hs, hu⟩ := x.2
  simp only [Value.agg.injEq, Array.mk.injEq, List.cons.injEq, and_true, true_and] at e1
  subst e1
  obtain ⟨A, c, e2, h1, h2, -⟩ := id hu
  rw [e2] at hu
  exact ⟨A, c, e2, hu, h1, h2⟩
theorem flat_one {wo : World} (st : List (It wo)) (x : It wo) : flat (st ++ [x]) = flat st ++ x.cells := by simp [flat]

theorem Nd.bound {wo : World} {n1 N Bg : Nat} {gv : Value} {M0 : List Nat} {Inv : List (It wo) → List (It wo) → Prop} {B : Nat} {pre st : List (It wo)} {lv : Value} {M : List Nat} {W : World} (h : Nd wo n1 N Bg gv M0 Inv B pre st lv M W) : pre.length + (due st).length ≤ N ∧ st.length ≤ N := by
  have h1 := h.bnd
  have := due_len st
  omega
/-- The last element of the list, written out. -/
theorem Nd.top {wo : World} {n1 N Bg : Nat} {gv : Value} {M0 : List Nat} {Inv : List (It wo) → List (It wo) → Prop} {B : Nat} {pre st : List (It wo)} {x : It wo} {lv : Value} {M : List Nat} {W : World} (h : Nd wo n1 N Bg gv M0 Inv B pre (st ++ [x]) lv M W) :
    ∃ g cap, lv = .slice (some ⟨g, 0, none⟩) (st.length + 1) cap ∧ g ∈ M ∧ n1 ≤ g ∧ W.cell? ⟨g, st.length * 3, none⟩ = some (.int .i64 x.ex.kind) ∧ W.cell? ⟨g, st.length * 3 + 1, none⟩ = some (.string x.ex.name) ∧ W.cell? ⟨g, st.length * 3 + 2, none⟩ = some x.1.2.2.1 ∧ st.length + 1 ≤ cap ∧
      W.ownsRow n1 26 3 (.slice (some ⟨g, 0, none⟩) st.length cap) st.length (flat st) := by
  have hl : (st ++ [x]).length = st.length + 1 := by simp
  have hr := h.row
  rw [hl, flat_one] at hr
  obtain ⟨g, cap, rfl, h1, h2⟩ := hr.form (by simp)
  have hc : ∀ (j : Nat) (v : Value), x.cells[j]? = some v → W.cell? ⟨g, st.length * 3 + j, none⟩ = some v := by
    intro j v hj
    have hj3 : j < 3 := (List.getElem?_eq_some_iff.1 hj).1
    rw [hr.cellAt (st.length * 3 + j) (by omega), List.getElem?_append_right (by rw [flat_len]; omega), flat_len, Nat.add_sub_cancel_left]
    exact hj
  refine ⟨g, cap, rfl, h.inR g rfl, h1, hc 0 _ rfl, hc 1 _ rfl, hc 2 _ rfl, ?_, ownsRow_pop (flat_len st) hr⟩
  rcases hr.2 with ⟨h0, -⟩ | ⟨g', cap', cur, hv, -, -, hn, -⟩
  · cases h0
  · cases hv; exact hn

def markOf (D : Nat) : Deferred := { target := .collected D, args := #[] }
theorem leave_marks {F : Fence} {n : Nat} {P : Program} {fn : Func} {tmps : Array Value} {R : Ending → World → Prop} (hr : fn.results = #[]) : ∀ (Ds : List Nat) (W : World), Ds.Nodup → (∀ D ∈ Ds, W.heap[D]? = some (.deferred (some []))) → (∀ v W2, Fr Ds W W2 → R (.returned v) W2) → LeavesInM F n P fn tmps R (Ds.map markOf) .returning W := by
  intro Ds
  induction Ds with
  | nil => intro W _ _ h; exact ⟨_, results_none hr _ _ _, h _ W (Fr.refl _ _)⟩
  | cons D r ih =>
    intro W hn hd h
    rw [List.nodup_cons] at hn
    refine ⟨by simp, .inl ⟨D, _, rfl, run_takeDeferred (hd D (by simp)), ?_⟩⟩
    refine ih _ hn.2 (fun E hE => (World.putObj_heap_other (fun e : E = D => hn.1 (by rw [← e]; exact hE))).trans (hd E (by simp [hE]))) (fun v W2 hf => h v W2 ?_)
    exact (Fr.put W D _ (by simp)).trans hf (fun x hx => Or.inl (by simp [hx]))

/-- The marks under way. -/
def Marks (n1 : Nat) (Ds M : List Nat) (W : World) : Prop := Ds.Nodup ∧ ∀ D ∈ Ds, D ∈ M ∧ W.heap[D]? = some (.deferred (some [])) ∧ n1 ≤ D

/-- Between the pop and the push: nb is the box of the element that was taken. -/
structure Md (wo : World) (n1 Bg : Nat) (gv : Value) (M0 : List Nat) (B g cap m nb : Nat) (o : Obj) (st0 : List (It wo)) (M Ds : List Nat) (Wy : World) : Prop where
  lt : ∀ k ∈ nb :: M, k < Wy.heap.size
  box : Boxed Wy B 24 (.slice (some ⟨g, 0, none⟩) m cap)
  row : Wy.ownsRow n1 26 3 (.slice (some ⟨g, 0, none⟩) m cap) m (flat st0)
  nx : Wy.heap[nb]? = some o
  inB : B ∈ M
  inG : g ∈ M
  low : Below wo.heap.size wo Wy
  Bn : n1 ≤ B
  Mn : ∀ k ∈ nb :: M, wo.heap.size ≤ k
  marks : Marks n1 Ds (nb :: M) Wy
  own : ∀ k ∈ M0, k ∈ nb :: M
  gbox : Boxed Wy Bg 141 gv
  gn : n1 ≤ g
  nn : n1 ≤ nb
theorem Nd.pop {wo : World} {n1 N Bg : Nat} {gv : Value} {M0 : List Nat} {Inv : List (It wo) → List (It wo) → Prop} {B : Nat} {pre st st0 : List (It wo)} {lv : Value} {M Ds : List Nat} {wr : World} {g m cap : Nat} (h : Nd wo n1 N Bg gv M0 Inv B pre st lv M wr) (hBg : Bg < n1) (hnw : n1 ≤ wr.heap.size) (hr : wr.ownsRow n1 26 3 (.slice (some ⟨g, 0, none⟩) m cap) m (flat st0)) (hg : g ∈ M) (hgn : n1 ≤ g) (hm : Marks n1 Ds M wr) (o : Obj) :
    Md wo n1 Bg gv M0 B g cap m wr.heap.size o st0 M Ds ((wr.setCell ⟨B, 0, none⟩ (.slice (some ⟨g, 0, none⟩) m cap)).alloc o) ∧ Fr M wr ((wr.setCell ⟨B, 0, none⟩ (.slice (some ⟨g, 0, none⟩) m cap)).alloc o) ∧ ∀ k ∈ wr.heap.size :: M, k ∈ M ∨ wr.heap.size ≤ k := by
  obtain ⟨W1, hW1⟩ : ∃ W1, W1 = wr.setCell ⟨B, 0, none⟩ (.slice (some ⟨g, 0, none⟩) m cap) := ⟨_, rfl⟩
  rw [← hW1]
  have hs1 : W1.heap.size = wr.heap.size := by rw [hW1]; simp [World.setCell]
  have ho1 : ∀ k, k ≠ B → W1.heap[k]? = wr.heap[k]? := fun k hk => by rw [hW1]; exact Below.heap_setCell _ _ _ _ hk
  have hal : ∀ k, k < W1.heap.size → (W1.alloc o).heap[k]? = W1.heap[k]? := fun k hk => Below.heap_alloc W1 o k hk
  have hf1 : Fr M wr W1 := by rw [hW1]; exact Fr.set _ _ _ h.inB
  have hf : Fr M wr (W1.alloc o) := hf1.trans (Fr.alloc (S := []) W1 o) (by simp)
  have hgB : g ≠ B := fun e => Boxed.not_row h.box (by decide) hr (by simp [Value.ownBlock, e])
  have hgl : g < wr.heap.size := h.lt g hg
  have hsz : (W1.alloc o).heap.size = wr.heap.size + 1 := by simp [hs1]
  refine ⟨⟨fun k hk => ?_, ?_, ?_, ?_, h.inB, hg, h.low.trans (hf.below ?_ h.low.size), h.Bn, fun k hk => ?_, ⟨hm.1, fun D hD => ⟨by simp [(hm.2 D hD).1], ?_, (hm.2 D hD).2.2⟩⟩, fun k hk => List.mem_cons_of_mem _ (h.own k hk), ?_, hgn, hnw⟩, hf, fun k hk => ?_⟩
  · rcases List.mem_cons.1 hk with rfl | hk
    · omega
    · have := h.lt k hk; omega
  · refine Boxed.alloc ?_ o
    rw [hW1]; exact h.box.set _
  · refine row_on hr (fun k hk => ?_)
    obtain rfl : g = k := by simpa [Value.ownBlock] using hk
    exact (hal _ (by omega)).trans (ho1 _ hgB)
  · rw [← hs1]; exact World.alloc_heap_new W1 o
  · exact h.Mn
  · rcases List.mem_cons.1 hk with rfl | hk
    · exact h.low.size
    · exact h.Mn k hk
  · obtain ⟨h1, h2, -⟩ := hm.2 D hD
    have hne : D ≠ B := fun e => by
      subst e
      have hb := h.box
      unfold Boxed at hb
      rw [h2] at hb
      cases hb
    exact (hal _ (by have := h.lt D h1; omega)).trans ((ho1 _ hne).trans h2)
  · refine box_on h.gbox ((hal _ (by have := h.gbox.lt; omega)).trans (ho1 _ (by have := h.Bn; omega)))
  · rcases List.mem_cons.1 hk with rfl | hk
    · exact Or.inr (Nat.le_refl _)
    · exact Or.inl hk
theorem Md.keep {wo : World} {n1 Bg : Nat} {gv : Value} {M0 : List Nat} {B g cap m nb : Nat} {o : Obj} {st0 : List (It wo)} {M Ds : List Nat} {Wy W3 : World} (h : Md wo n1 Bg gv M0 B g cap m nb o st0 M Ds Wy) (hBg : Bg ∈ M0) (hk : Kept wo.heap.size (nb :: M) Wy W3) : Md wo n1 Bg gv M0 B g cap m nb o st0 M Ds W3 where
  lt := fun k hm => Nat.lt_of_lt_of_le (h.lt k hm) hk.1.size
  box := box_on h.box (hk.2 _ (by simp [h.inB]))
  row := row_on h.row (fun k e => by
    obtain rfl : g = k := by simpa [Value.ownBlock] using e
    exact hk.2 _ (by simp [h.inG]))
  nx := (hk.2 _ (by simp)).trans h.nx
  inB := h.inB
  inG := h.inG
  low := h.low.trans hk.1
  Bn := h.Bn
  Mn := h.Mn
  marks := ⟨h.marks.1, fun D hD => ⟨(h.marks.2 D hD).1, (hk.2 D (h.marks.2 D hD).1).trans (h.marks.2 D hD).2.1, (h.marks.2 D hD).2.2⟩⟩
  own := h.own
  gbox := box_on h.gbox (hk.2 _ (h.own _ hBg))
  gn := h.gn
  nn := h.nn

/-- The function that was asked has turned blocks of its own alone. -/
theorem Md.asked {wo : World} {n1 Bg : Nat} {gv : Value} {M0 Fg : List Nat} {B g cap m nb : Nat} {o : Obj} {st0 : List (It wo)} {M Ds : List Nat} {Wy W3 : World} (h : Md wo n1 Bg gv M0 B g cap m nb o st0 M Ds Wy) (hf : Fr Fg Wy W3) (hFg : ∀ k ∈ Fg, k < n1 ∧ k ≠ Bg ∧ wo.heap.size ≤ k) : Md wo n1 Bg gv M0 B g cap m nb o st0 M Ds W3 where
  lt := fun k hm => Nat.lt_of_lt_of_le (h.lt k hm) hf.size
  box := box_on h.box (hf.block _ h.box.lt (fun e => by have := (hFg _ e).1; have := h.Bn; omega))
  row := row_on h.row (fun k e => by
    obtain rfl : g = k := by simpa [Value.ownBlock] using e
    exact hf.block _ (h.lt _ (by simp [h.inG])) (fun e => by have := (hFg _ e).1; have := h.gn; omega))
  nx := (hf.block _ (h.lt _ (by simp)) (fun e => by have := (hFg _ e).1; have := h.nn; omega)).trans h.nx
  inB := h.inB
  inG := h.inG
  low := h.low.trans (hf.below (fun k hk => (hFg k hk).2.2) h.low.size)
  Bn := h.Bn
  Mn := h.Mn
  marks := ⟨h.marks.1, fun D hD => ⟨(h.marks.2 D hD).1, (hf.block D (h.lt D (h.marks.2 D hD).1) (fun e => by have := (hFg _ e).1; have := (h.marks.2 D hD).2.2; omega)).trans (h.marks.2 D hD).2.1, (h.marks.2 D hD).2.2⟩⟩
  own := h.own
  gbox := box_on h.gbox (hf.block _ h.gbox.lt (fun e => (hFg _ e).2.1 rfl))
  gn := h.gn
  nn := h.nn

/-- What the list holds while the arguments are pushed. -/
def Pushed (wo : World) (n1 B m : Nat) (st0 ks : List (It wo)) (Fp : List Nat) (W : World) : Prop := ∃ AO co, Fp = B :: (Value.ownBlock (.slice AO (m + ks.length) co)).toList ∧ Boxed W B 24 (.slice AO (m + ks.length) co) ∧ W.ownsRow n1 26 3 (.slice AO (m + ks.length) co) (m + ks.length) (flat (st0 ++ ks))
/-- .. and the next one lies in its box. -/
def Parted (wo : World) (n1 B m : Nat) (st0 : List (It wo)) (tm : Nat → It wo → Array Value) (ks : List (It wo)) (y : It wo) (a : Act) (Fp : List Nat) (W : World) : Prop := ∃ pb AO co, Fp = pb :: B :: (Value.ownBlock (.slice AO (m + ks.length) co)).toList ∧
  W.heap[pb]? = some (.cells #[.int .i64 y.ex.kind, .string y.ex.name, y.1.2.2.1] 26 (0, 0)) ∧ (B ≠ pb ∧ Value.ownBlock (.slice AO (m + ks.length) co) ≠ some pb) ∧ Boxed W B 24 (.slice AO (m + ks.length) co) ∧ W.ownsRow n1 26 3 (.slice AO (m + ks.length) co) (m + ks.length) (flat (st0 ++ ks)) ∧ a = { tmps := tm pb y, defers := [] }
theorem pushed_foot (wo : World) (n1 B m : Nat) (st0 ks : List (It wo)) : Foot (Pushed wo n1 B m st0 ks) := by
  rintro Fp X Y ⟨AO, co, rfl, h1, h2⟩ hs hk
  exact ⟨AO, co, rfl, box_on h1 (hk B (by simp)), row_on h2 (fun k e => hk k (by rw [e]; simp))⟩
theorem parted_foot (wo : World) (n1 B m : Nat) (st0 : List (It wo)) (tm : Nat → It wo → Array Value) (ks : List (It wo)) (y : It wo) (a : Act) : Foot (Parted wo n1 B m st0 tm ks y a) := by
  rintro Fp X Y ⟨pb, AO, co, rfl, h0, hne, h1, h2, h3⟩ hs hk
  exact ⟨pb, AO, co, rfl, (hk pb (by simp)).trans h0, hne, box_on h1 (hk B (by simp)), row_on h2 (fun k e => hk k (by rw [e]; simp)), h3⟩
/-- The step: one more has been pushed. -/
theorem pushed_step {wo : World} {n1 B m : Nat} {st0 ks : List (It wo)} {y : It wo} {AO : Option Addr} {co : Nat} {W X : World} (h : PushEnd n1 B (m + ks.length) (.slice AO (m + ks.length) co) (flat (st0 ++ ks)) y.cells W X) (hB : B < W.heap.size) (pb : Nat) :
    ∃ Fp2, Fr (pb :: B :: (Value.ownBlock (.slice AO (m + ks.length) co)).toList) W X ∧ (∀ k ∈ Fp2, (k ∈ (pb :: B :: (Value.ownBlock (.slice AO (m + ks.length) co)).toList) ∨ W.heap.size ≤ k) ∧ k < X.heap.size) ∧ Pushed wo n1 B m st0 (ks ++ [y]) Fp2 X := by
  obtain ⟨g2, cap2, h1, h2, h3, h4, h5⟩ := h
  have hl2 : m + (ks ++ [y]).length = m + ks.length + 1 := by simp; omega
  have hf : flat (st0 ++ (ks ++ [y])) = flat (st0 ++ ks) ++ y.cells := by rw [← List.append_assoc, flat_one]
  refine ⟨[B, g2], h3.mono (fun x hx => Or.inl (List.mem_cons_of_mem _ hx)), fun k hk => ?_, some ⟨g2, 0, none⟩, cap2, rfl, by rw [hl2]; exact h1, by rw [hl2, hf]; exact h2⟩
  simp at hk
  rcases hk with rfl | rfl
  · exact ⟨Or.inl (by simp), Nat.lt_of_lt_of_le hB h3.size⟩
  · refine ⟨?_, h5⟩
    rcases h4 with h4 | h4
    · exact Or.inl (by simp [h4])
    · exact Or.inr h4

end Go.Proofs.Ytegigjnlecpplaa
