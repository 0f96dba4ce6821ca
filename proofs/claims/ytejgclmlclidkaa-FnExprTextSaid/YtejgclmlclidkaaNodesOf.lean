/- For the program's own nodesWhere (it hands out the nodes of an expression, each before its arguments, without the arguments that are not gone into): what holds between two rounds. Condition: fewer than 2^40 nodes. The program's own nodesWhere under nodesOf$1: what it hands out. Condition: fewer than 2^40 nodes. The contracts of the program's own nodesWhere and nodesOf: what a range over nodesOf hands out. Condition: fewer than 2^40 nodes. -/
import Derived.Test.YtejgclmlclidkaaPush
import Derived.Sort.LoopGhostIn
import Derived.WalkSmall
import Derived.Deep.AppendLies
namespace Go.Proofs.Ytejgclmlclidkaa
open Go Go.RowKit Go.Shelf
attribute [local go_sem] Oper.semAt_some

mutual
/-- The nodes, each before its arguments. -/
def exNodes : Ex → List Ex
  | .mk k s l => .mk k s l :: exNodesL l
def exNodesL : List Ex → List Ex
  | [] => []
  | e :: r => exNodes e ++ exNodesL r
end
def It.cells {wo : World} (x : It wo) : List Value := [.int .i64 x.ex.kind, .string x.ex.name, x.1.2.2.1]
def flat {wo : World} (st : List (It wo)) : List Value := st.flatMap It.cells
/-- What is still to come when the list holds st. -/
def due {wo : World} (st : List (It wo)) : List Ex := st.reverse.flatMap (fun x => exNodes x.ex)

theorem flat_len {wo : World} (st : List (It wo)) : (flat st).length = st.length * 3 := by
  induction st with
  | nil => rfl
  | cons x r ih => rw [flat, List.flatMap_cons, List.length_append, ← flat, ih]; simp [It.cells]; omega

/-- The list under way, between two rounds of the outer loop. Bg: the box of the function that tells which arguments are gone into; M0: the blocks that are the iterator's from the beginning on. -/
structure Nd (wo : World) (n1 N Bg : Nat) (gv : Value) (M0 : List Nat) (Inv : List (It wo) → List (It wo) → Prop) (B : Nat) (pre : List (It wo)) (st : List (It wo)) (lv : Value) (M : List Nat) (W : World) : Prop where
  inv : Inv pre st
  bnd : pre.length + (due st).length ≤ N
  box : Boxed W B 24 lv
  row : W.ownsRow n1 26 3 lv st.length (flat st)
  inB : B ∈ M
  inR : ∀ k, lv.ownBlock = some k → k ∈ M
  lt : ∀ k ∈ M, k < W.heap.size
  low : Below wo.heap.size wo W
  Bn : n1 ≤ B
  Mn : ∀ k ∈ M, wo.heap.size ≤ k
  own : ∀ k ∈ M0, k ∈ M
  gbox : Boxed W Bg 99 gv

theorem nodes_size (n : Nat) : (∀ e : Ex, exSize e ≤ n → (exNodes e).length = exSize e) ∧ (∀ l : List Ex, exSizes l ≤ n → (exNodesL l).length = exSizes l) := by
  induction n with
  | zero =>
    refine ⟨fun e h => by have := exSize_pos e; omega, fun l h => ?_⟩
    cases l with
    | nil => simp [exNodesL, exSizes]
    | cons e r => rw [exSizes] at h; have := exSize_pos e; omega
  | succ n ih =>
    have hE : ∀ e : Ex, exSize e ≤ n + 1 → (exNodes e).length = exSize e := by
      intro e h
      cases e with
      | mk k s l =>
        rw [exSize] at h ⊢
        rw [exNodes, List.length_cons, ih.2 l (by omega)]
    refine ⟨hE, ?_⟩
    intro l
    induction l with
    | nil => intro _; simp [exNodesL, exSizes]
    | cons e r ihl =>
      intro h
      rw [exSizes] at h ⊢
      rw [exNodesL, List.length_append, hE e (by omega), ihl (by omega)]
theorem nodes_len (e : Ex) : (exNodes e).length = exSize e := (nodes_size _).1 e (Nat.le_refl _)
theorem nodes_cons (e : Ex) : exNodes e = e :: exNodesL e.args := by cases e; rw [exNodes]; rfl
theorem nodesL_flat : ∀ l : List Ex, exNodesL l = l.flatMap exNodes := by
  intro l
  induction l with
  | nil => rfl
  | cons e r ih => rw [exNodesL, ih, List.flatMap_cons]
theorem due_app {wo : World} (a b : List (It wo)) : due (a ++ b) = due b ++ due a := by simp [due]
theorem due_one {wo : World} (st : List (It wo)) (x : It wo) : due (st ++ [x]) = x.ex :: (exNodesL x.ex.args ++ due st) := by
  rw [due_app, show due [x] = exNodes x.ex by simp [due], nodes_cons]; rfl
theorem due_kids {wo : World} (ks : List (It wo)) (l : List Ex) (h : ks.map It.ex = l.reverse) : due ks = exNodesL l := by
  rw [nodesL_flat, due]
  have h2 : ks.reverse.map It.ex = l := by rw [List.map_reverse, h, List.reverse_reverse]
  rw [← h2, List.flatMap_map]
theorem due_len {wo : World} (st : List (It wo)) : st.length ≤ (due st).length := by
  induction st with
  | nil => simp
  | cons x r ih =>
    rw [show x :: r = [x] ++ r by rfl, due_app, List.length_append, List.length_append, show due [x] = exNodes x.ex by simp [due], nodes_len]
    have := exSize_pos x.ex
    simp; omega
theorem last_of {α : Type} (l : List α) : l = [] ∨ ∃ a x, l = a ++ [x] := by
  rcases List.eq_nil_or_concat l with h | ⟨a, x, h⟩
  · exact Or.inl h
  · exact Or.inr ⟨a, x, by rw [h]; simp⟩
theorem It.slice {wo : World} (x : It wo) : ∃ A c, x.1.2.2.1 = .slice A x.ex.args.length c ∧ SlIs wo (.slice A x.ex.args.length c) x.ex.args x.1.2.2.2 ∧ x.ex.args.length ≤ c ∧ c ≤ 9223372036854775807 := by
  obtain ⟨u, e1, hs, hu⟩ := x.2
  simp only [Value.agg.injEq, Array.mk.injEq, List.cons.injEq, and_true, true_and] at e1
  subst e1
  obtain ⟨A, c, e2, h1, h2, -⟩ := id hu
  rw [e2] at hu
  exact ⟨A, c, e2, hu, h1, h2⟩
theorem flat_one {wo : World} (st : List (It wo)) (x : It wo) : flat (st ++ [x]) = flat st ++ x.cells := by simp [flat]

theorem Nd.bound {wo : World} {n1 N Bg : Nat} {gv : Value} {M0 : List Nat} {Inv : List (It wo) → List (It wo) → Prop} {B : Nat} {pre st : List (It wo)} {lv : Value} {M : List Nat} {W : World} (h : Nd wo n1 N Bg gv M0 Inv B pre st lv M W) : pre.length + (due st).length ≤ N ∧ st.length ≤ N := by
  have h1 := h.bnd
  have := due_len st
  omega
/-- The last element of the list, written out. -/
theorem Nd.top {wo : World} {n1 N Bg : Nat} {gv : Value} {M0 : List Nat} {Inv : List (It wo) → List (It wo) → Prop} {B : Nat} {pre st : List (It wo)} {x : It wo} {lv : Value} {M : List Nat} {W : World} (h : Nd wo n1 N Bg gv M0 Inv B pre (st ++ [x]) lv M W) :
    ∃ g cap, lv = .slice (some ⟨g, 0, none⟩) (st.length + 1) cap ∧ g ∈ M ∧ n1 ≤ g ∧ W.cell? ⟨g, st.length * 3, none⟩ = some (.int .i64 x.ex.kind) ∧ W.cell? ⟨g, st.length * 3 + 1, none⟩ = some (.string x.ex.name) ∧ W.cell? ⟨g, st.length * 3 + 2, none⟩ = some x.1.2.2.1 ∧ st.length + 1 ≤ cap ∧
      W.ownsRow n1 26 3 (.slice (some ⟨g, 0, none⟩) st.length cap) st.length (flat st) := by
  have hl : (st ++ [x]).length = st.length + 1 := by simp
  have hr := h.row
  rw [hl, flat_one] at hr
  obtain ⟨g, cap, rfl, h1, h2⟩ := hr.form (by simp)
  have hc : ∀ (j : Nat) (v : Value), x.cells[j]? = some v → W.cell? ⟨g, st.length * 3 + j, none⟩ = some v := by
    intro j v hj
    have hj3 : j < 3 := (List.getElem?_eq_some_iff.1 hj).1
    rw [hr.cellAt (st.length * 3 + j) (by omega), List.getElem?_append_right (by rw [flat_len]; omega), flat_len, Nat.add_sub_cancel_left]
    exact hj
  refine ⟨g, cap, rfl, h.inR g rfl, h1, hc 0 _ rfl, hc 1 _ rfl, hc 2 _ rfl, ?_, ownsRow_pop (flat_len st) hr⟩
  rcases hr.2 with ⟨h0, -⟩ | ⟨g', cap', cur, hv, -, -, hn, -⟩
  · cases h0
  · cases hv; exact hn

def markOf (D : Nat) : Deferred := { target := .collected D, args := #[] }
theorem leave_marks {F : Fence} {n : Nat} {P : Program} {fn : Func} {tmps : Array Value} {R : Ending → World → Prop} (hr : fn.results = #[]) : ∀ (Ds : List Nat) (W : World), Ds.Nodup → (∀ D ∈ Ds, W.heap[D]? = some (.deferred (some []))) → (∀ v W2, Fr Ds W W2 → R (.returned v) W2) → LeavesInM F n P fn tmps R (Ds.map markOf) .returning W := by
  intro Ds
  induction Ds with
  | nil => intro W _ _ h; exact ⟨_, results_none hr _ _ _, h _ W (Fr.refl _ _)⟩
  | cons D r ih =>
    intro W hn hd h
    rw [List.nodup_cons] at hn
    refine ⟨by simp, .inl ⟨D, _, rfl, run_takeDeferred (hd D (by simp)), ?_⟩⟩
    refine ih _ hn.2 (fun E hE => (World.putObj_heap_other (fun e : E = D => hn.1 (by rw [← e]; exact hE))).trans (hd E (by simp [hE]))) (fun v W2 hf => h v W2 ?_)
    exact (Fr.put W D _ (by simp)).trans hf (fun x hx => Or.inl (by simp [hx]))

/-- The marks under way. -/
def Marks (n1 : Nat) (Ds M : List Nat) (W : World) : Prop := Ds.Nodup ∧ ∀ D ∈ Ds, D ∈ M ∧ W.heap[D]? = some (.deferred (some [])) ∧ n1 ≤ D

/-- Between the pop and the push: nb is the box of the element that was taken. -/
structure Md (wo : World) (n1 Bg : Nat) (gv : Value) (M0 : List Nat) (B g cap m nb : Nat) (o : Obj) (st0 : List (It wo)) (M Ds : List Nat) (Wy : World) : Prop where
  lt : ∀ k ∈ nb :: M, k < Wy.heap.size
  box : Boxed Wy B 24 (.slice (some ⟨g, 0, none⟩) m cap)
  row : Wy.ownsRow n1 26 3 (.slice (some ⟨g, 0, none⟩) m cap) m (flat st0)
  nx : Wy.heap[nb]? = some o
  inB : B ∈ M
  inG : g ∈ M
  low : Below wo.heap.size wo Wy
  Bn : n1 ≤ B
  Mn : ∀ k ∈ nb :: M, wo.heap.size ≤ k
  marks : Marks n1 Ds (nb :: M) Wy
  own : ∀ k ∈ M0, k ∈ nb :: M
  gbox : Boxed Wy Bg 99 gv
  gn : n1 ≤ g
  nn : n1 ≤ nb
theorem Nd.pop {wo : World} {n1 N Bg : Nat} {gv : Value} {M0 : List Nat} {Inv : List (It wo) → List (It wo) → Prop} {B : Nat} {pre st st0 : List (It wo)} {lv : Value} {M Ds : List Nat} {wr : World} {g m cap : Nat} (h : Nd wo n1 N Bg gv M0 Inv B pre st lv M wr) (hBg : Bg < n1) (hnw : n1 ≤ wr.heap.size) (hr : wr.ownsRow n1 26 3 (.slice (some ⟨g, 0, none⟩) m cap) m (flat st0)) (hg : g ∈ M) (hgn : n1 ≤ g) (hm : Marks n1 Ds M wr) (o : Obj) :
    Md wo n1 Bg gv M0 B g cap m wr.heap.size o st0 M Ds ((wr.setCell ⟨B, 0, none⟩ (.slice (some ⟨g, 0, none⟩) m cap)).alloc o) ∧ Fr M wr ((wr.setCell ⟨B, 0, none⟩ (.slice (some ⟨g, 0, none⟩) m cap)).alloc o) ∧ ∀ k ∈ wr.heap.size :: M, k ∈ M ∨ wr.heap.size ≤ k := by
  obtain ⟨W1, hW1⟩ : ∃ W1, W1 = wr.setCell ⟨B, 0, none⟩ (.slice (some ⟨g, 0, none⟩) m cap) := ⟨_, rfl⟩
  rw [← hW1]
  have hs1 : W1.heap.size = wr.heap.size := by rw [hW1]; simp [World.setCell]
  have ho1 : ∀ k, k ≠ B → W1.heap[k]? = wr.heap[k]? := fun k hk => by rw [hW1]; exact Below.heap_setCell _ _ _ _ hk
  have hal : ∀ k, k < W1.heap.size → (W1.alloc o).heap[k]? = W1.heap[k]? := fun k hk => Below.heap_alloc W1 o k hk
  have hf1 : Fr M wr W1 := by rw [hW1]; exact Fr.set _ _ _ h.inB
  have hf : Fr M wr (W1.alloc o) := hf1.trans (Fr.alloc (S := []) W1 o) (by simp)
  have hgB : g ≠ B := fun e => Boxed.not_row h.box (by decide) hr (by simp [Value.ownBlock, e])
  have hgl : g < wr.heap.size := h.lt g hg
  have hsz : (W1.alloc o).heap.size = wr.heap.size + 1 := by simp [hs1]
  refine ⟨⟨fun k hk => ?_, ?_, ?_, ?_, h.inB, hg, h.low.trans (hf.below ?_ h.low.size), h.Bn, fun k hk => ?_, ⟨hm.1, fun D hD => ⟨by simp [(hm.2 D hD).1], ?_, (hm.2 D hD).2.2⟩⟩, fun k hk => List.mem_cons_of_mem _ (h.own k hk), ?_, hgn, hnw⟩, hf, fun k hk => ?_⟩
  · rcases List.mem_cons.1 hk with rfl | hk
    · omega
    · have := h.lt k hk; omega
  · refine Boxed.alloc ?_ o
    rw [hW1]; exact h.box.set _
  · refine row_on hr (fun k hk => ?_)
    obtain rfl : g = k := by simpa [Value.ownBlock] using hk
    exact (hal _ (by omega)).trans (ho1 _ hgB)
  · rw [← hs1]; exact World.alloc_heap_new W1 o
  · exact h.Mn
  · rcases List.mem_cons.1 hk with rfl | hk
    · exact h.low.size
    · exact h.Mn k hk
  · obtain ⟨h1, h2, -⟩ := hm.2 D hD
    have hne : D ≠ B := fun e => by
      subst e
      have hb := h.box
      unfold Boxed at hb
      rw [h2] at hb
      cases hb
    exact (hal _ (by have := h.lt D h1; omega)).trans ((ho1 _ hne).trans h2)
  · refine box_on h.gbox ((hal _ (by have := h.gbox.lt; omega)).trans (ho1 _ (by have := h.Bn; omega)))
  · rcases List.mem_cons.1 hk with rfl | hk
    · exact Or.inr (Nat.le_refl _)
    · exact Or.inl hk
theorem Md.keep {wo : World} {n1 Bg : Nat} {gv : Value} {M0 : List Nat} {B g cap m nb : Nat} {o : Obj} {st0 : List (It wo)} {M Ds : List Nat} {Wy W3 : World} (h : Md wo n1 Bg gv M0 B g cap m nb o st0 M Ds Wy) (hBg : Bg ∈ M0) (hk : Kept wo.heap.size (nb :: M) Wy W3) : Md wo n1 Bg gv M0 B g cap m nb o st0 M Ds W3 where
  lt := fun k hm => Nat.lt_of_lt_of_le (h.lt k hm) hk.1.size
  box := box_on h.box (hk.2 _ (by simp [h.inB]))
  row := row_on h.row (fun k e => by
    obtain rfl : g = k := by simpa [Value.ownBlock] using e
    exact hk.2 _ (by simp [h.inG]))
  nx := (hk.2 _ (by simp)).trans h.nx
  inB := h.inB
  inG := h.inG
  low := h.low.trans hk.1
  Bn := h.Bn
  Mn := h.Mn
  marks := ⟨h.marks.1, fun D hD => ⟨(h.marks.2 D hD).1, (hk.2 D (h.marks.2 D hD).1).trans (h.marks.2 D hD).2.1, (h.marks.2 D hD).2.2⟩⟩
  own := h.own
  gbox := box_on h.gbox (hk.2 _ (h.own _ hBg))
  gn := h.gn
  nn := h.nn

/-- The function that was asked has turned blocks of its own alone. -/
theorem Md.asked {wo : World} {n1 Bg : Nat} {gv : Value} {M0 Fg : List Nat} {B g cap m nb : Nat} {o : Obj} {st0 : List (It wo)} {M Ds : List Nat} {Wy W3 : World} (h : Md wo n1 Bg gv M0 B g cap m nb o st0 M Ds Wy) (hf : Fr Fg Wy W3) (hFg : ∀ k ∈ Fg, k < n1 ∧ k ≠ Bg ∧ wo.heap.size ≤ k) : Md wo n1 Bg gv M0 B g cap m nb o st0 M Ds W3 where
  lt := fun k hm => Nat.lt_of_lt_of_le (h.lt k hm) hf.size
  box := box_on h.box (hf.block _ h.box.lt (fun e => by have := (hFg _ e).1; have := h.Bn; omega))
  row := row_on h.row (fun k e => by
    obtain rfl : g = k := by simpa [Value.ownBlock] using e
    exact hf.block _ (h.lt _ (by simp [h.inG])) (fun e => by have := (hFg _ e).1; have := h.gn; omega))
  nx := (hf.block _ (h.lt _ (by simp)) (fun e => by have := (hFg _ e).1; have := h.nn; omega)).trans h.nx
  inB := h.inB
  inG := h.inG
  low := h.low.trans (hf.below (fun k hk => (hFg k hk).2.2) h.low.size)
  Bn := h.Bn
  Mn := h.Mn
  marks := ⟨h.marks.1, fun D hD => ⟨(h.marks.2 D hD).1, (hf.block D (h.lt D (h.marks.2 D hD).1) (fun e => by have := (hFg _ e).1; have := (h.marks.2 D hD).2.2; omega)).trans (h.marks.2 D hD).2.1, (h.marks.2 D hD).2.2⟩⟩
  own := h.own
  gbox := box_on h.gbox (hf.block _ h.gbox.lt (fun e => (hFg _ e).2.1 rfl))
  gn := h.gn
  nn := h.nn

/-- What the list holds while the arguments are pushed. -/
def Pushed (wo : World) (n1 B m : Nat) (st0 ks : List (It wo)) (Fp : List Nat) (W : World) : Prop := ∃ AO co, Fp = B :: (Value.ownBlock (.slice AO (m + ks.length) co)).toList ∧ Boxed W B 24 (.slice AO (m + ks.length) co) ∧ W.ownsRow n1 26 3 (.slice AO (m + ks.length) co) (m + ks.length) (flat (st0 ++ ks))
/-- .. and the next one lies in its box. -/
def Parted (wo : World) (n1 B m : Nat) (st0 : List (It wo)) (tm : Nat → It wo → Array Value) (ks : List (It wo)) (y : It wo) (a : Act) (Fp : List Nat) (W : World) : Prop := ∃ pb AO co, Fp = pb :: B :: (Value.ownBlock (.slice AO (m + ks.length) co)).toList ∧
  W.heap[pb]? = some (.cells #[.int .i64 y.ex.kind, .string y.ex.name, y.1.2.2.1] 26 (0, 0)) ∧ (B ≠ pb ∧ Value.ownBlock (.slice AO (m + ks.length) co) ≠ some pb) ∧ Boxed W B 24 (.slice AO (m + ks.length) co) ∧ W.ownsRow n1 26 3 (.slice AO (m + ks.length) co) (m + ks.length) (flat (st0 ++ ks)) ∧ a = { tmps := tm pb y, defers := [] }
theorem pushed_foot (wo : World) (n1 B m : Nat) (st0 ks : List (It wo)) : Foot (Pushed wo n1 B m st0 ks) := by
  rintro Fp X Y ⟨AO, co, rfl, h1, h2⟩ hs hk
  exact ⟨AO, co, rfl, box_on h1 (hk B (by simp)), row_on h2 (fun k e => hk k (by rw [e]; simp))⟩
theorem parted_foot (wo : World) (n1 B m : Nat) (st0 : List (It wo)) (tm : Nat → It wo → Array Value) (ks : List (It wo)) (y : It wo) (a : Act) : Foot (Parted wo n1 B m st0 tm ks y a) := by
  rintro Fp X Y ⟨pb, AO, co, rfl, h0, hne, h1, h2, h3⟩ hs hk
  exact ⟨pb, AO, co, rfl, (hk pb (by simp)).trans h0, hne, box_on h1 (hk B (by simp)), row_on h2 (fun k e => hk k (by rw [e]; simp)), h3⟩
/-- The step: one more has been pushed. -/
theorem pushed_step {wo : World} {n1 B m : Nat} {st0 ks : List (It wo)} {y : It wo} {AO : Option Addr} {co : Nat} {W X : World} (h : PushEnd n1 B (m + ks.length) (.slice AO (m + ks.length) co) (flat (st0 ++ ks)) y.cells W X) (hB : B < W.heap.size) (pb : Nat) :
    ∃ Fp2, Fr (pb :: B :: (Value.ownBlock (.slice AO (m + ks.length) co)).toList) W X ∧ (∀ k ∈ Fp2, (k ∈ (pb :: B :: (Value.ownBlock (.slice AO (m + ks.length) co)).toList) ∨ W.heap.size ≤ k) ∧ k < X.heap.size) ∧ Pushed wo n1 B m st0 (ks ++ [y]) Fp2 X := by
  obtain ⟨g2, cap2, h1, h2, h3, h4, h5⟩ := h
  have hl2 : m + (ks ++ [y]).length = m + ks.length + 1 := by simp; omega
  have hf : flat (st0 ++ (ks ++ [y])) = flat (st0 ++ ks) ++ y.cells := by rw [← List.append_assoc, flat_one]
  refine ⟨[B, g2], h3.mono (fun x hx => Or.inl (List.mem_cons_of_mem _ hx)), fun k hk => ?_, some ⟨g2, 0, none⟩, cap2, rfl, by rw [hl2]; exact h1, by rw [hl2, hf]; exact h2⟩
  simp at hk
  rcases hk with rfl | rfl
  · exact ⟨Or.inl (by simp), Nat.lt_of_lt_of_le hB h3.size⟩
  · refine ⟨?_, h5⟩
    rcases h4 with h4 | h4
    · exact Or.inl (by simp [h4])
    · exact Or.inr h4

end Go.Proofs.Ytejgclmlclidkaa

namespace Go.Proofs.Ytejgclmlclidkaa
open Go Go.RowKit Go.Shelf
attribute [local go_sem] Oper.semAt_some

set_option maxRecDepth 100000 in
set_option maxHeartbeats 2000000 in
theorem nodes_all_in (F : Fence) (n : Nat) (hFw : F = Fence.wide) (hro : F.round = none) (hF : ∀ k, F.fn k) (hn : 3 ≤ n) (l Be Bg : Nat) (wo : World) (e : Ex) (u : Value) (bs : List Nat) (he : ExIs wo (.agg #[.int .i64 e.kind, .string e.name, u]) e bs) (hsz : exSize e ≤ 1099511627776)
    (J Jx : List (It wo) → List Nat → World → Prop) (hJ : Minds J) (hJx : Minds Jx)
    (hY : ∀ pre x M W1, J pre M W1 → (∀ k ∈ M, k < W1.heap.size) → pre.length < exSize e → YieldAt F (n - 1) Try.prog l #[x.val] W1 fun e W2 =>
      (e = .returned (.bool true) ∧ J (pre ++ [x]) M W2 ∧ Kept wo.heap.size M W1 W2) ∨ (e = .returned (.bool false) ∧ Jx (pre ++ [x]) M W2 ∧ Kept wo.heap.size M W1 W2))
    (Inv : List (It wo) → List (It wo) → Prop) (Gs : List (It wo) → World → Prop) (ask : List (It wo) → It wo → Bool) (M0 Fg : List Nat)
    (hI0 : ∀ x : It wo, x.ex = e → Inv [] [x]) (hI1 : ∀ (pre st : List (It wo)) (x : It wo) (ks : List (It wo)), Inv pre (st ++ [x]) → ask pre x = true → ks.map It.ex = x.ex.args.reverse → Inv (pre ++ [x]) (st ++ ks))
    (hI2 : ∀ (pre st : List (It wo)) (x : It wo), Inv pre (st ++ [x]) → ask pre x = false → Inv (pre ++ [x]) st)
    (hGf : ∀ pre A B, Gs pre A → A.heap.size ≤ B.heap.size → (∀ k ∈ Fg, B.heap[k]? = A.heap[k]?) → Gs pre B)
    (hG : ∀ (pre : List (It wo)) (x : It wo) (A : Option Addr) (c : Nat) (W1 : World), Gs pre W1 → Below wo.heap.size wo W1 → x.1.2.2.1 = .slice A x.ex.args.length c → pre.length < exSize e → CallsIn F (n - 1) Try.prog 78 #[.slice A x.ex.args.length c] W1 fun r W2 => r = .returned (.bool (ask pre x)) ∧ Gs (pre ++ [x]) W2 ∧ Fr Fg W1 W2)
    (W : World) (hW : Below wo.heap.size wo W) (hM0 : ∀ k ∈ M0, wo.heap.size ≤ k ∧ k < W.heap.size) (hBgM : Bg ∈ M0) (hFg : ∀ k ∈ Fg, k ∈ M0 ∧ k ≠ Bg) (hgb : Boxed W Bg 99 (.func (.func 78) #[] #[]))
    (h0 : W.cell? ⟨Be, 0, none⟩ = some (.int .i64 e.kind)) (h1 : W.cell? ⟨Be, 1, none⟩ = some (.string e.name)) (h2 : W.cell? ⟨Be, 2, none⟩ = some u) (hJ0 : J [] M0 W) (hGs0 : Gs [] W) :
    CallsIn F n Try.prog 96 #[.func (.yield l) #[] #[], .pointer (some ⟨Be, 0, none⟩), .pointer (some ⟨Bg, 0, none⟩)] W fun r W2 => (∃ v, r = .returned v) ∧
      ((∃ (xs : List (It wo)) (M : List Nat), Inv xs [] ∧ J xs M W2) ∨ (∃ (pre : List (It wo)) (M : List Nat), (∃ pre0 st0 x, pre = pre0 ++ [x] ∧ Inv pre0 (st0 ++ [x])) ∧ Jx pre M W2)) := by
  have hn1 : 1 ≤ n := by omega
  refine callsIn_of_wp_marks Try.func96 rfl (hF _) ?_ hro
  simp only [Try.ntmps96, List.size_toArray, List.length_cons, List.length_nil, Nat.reduceAdd, Nat.reduceSub, Array.replicate_succ, Array.replicate_zero, List.push_toArray, List.append_toArray, List.nil_append, List.cons_append]
  have HFW := Lib.hid hFw
  clear hFw
  have HE := Lib.hid he
  have HY := Lib.hid hY
  have HW := Lib.hid hW
  have HJ := Lib.hid hJ
  have HJX := Lib.hid hJx
  have HJ0 := Lib.hid hJ0
  have HI1 := Lib.hid hI1
  have HI2 := Lib.hid hI2
  have HGF := Lib.hid hGf
  have HG := Lib.hid hG
  have HGS0 := Lib.hid hGs0
  have HM0 := Lib.hid hM0
  have HBM := Lib.hid hBgM
  have HFG := Lib.hid hFg
  have HGB := Lib.hid hgb
  have HI0 := Lib.hid hI0
  have HBG := Lib.hid (hM0 Bg hBgM).2
  have HFG2 := Lib.hid (fun k (hk : k ∈ Fg) => And.intro (hM0 k (hFg k hk).1).2 (And.intro (hFg k hk).2 (hM0 k (hFg k hk).1).1))
  clear he hY hW hJ hJx hJ0 hI0 hI1 hI2 hGf hG hGs0 hM0 hBgM hFg hgb
  gi_wp2
  refine wpIn_loop_ghost_k (fun k a wr => ∃ (Ds M : List Nat) (pre st : List (It wo)) (lv : Value) (u5 u7 u10 u11 u12 u13 u14 u15 u16 u17 u18 u19 u20 u21 u22 u23 u24 u25 u26 u27 u28 u29 u30 u31 u32 u33 u34 u35 u38 u39 u40 u41 u42 u43 : Value), a = { tmps := #[.func (.yield l) #[] #[], .pointer (some ⟨Be, 0, none⟩), .pointer (some ⟨Bg, 0, none⟩), undef, .pointer (some ⟨W.heap.size + 1, 0, none⟩), u5, undef, u7, .agg #[.int .i64 e.kind, .string e.name, u], .slice (some ⟨W.heap.size, 0, none⟩) 1 1, u10, u11, u12, u13, u14, u15, u16, u17, u18, u19, u20, u21, u22, u23, u24, u25, u26, u27, u28, u29, u30, u31, u32, u33, u34, u35, undef, undef, u38, u39, u40, u41, u42, u43], defers := Ds.map markOf } ∧ Hid (J pre M wr) ∧ Hid (Nd wo W.heap.size (exSize e) Bg (.func (.func 78) #[] #[]) M0 Inv (W.heap.size + 1) pre st lv M wr) ∧ Hid (k = (due st).length) ∧ Hid (Marks W.heap.size Ds M wr) ∧ Hid (Gs pre wr)) (exSize e) ?_ ?_
  · have hs2 : ((W.alloc (.cells #[.int .i64 e.kind, .string e.name, u] 26)).alloc (.cells #[.slice (some ⟨W.heap.size, 0, none⟩) 1 1] 24)).heap.size = W.heap.size + 2 := by simp
    have hlw : Below W.heap.size W ((W.alloc (.cells #[.int .i64 e.kind, .string e.name, u] 26)).alloc (.cells #[.slice (some ⟨W.heap.size, 0, none⟩) 1 1] 24)) := ((Below.refl _ _).alloc (Nat.le_refl _) _).alloc (by simp) _
    have hwz := HW.out.size
    have hle0 : ∀ k, k < W.heap.size → ((W.alloc (.cells #[.int .i64 e.kind, .string e.name, u] 26)).alloc (.cells #[.slice (some ⟨W.heap.size, 0, none⟩) 1 1] 24)).heap[k]? = W.heap[k]? := fun k hk => hlw.block k hk
    refine ⟨[], (W.heap.size + 1) :: W.heap.size :: M0, [], [⟨(0, e, u, bs), HE.out⟩], .slice (some ⟨W.heap.size, 0, none⟩) 1 1, _, _, _, _, _, _, _, _, _, _, _, _, _, _, _, _, _, _, _, _, _, _, _, _, _, _, _, _, _, _, _, _, _, _, rfl, Lib.hid (HJ.out _ _ _ _ _ HJ0.out (Fr.of_below hlw) (fun k hk => ?_)), Lib.hid ⟨HI0.out _ rfl, ?_, ?_, ?_, by simp, fun k hk => by simp [Value.ownBlock] at hk; simp [hk], fun k hk => ?_, HW.out.trans (hlw.mono hwz), by omega, fun k hk => ?_, fun k hk => by simp [hk], ?_⟩, Lib.hid ?_, Lib.hid ⟨by simp, by simp⟩, Lib.hid (HGF.out _ _ _ HGS0.out (by omega) (fun k hk => hle0 k (HFG2.out k hk).1))⟩
    · simp at hk
      rcases hk with rfl | rfl | hk
      · exact Or.inr (by omega)
      · exact Or.inr (Nat.le_refl _)
      · exact Or.inl hk
    · rw [show due [(⟨(0, e, u, bs), HE.out⟩ : It wo)] = exNodes e by simp [due, It.ex], nodes_len]; simp
    · have := Boxed.new (W.alloc (.cells #[.int .i64 e.kind, .string e.name, u] 26)) 24 (.slice (some ⟨W.heap.size, 0, none⟩) 1 1)
      rw [World.size_alloc] at this
      exact this
    · exact World.ownsRow.alloc (World.ownsRow_lit W #[.int .i64 e.kind, .string e.name, u] 1 (Nat.le_refl _) (by unfold maxLen; omega) rfl) _
    · simp at hk
      rcases hk with rfl | rfl | hk
      · omega
      · omega
      · have := (HM0.out k hk).2; omega
    · simp at hk
      rcases hk with rfl | rfl | hk
      · omega
      · exact hwz
      · exact (HM0.out k hk).1
    · exact box_on HGB.out (hle0 _ HBG.out)
    · rw [show due [(⟨(0, e, u, bs), HE.out⟩ : It wo)] = exNodes e by simp [due, It.ex], nodes_len]
  · rintro gk _ wr ⟨Ds, M, pre, st, lv, u5, u7, u10, u11, u12, u13, u14, u15, u16, u17, u18, u19, u20, u21, u22, u23, u24, u25, u26, u27, u28, u29, u30, u31, u32, u33, u34, u35, u38, u39, u40, u41, u42, u43, rfl, HJP, HND, HK, HMK, HGS⟩ JJ KK hJJ hKK
    rcases last_of st with rfl | ⟨st0, x, rfl⟩
    · have hbox := HND.out.box.cell
      have hbf := HND.out.box.frozen
      have hblt := HND.out.box.lt
      obtain ⟨AO, co, rfl⟩ : ∃ AO co, lv = .slice AO 0 co := by
        rcases HND.out.row.2 with ⟨h0, -⟩ | ⟨g, cap, cur, h0, -⟩
        · exact ⟨_, _, h0⟩
        · exact ⟨_, _, h0⟩
      gi_wp2
      exact leave_marks rfl Ds wr HMK.out.1 (fun D hD => (HMK.out.2 D hD).2.1) (fun v X hf => ⟨⟨_, rfl⟩, .inl ⟨pre, HND.out.inv, M, HJ.out _ _ _ _ _ HJP.out (hf.mono (fun k hk => Or.inl (HMK.out.2 k hk).1)) (fun k hk => Or.inl hk)⟩⟩)
    · have hbox := HND.out.box.cell
      have hbf := HND.out.box.frozen
      have hblt := HND.out.box.lt
      obtain ⟨g, cap, rfl, hgM, hgn, c0, c1, c2, hcap, hpop⟩ := HND.out.top
      have hbd := HND.out.bound
      obtain ⟨A, c, hu, hsl, hac1, hac2⟩ := x.slice
      rw [hu] at c2
      obtain ⟨q, hq⟩ : ∃ q, q = x.ex.args.length := ⟨_, rfl⟩
      rw [← hq] at c2 hu hsl hac1
      obtain ⟨m, hm⟩ : ∃ m, m = st0.length := ⟨_, rfl⟩
      rw [← hm] at hbox c0 c1 c2 hcap hpop
      have hm3 : (m : Int) + 1 ≤ 1099511627777 := by
        have := hbd.2
        simp at this
        omega
      have hcap3 : (cap : Int) ≤ 9223372036854775807 := by
        rcases hpop.2 with ⟨h0, -⟩ | ⟨g', cap', cur, hv, -, -, hn, hmx, -⟩
        · cases h0
        · cases hv; unfold maxLen at hmx; omega
      have HM := Lib.hid hm
      have HPOP := Lib.hid hpop
      have HBD := Lib.hid hbd
      have HQ := Lib.hid hq
      have HU := Lib.hid hu
      have HSL := Lib.hid hsl
      have HGM := Lib.hid hgM
      have HGN := Lib.hid hgn
      have HWR := Lib.hid (show W.heap.size ≤ wr.heap.size by have h3 := HND.out.box.lt; omega)
      clear hm hpop hbd hq hu hsl hgM hgn
      have HLEN := Lib.hid (show pre.length < exSize e by have := HBD.out.1; rw [due_one, List.length_cons] at this; omega)
      have HGW := Lib.hid (HGF.out pre wr ((wr.setCell ⟨W.heap.size + 1, 0, none⟩ (.slice (some ⟨g, 0, none⟩) m cap)).alloc (.cells #[.int .i64 x.ex.kind, .string x.ex.name, .slice A q c] 26)) HGS.out (by simp [World.setCell]) (fun k hk => by have := (HFG2.out k hk).1; have := HWR.out; rw [Below.heap_alloc _ _ k (by simp [World.setCell]; omega), Below.heap_setCell _ _ _ _ (by simp; omega)]))
      have HMD := Lib.hid (Nd.pop HND.out HBG.out HWR.out HPOP.out HGM.out HGN.out HMK.out (.cells #[.int .i64 x.ex.kind, .string x.ex.name, .slice A q c] 26))
      gi_wp2
      obtain ⟨Wy, hWy⟩ : ∃ Wy, Wy = (wr.setCell ⟨W.heap.size + 1, 0, none⟩ (.slice (some ⟨g, 0, none⟩) m cap)).alloc (.cells #[.int .i64 x.ex.kind, .string x.ex.name, .slice A q c] 26) := ⟨_, rfl⟩
      rw [← hWy]
      rw [← hWy] at HMD HGW
      obtain ⟨fn, tmps, assign, body, hy, hR⟩ := HY.out pre x (wr.heap.size :: M) Wy (HJ.out _ _ _ _ _ HJP.out HMD.out.2.1 HMD.out.2.2) HMD.out.1.lt HLEN.out
      have hy2 : (Instr.yield l #[.agg #[.int .i64 x.ex.kind, .string x.ex.name, .slice A q c]]).run Try.prog Wy = .ok (.round l fn tmps assign body) Wy := by
        rw [← HU.out]; exact hy
      rw [hy2]
      refine ⟨fun _ => hn1, hR.mono ?_⟩
      clear hy hy2 hR hWy
      rintro r W3 (⟨rfl, hj3, hk3⟩ | ⟨rfl, hjx3, hk3⟩)
      · have HJ3 := Lib.hid hj3
        have HMD3 := Lib.hid (HMD.out.1.keep HBM.out hk3)
        have HGK3 := Lib.hid (HGF.out pre Wy W3 HGW.out hk3.1.size (fun k hk => hk3.2 k (HMD.out.1.own k (HFG.out k hk).1)))
        clear hj3 hk3
        have hnx := HMD3.out.nx
        have hn2 : W3.cell? ⟨wr.heap.size, 2, none⟩ = some (.slice A q c) := by simp [World.cell?, hnx]
        have hgc := HMD3.out.gbox.cell
        clear hnx
        have HASK := Lib.hid (fun (hh : Gs pre W3) => HG.out pre x A c W3 hh HMD3.out.low (by rw [← HQ.out]; exact HU.out) HLEN.out)
        rw [← HQ.out] at HASK
        cases hask : ask pre x
        · rw [hask] at HASK
          have HNO := Lib.hid hask
          clear hask
          gi_wp2_with (gi_at_call 78; refine (HASK.out HGK3.out).mono ?_; rintro r W5 ⟨rfl, hgs5, hfr5⟩; have HGS5 := Lib.hid hgs5; have HFR5 := Lib.hid hfr5; clear hgs5 hfr5)
          have h5 := HMD3.out.asked HFR5.out HFG2.out
          refine Handed.intro (due st0).length ?_ (hJJ _ _ _ ⟨Ds, wr.heap.size :: M, pre ++ [x], st0, .slice (some ⟨g, 0, none⟩) m cap, _, _, _, _, _, _, _, _, _, _, _, _, _, _, _, _, _, _, _, _, _, _, _, _, _, _, _, _, _, _, _, _, _, _, rfl, ?_, ?_, Lib.hid rfl, Lib.hid h5.marks, HGS5⟩)
          · rw [HK.out, due_one]; simp; omega
          · exact Lib.hid (HJ.out _ _ _ _ _ HJ3.out (HFR5.out.mono (fun k hk => Or.inl (h5.own k (HFG.out k hk).1))) (fun k hk => Or.inl hk))
          · refine Lib.hid ⟨HI2.out _ _ _ HND.out.inv HNO.out, ?_, h5.box, by rw [← HM.out]; exact h5.row, by simp [h5.inB], fun k hk => ?_, h5.lt, h5.low, h5.Bn, h5.Mn, h5.own, h5.gbox⟩
            · have h6 := HBD.out.1
              rw [due_one] at h6
              simp at h6 ⊢
              omega
            · obtain rfl : g = k := by simpa [Value.ownBlock] using hk
              simp [h5.inG]
        rw [hask] at HASK
        have HYES := Lib.hid hask
        clear hask
        gi_wp2_with (first
          | (gi_at_call 78; refine (HASK.out HGK3.out).mono ?_; rintro r W5 ⟨rfl, hgs5, hfr5⟩; have hn5 : W5.cell? ⟨wr.heap.size, 2, none⟩ = some (.slice A q c) := by
              have hnx := (HMD3.out.asked hfr5 HFG2.out).nx
              simp [World.cell?, hnx]
             have HGS5 := Lib.hid hgs5; have HFR5 := Lib.hid hfr5; clear hgs5 hfr5)
          | (gi_at_call 97; refine (backward_in F (n - 1) (hF _) hro _ _ _ _).mono ?_; rintro r w4 ⟨rfl, rfl⟩))
        have HMD3 := Lib.hid (HMD3.out.asked HFR5.out HFG2.out)
        have HJ3 := Lib.hid (HJ.out _ _ _ _ _ HJ3.out (HFR5.out.mono (fun k hk => Or.inl (HMD3.out.own k (HFG.out k hk).1))) (fun k hk => Or.inl hk))
        clear hn5 hn2 hgc
        clear HASK HGK3
        obtain ⟨W4, hW4⟩ : ∃ W4, W4 = W5.alloc (.cells #[.slice A q c] 24) := ⟨_, rfl⟩
        rw [← hW4]
        have HW4 := Lib.hid hW4
        have hs4 : W4.heap.size = W5.heap.size + 1 := by rw [hW4]; simp
        have HB4 := Lib.hid (show Below W5.heap.size W5 W4 by rw [hW4]; exact (Below.refl _ _).alloc (Nat.le_refl _) _)
        have hbs : W4.cell? ⟨W5.heap.size, 0, none⟩ = some (.slice A q c) := by rw [hW4]; exact (Boxed.new W5 _ _).cell
        clear hW4
        have HS4 := Lib.hid hs4
        have HBS := Lib.hid hbs
        clear hs4 hbs
        have hLow3 := HMD3.out.low.size
        refine wpIn_rangeFunc_frame hro hn1 (gf := 107) (lb := #[.pointer (some ⟨W5.heap.size, 0, none⟩)]) rfl (hF _) (enters_of Try.func107 (by kernel_rfl) rfl)
          (encs := fun y : It wo => #[.int .i64 (y.1.1 : Int), y.val]) (n₀ := wo.heap.size) (S := fun xs => xs.map It.ex = x.ex.args.reverse) (Sp := fun _ => True) (N := x.ex.args.length) (M0 := [W5.heap.size]) (w0 := W4)
          (fun l2 J2 Jx2 X hX _ _ hY2 h02 => back_in F (n - 1) (hF _) hro (by omega) l2 W5.heap.size wo A q c x.ex.args x.1.2.2.2 HSL.out J2 Jx2 hY2 X ((hX.cell (p := ⟨W5.heap.size, 0, none⟩) (by rw [HS4.out]; exact Nat.lt_succ_self _)).trans HBS.out) ((HMD3.out.low.trans (HB4.out.mono hLow3)).trans (hX.mono (by rw [HS4.out]; omega))) h02)
          (Below.refl _ _) (by rw [HS4.out]; omega) (by simp; rw [HS4.out]; omega) (fun _ => rfl)
          (Pushed wo W.heap.size (W.heap.size + 1) m st0) (fun _ _ _ _ => False) (pushed_foot wo _ _ m st0) (fun _ _ _ _ _ h _ _ => h)
          [W.heap.size + 1, g] ?fp ?start (Parted wo W.heap.size (W.heap.size + 1) m st0 (fun pb y => #[.func (.yield l) #[] #[], .pointer (some ⟨Be, 0, none⟩), .pointer (some ⟨Bg, 0, none⟩), undef, .pointer (some ⟨W.heap.size + 1, 0, none⟩), .pointer (some ⟨wr.heap.size, 0, none⟩), undef, .pointer (some ⟨pb, 0, none⟩), .agg #[.int .i64 e.kind, .string e.name, u], .slice (some ⟨W.heap.size, 0, none⟩) 1 1, .slice (some ⟨g, 0, none⟩) (m + 1) cap, .int .i64 ((m : Int) + 1), .bool true, .slice (some ⟨g, 0, none⟩) (m + 1) cap, .slice (some ⟨g, 0, none⟩) (m + 1) cap, .int .i64 ((m : Int) + 1), .int .i64 (m : Int), .pointer (some ⟨g, m * 3, none⟩), .agg #[.int .i64 x.ex.kind, .string x.ex.name, .slice A q c], .slice (some ⟨g, 0, none⟩) (m + 1) cap, .slice (some ⟨g, 0, none⟩) (m + 1) cap, .int .i64 ((m : Int) + 1), .int .i64 (m : Int), .slice (some ⟨g, 0, none⟩) m cap, .func (.yield l) #[] #[], .agg #[.int .i64 x.ex.kind, .string x.ex.name, .slice A q c], .bool true, .bool false, .func (.func 78) #[] #[], .pointer (some ⟨wr.heap.size, 2, none⟩), .slice A q c, .bool true, .bool false, .pointer (some ⟨wr.heap.size, 2, none⟩), .slice A q c, .func (.func 107) #[] #[.pointer (some ⟨W5.heap.size, 0, none⟩)], .int .i64 (y.1.1 : Int), y.val, u38, u39, u40, u41, u42, u43])) (parted_foot wo _ _ m st0 _) ?assign ?body ?done ?stop
        case fp =>
          intro k hk
          simp only [List.mem_cons, List.not_mem_nil, or_false] at hk
          have h3 := HMD3.out
          have hB := h3.lt (W.heap.size + 1) (List.mem_cons_of_mem _ h3.inB)
          have hG := h3.lt g (List.mem_cons_of_mem _ h3.inG)
          rcases hk with rfl | rfl
          · exact ⟨h3.Mn _ (List.mem_cons_of_mem _ h3.inB), by rw [HS4.out]; omega, by simp; omega⟩
          · exact ⟨h3.Mn _ (List.mem_cons_of_mem _ h3.inG), by rw [HS4.out]; omega, by simp; omega⟩
        case start =>
          have h3 := HMD3.out
          exact ⟨some ⟨g, 0, none⟩, cap, rfl, box_on h3.box (HB4.out.block _ h3.box.lt), by rw [List.append_nil]; exact row_on h3.row (fun k e => HB4.out.block _ (h3.lt _ (by rw [show k = g by simpa [Value.ownBlock, eq_comm] using e]; exact List.mem_cons_of_mem _ h3.inG)))⟩
        case assign =>
          intro l2 pre2 y Fp X KX hI hFp hFr hK
          obtain ⟨AO, co, rfl, h1, h2⟩ := hI
          obtain ⟨A2, c2, hu2, -, -, -⟩ := y.slice
          have hv : y.val = .agg #[.int .i64 y.ex.kind, .string y.ex.name, .slice A2 y.ex.args.length c2] := by rw [← hu2]; rfl
          have HU2 := Lib.hid hu2
          have HV := Lib.hid hv
          have H1 := Lib.hid h1
          have H2 := Lib.hid h2
          have HFP := Lib.hid hFp
          have HKX := Lib.hid hK
          dsimp only
          rw [hv]
          clear hu2 hv h1 h2 hFp hFr hK
          gi_wp2
          refine HKX.out _ (X.heap.size :: (W.heap.size + 1) :: (Value.ownBlock (.slice AO (m + pre2.length) co)).toList) _ (Fr.alloc _ _) (fun k hk => ?_) ⟨X.heap.size, AO, co, rfl, ?_, ⟨?_, ?_⟩, H1.out.alloc _, H2.out.alloc _, ?_⟩
          · rcases List.mem_cons.1 hk with rfl | hk
            · exact ⟨Or.inr (Nat.le_refl _), by simp⟩
            · exact ⟨Or.inl hk, by have := (HFP.out k hk).2; simp; omega⟩
          · rw [HU2.out]; exact World.alloc_heap_new X _
          · have := H1.out.lt; omega
          · intro e
            have := (H2.out.lt _ e).2
            omega
          · dsimp only; rw [HV.out]
        case body =>
          rintro l2 pre2 y _ Fp X ⟨pb, AO, co, rfl, hpb, hne, h1, h2, rfl⟩ hFp hFr hlen
          obtain ⟨A2, c2, hu2, -, -, -⟩ := y.slice
          have HFP := Lib.hid hFp
          have HNE := Lib.hid hne
          have H1 := Lib.hid h1
          have H2 := Lib.hid h2
          have HPB := Lib.hid hpb
          have HU2 := Lib.hid hu2
          have HKL := Lib.hid (show m + pre2.length ≤ 1099511627776 by
            have h5 := HBD.out.1
            rw [due_one, List.length_cons, List.length_append] at h5
            have h6 := due_len st0
            have h7 : x.ex.args.length ≤ (exNodesL x.ex.args).length := by rw [(nodes_size _).2 x.ex.args (Nat.le_refl _)]; exact sizes_len _
            have := HM.out
            omega)
          clear hFp hFr hne h1 h2 hpb hu2 hlen
          have hfw := HFW.out
          subst hfw
          gi_wp2
          refine region_round (R := PushEnd W.heap.size (W.heap.size + 1) (m + pre2.length) (.slice AO (m + pre2.length) co) (flat (st0 ++ pre2)) y.cells X) (by kernel_rfl) (all_not (by rfl))
            (push_any "l03_expr.go:103" [] W.heap.size (W.heap.size + 1) pb (m + pre2.length) co y.ex.args.length c2 AO A2 y.ex.kind y.ex.name (flat (st0 ++ pre2)) X _ _ _ _ _ _ _ _ _ _ _ _ _ _ _ _ _ _ _ _ _ _ _ _ _ _ _ _ _ _ _ _ _ _ _ _ _ _ _ _ _ _
              H1.out H2.out HNE.out (by rw [← HU2.out]; exact HPB.out) (by have := H1.out.lt; omega) HKL.out (fun Y hY => by rw [It.cells, HU2.out]; exact hY)) (fun _ Y hY => ?_)
          exact pushed_step hY (HFP.out _ (by simp)).2 pb
        case done =>
          rintro D ks Fp X hD hDF hFl hS ⟨AO, co, rfl, h1, h2⟩ hFr hK
          have h3 := HMD3.out
          have hfrX : Fr (wr.heap.size :: M) W5 X := (Fr.of_below HB4.out).trans hFr (fun z hz => by
            simp at hz
            rcases hz with rfl | rfl | rfl
            · exact Or.inl (List.mem_cons_of_mem _ h3.inB)
            · exact Or.inl (List.mem_cons_of_mem _ h3.inG)
            · exact Or.inr (Nat.le_refl _))
          have hs4 := HS4.out
          have hXs := hFr.size
          have hDl : D < X.heap.size := (Array.getElem?_eq_some_iff.1 hK).1
          have hown : ∀ k, Value.ownBlock (.slice AO (m + ks.length) co) = some k → (k ∈ wr.heap.size :: M ∨ W5.heap.size ≤ k) ∧ k < X.heap.size := fun k hk => by
            obtain ⟨e1, e2⟩ := hFl k (by simp [hk])
            refine ⟨?_, e1⟩
            rcases e2 with e2 | e2
            · simp at e2
              rcases e2 with rfl | rfl
              · exact Or.inl (List.mem_cons_of_mem _ h3.inB)
              · exact Or.inl (List.mem_cons_of_mem _ h3.inG)
            · exact Or.inr (by omega)
          have hM2 : ∀ k ∈ D :: ((Value.ownBlock (.slice AO (m + ks.length) co)).toList ++ wr.heap.size :: M), (k ∈ wr.heap.size :: M ∨ W5.heap.size ≤ k) ∧ k < X.heap.size := fun k hk => by
            rcases List.mem_cons.1 hk with rfl | hk
            · exact ⟨Or.inr (by omega), hDl⟩
            · rcases List.mem_append.1 hk with hk | hk
              · exact hown k (by simpa using hk)
              · exact ⟨Or.inl hk, Nat.lt_of_lt_of_le (h3.lt k hk) hfrX.size⟩
          have hfrX2 : Fr [W.heap.size + 1, g] W5 X := (Fr.of_below HB4.out).trans hFr (fun z hz => by
            simp at hz
            rcases hz with rfl | rfl | rfl
            · exact Or.inl (by simp)
            · exact Or.inl (by simp)
            · exact Or.inr (Nat.le_refl _))
          have hlowX : Below wo.heap.size W5 X := hfrX.below h3.Mn h3.low.size
          have hdue : due (st0 ++ ks) = exNodesL x.ex.args ++ due st0 := by rw [due_app, due_kids ks _ hS]
          show KK _ _
          refine hKK _ _ (Handed.intro (due (st0 ++ ks)).length ?_ (hJJ _ _ _ ⟨D :: Ds, D :: ((Value.ownBlock (.slice AO (m + ks.length) co)).toList ++ wr.heap.size :: M), pre ++ [x], st0 ++ ks, .slice AO (m + ks.length) co, _, _, _, _, _, _, _, _, _, _, _, _, _, _, _, _, _, _, _, _, _, _, _, _, _, _, _, _, _, _, _, _, _, _, rfl, ?_, ?_, Lib.hid rfl, ?_, ?_⟩))
          · rw [HK.out, due_one, hdue]; simp
          · exact Lib.hid (HJ.out _ _ _ _ _ HJ3.out hfrX (fun k hk => (hM2 k hk).1))
          · refine Lib.hid ⟨HI1.out _ _ _ _ HND.out.inv HYES.out hS, ?_, h1, ?_, by simp [h3.inB], fun k hk => by simp [hk], fun k hk => (hM2 k hk).2, h3.low.trans hlowX, h3.Bn, fun k hk => (hM2 k hk).1.elim (h3.Mn k) (fun h => by omega), fun k hk => ?_, box_on h3.gbox (hfrX2.block _ h3.gbox.lt (by simp; have := HBG.out; have := h3.Bn; have := h3.gn; omega))⟩
            · have h6 := HBD.out.1
              rw [due_one] at h6
              rw [hdue]
              simp at h6 ⊢
              omega
            · rw [List.length_append, ← HM.out]; exact h2
            · simp only [List.mem_cons, List.mem_append]
              exact Or.inr (Or.inr (List.mem_cons.1 (h3.own k hk)))
          · refine Lib.hid ⟨List.nodup_cons.2 ⟨fun h => ?_, h3.marks.1⟩, fun E hE => ?_⟩
            · have := h3.lt D (h3.marks.2 D h).1
              omega
            · rcases List.mem_cons.1 hE with rfl | hE
              · exact ⟨by simp, hK, by have := h3.box.lt; omega⟩
              · obtain ⟨e1, e2, e3⟩ := h3.marks.2 E hE
                have hEl := h3.lt E e1
                have hEB : E ≠ W.heap.size + 1 := fun e => by
                  have hb := h3.box
                  unfold Boxed at hb
                  rw [← e, e2] at hb
                  cases hb
                have hEg : E ≠ g := fun e => by
                  rcases h3.row.2 with ⟨h0, -⟩ | ⟨g', cap', cur, hv, -, hb, -⟩
                  · cases h0
                  · cases hv
                    rw [← e, e2] at hb
                    cases hb
                refine ⟨by simp only [List.mem_cons, List.mem_append]; exact Or.inr (Or.inr (List.mem_cons.1 e1)), ?_, e3⟩
                exact (hFr.block E (by omega) (by simp; omega)).trans ((HB4.out.block E hEl).trans e2)
          · exact Lib.hid (HGF.out _ _ _ HGS5.out hfrX2.size (fun k hk => hfrX2.block k (by have := (HFG2.out k hk).1; have := h3.box.lt; have := h3.Bn; omega) (by simp; have := (HFG2.out k hk).1; have := h3.Bn; have := h3.gn; omega)))
        case stop =>
          rintro D c2 pre2 Fp X _ _ _ _ h _ _
          exact h.elim
      · have h3 := HMD.out.1.keep HBM.out hk3
        have HJ3 := Lib.hid hjx3
        have HMD3 := Lib.hid h3
        clear h3 hjx3 hk3
        gi_wp2
        exact leave_marks rfl Ds W3 HMD3.out.marks.1 (fun D hD => (HMD3.out.marks.2 D hD).2.1) (fun v X hf => ⟨⟨_, rfl⟩, .inr ⟨_, wr.heap.size :: M, ⟨pre, st0, x, rfl, HND.out.inv⟩, HJX.out _ _ _ _ _ HJ3.out (hf.mono (fun k hk => Or.inl (HMD3.out.marks.2 k hk).1)) (fun k hk => Or.inl hk)⟩⟩)
end Go.Proofs.Ytejgclmlclidkaa

namespace Go.Proofs.Ytejgclmlclidkaa
open Go Go.RowKit Go.Shelf
attribute [local go_sem] Oper.semAt_some

/-- The boxes of nodesWhere$1: the expression's and that of the function that is asked, behind block b. -/
def nodesLb (b : Nat) : Array Value := #[.pointer (some ⟨b + 1, 0, none⟩), .pointer (some ⟨b + 2, 0, none⟩)]
/-- What nodesOf hands back where the heap had b blocks. -/
def nodesFun (b : Nat) : Value := .func (.func 96) #[] (nodesLb b)
/-- The world behind a call of nodesOf. -/
def nodesW (w : World) (k : Int) (s : ByteArray) (u : Value) : World :=
  ((w.alloc (.cells #[.int .i64 k, .string s, u] 26)).alloc (.cells #[.int .i64 k, .string s, u] 26)).alloc (.cells #[.func (.func 78) #[] #[]] 99)
theorem nodesW_size (w : World) (k : Int) (s : ByteArray) (u : Value) : (nodesW w k s u).heap.size = w.heap.size + 3 := by simp [nodesW]
theorem nodesW_below {n : Nat} {wo w : World} (h : Below n wo w) (hn : n ≤ w.heap.size) (k : Int) (s : ByteArray) (u : Value) : Below n wo (nodesW w k s u) :=
  ((h.alloc hn _).alloc (by simp; omega) _).alloc (by simp; omega) _
theorem nodesW_old {w : World} (k : Int) (s : ByteArray) (u : Value) {j : Nat} (hj : j < w.heap.size) : (nodesW w k s u).heap[j]? = w.heap[j]? :=
  (nodesW_below (Below.refl _ w) (Nat.le_refl _) k s u).block j hj
theorem nodesW_ex (w : World) (k : Int) (s : ByteArray) (u : Value) : (nodesW w k s u).heap[w.heap.size + 1]? = some (.cells #[.int .i64 k, .string s, u] 26 (0, 0)) := by
  have h1 := World.alloc_heap_new (w.alloc (.cells #[.int .i64 k, .string s, u] 26)) (.cells #[.int .i64 k, .string s, u] 26)
  rw [World.size_alloc] at h1
  exact (Below.heap_alloc _ _ _ (by simp)).trans h1
theorem nodesW_gv (w : World) (k : Int) (s : ByteArray) (u : Value) : Boxed (nodesW w k s u) (w.heap.size + 2) 99 (.func (.func 78) #[] #[]) := by
  have h1 := Boxed.new ((w.alloc (.cells #[.int .i64 k, .string s, u] 26)).alloc (.cells #[.int .i64 k, .string s, u] 26)) 99 (.func (.func 78) #[] #[])
  rw [World.size_alloc, World.size_alloc] at h1
  exact h1

set_option maxHeartbeats 1000000 in
theorem nodesWhere_in (F : Fence) (n : Nat) (hF : ∀ k, F.fn k) (hro : F.round = none) (k : Int) (s : ByteArray) (A : Option Addr) (m c gi : Nat) (lb : Array Value) (w : World) :
    CallsIn F n Try.prog 77 #[.agg #[.int .i64 k, .string s, .slice A m c], .func (.func gi) #[] lb] w fun e w2 => e = .returned (.func (.func 96) #[] #[.pointer (some ⟨w.heap.size, 0, none⟩), .pointer (some ⟨w.heap.size + 1, 0, none⟩)]) ∧ w2 = (w.alloc (.cells #[.int .i64 k, .string s, .slice A m c] 26)).alloc (.cells #[.func (.func gi) #[] lb] 99) := by
  refine callsIn_of_wp Try.func77 rfl (hF _) ?_ hro
  simp only [Try.ntmps77, List.size_toArray, List.length_cons, List.length_nil, Nat.reduceAdd, Nat.reduceSub, Array.replicate_succ, Array.replicate_zero, List.push_toArray, List.append_toArray, List.nil_append, List.cons_append]
  gi_wp2
  go_ret
  exact ⟨rfl, rfl⟩

set_option maxHeartbeats 1000000 in
theorem nodesOf_in (F : Fence) (n : Nat) (hF : ∀ k, F.fn k) (hro : F.round = none) (hn : 1 ≤ n) (k : Int) (s : ByteArray) (A : Option Addr) (m c : Nat) (w : World) :
    CallsIn F n Try.prog 51 #[.agg #[.int .i64 k, .string s, .slice A m c]] w fun e w2 => e = .returned (nodesFun w.heap.size) ∧ w2 = nodesW w k s (.slice A m c) := by
  refine callsIn_of_wp Try.func51 rfl (hF _) ?_ hro
  simp only [Try.ntmps51, List.size_toArray, List.length_cons, List.length_nil, Nat.reduceAdd, Nat.reduceSub, Array.replicate_succ, Array.replicate_zero, List.push_toArray, List.append_toArray, List.nil_append, List.cons_append]
  gi_wp2_with (gi_at_call 77; refine (nodesWhere_in F (n - 1) hF hro _ _ _ _ _ _ _ _).mono ?_; rintro e w' ⟨rfl, rfl⟩)
  go_ret
  exact ⟨rfl, rfl⟩

set_option maxHeartbeats 1000000 in
theorem yes_in (F : Fence) (n : Nat) (hF : ∀ k, F.fn k) (hro : F.round = none) (A : Option Addr) (m c : Nat) (w : World) :
    CallsIn F n Try.prog 78 #[.slice A m c] w fun e w2 => e = .returned (.bool true) ∧ w2 = w := by
  refine callsIn_of_wp Try.func78 rfl (hF _) ?_ hro
  simp only [Try.ntmps78, List.size_toArray, List.length_cons, List.length_nil, Nat.reduceAdd, Nat.reduceSub, Array.replicate_succ, Array.replicate_zero, List.push_toArray, List.append_toArray, List.nil_append, List.cons_append]
  gi_wp2
  go_ret
  exact ⟨rfl, rfl⟩

/-- What nodesOf hands back, as a range over it wants it. -/
theorem nodes_stops (F : Fence) (n : Nat) (hFw : F = Fence.wide) (hro : F.round = none) (hF : ∀ k, F.fn k) (hn : 3 ≤ n) (wo : World) (e : Ex) (u : Value) (bs : List Nat) (he : ExIs wo (.agg #[.int .i64 e.kind, .string e.name, u]) e bs) (hsz : exSize e ≤ 1099511627776) (b : Nat) (w0 w : World) (hb : b = w0.heap.size) (hw : w = nodesW w0 e.kind e.name u) (hW : Below wo.heap.size wo w0) :
    SeqF F n Try.prog 96 (nodesLb b) (fun x : It wo => #[x.val]) wo.heap.size (fun xs => xs.map It.ex = exNodes e) (fun pre => pre.map It.ex <+: exNodes e) (exSize e) [b + 2] w := by
  intro l J Jx W hwW hJ hJx hY h0
  have hs0 := hW.size
  have hsz2 : w.heap.size = w0.heap.size + 3 := by rw [hw, nodesW_size]
  have hex := nodesW_ex w0 e.kind e.name u
  have hgv := nodesW_gv w0 e.kind e.name u
  rw [← hw, ← hb] at hex hgv
  have hb2 : W.heap[b + 1]? = some (.cells #[.int .i64 e.kind, .string e.name, u] 26 (0, 0)) := (hwW.block _ (by omega)).trans hex
  have hg2 : Boxed W (b + 2) 99 (.func (.func 78) #[] #[]) := box_on hgv (hwW.block _ (by omega))
  have hlow : Below wo.heap.size wo w := by rw [hw]; exact nodesW_below hW hs0 _ _ _
  refine (nodes_all_in F n hFw hro hF hn l (b + 1) (b + 2) wo e u bs he hsz J Jx hJ hJx hY (fun pre st => pre.map It.ex ++ due st = exNodes e) (fun _ _ => True) (fun _ _ => true) [b + 2] [] ?_ ?_ (fun _ _ _ _ h => by cases h) (fun _ _ _ _ _ _ => trivial) ?_
    W (hlow.trans (hwW.mono hlow.size)) (fun k hk => by simp at hk; have := hwW.size; omega) (by simp) (by simp) hg2 (by simp [World.cell?, hb2]) (by simp [World.cell?, hb2]) (by simp [World.cell?, hb2]) h0 trivial).mono ?_
  · intro x hx
    rw [show due [x] = exNodes x.ex by simp [due], hx]; rfl
  · intro pre st x ks h _ hk
    rw [due_one] at h
    rw [due_app, due_kids ks _ hk, ← h]
    simp
  · intro pre x A c W1 _ _ _ _
    refine (yes_in F (n - 1) hF hro _ _ _ _).mono ?_
    rintro r W2 ⟨rfl, rfl⟩
    exact ⟨rfl, trivial, Fr.refl _ _⟩
  · rintro r W2 ⟨hv, ⟨xs, M, h1, h2⟩ | ⟨pre, M, ⟨pre0, st0, x, rfl, h1⟩, h2⟩⟩
    · exact ⟨hv, .inl ⟨xs, M, by simpa [due] using h1, h2⟩⟩
    · refine ⟨hv, .inr ⟨_, M, ?_, h2⟩⟩
      rw [due_one] at h1
      exact ⟨exNodesL x.ex.args ++ due st0, by rw [← h1]; simp⟩
end Go.Proofs.Ytejgclmlclidkaa
