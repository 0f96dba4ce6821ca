/- The contract of the program's own SizeOf. Condition: fewer than 2^40 nodes. The contract of the program's own (*copying).sharedPlaces: where the parts share nothing, no place is shared. Conditions: fewer than 2^40 nodes; no string shares the memory; no block stands twice. The values of the map that firstValues makes, as items of which no two share memory. Condition: no two bindings share memory. -/
import Derived.Test.YtbnghkgfbjipdaaMa22
import Derived.Test.YtbnghkgfbjipdaaMa24
import Derived.Test.YtbnghkgfbjipdaaMa19
namespace Go.Proofs.Ytbnghkgfbjipdaa
open Go Go.RowKit Go.Shelf
attribute [local go_sem] Oper.semAt_some

theorem at_wide {F : Fence} {n : Nat} {P : Program} {f : FuncId} {args : Array Value} {w : World} {R : Ending → World → Prop} (hF : F = Fence.wide) (h : Calls P f args w R) (l : Nat) : CallsIn (F.inRound l) n P f args w R := by
  subst hF
  exact CallsIn.inRound l (callsIn_wide.2 h)

theorem wide_in {F : Fence} {n : Nat} {P : Program} {f : FuncId} {args : Array Value} {w : World} {R : Ending → World → Prop} (hF : F = Fence.wide) (h : Calls P f args w R) : CallsIn F n P f args w R := by
  subst hF
  exact callsIn_wide.2 h

/-- The end of a function whose result, a bool, lies in a cell. -/
theorem res_bool {fn : Func} (h : fn.results = #[.cell 2 4]) (tmps : Array Value) (W : World) (rb : Nat) (b : Bool) (ht : tmps.getD 2 undef = .pointer (some ⟨rb, 0, none⟩)) (hc : W.cell? ⟨rb, 0, none⟩ = some (.bool b)) : (results fn tmps).run Try.prog W = .ok (.bool b) W := by
  rw [Array.getD_eq_getD_getElem?] at ht
  simp [results, h, ht, go_sem, hc]
theorem bool_end {F : Fence} {n : Nat} {fn : Func} {tmps : Array Value} {b : Bool} {D rb : Nat} {w X : World} (h : fn.results = #[.cell 2 4]) (ht : tmps.getD 2 undef = .pointer (some ⟨rb, 0, none⟩)) (hR : Boxed X rb 4 (.bool b)) (hK : X.heap[D]? = some (.deferred (some []))) (hne : D ≠ rb) (hDw : w.heap.size ≤ D) (hlow : Below w.heap.size w X) :
    LeavesInM F n Try.prog fn tmps (RetPost (.bool b) w) [{ target := .collected D, args := #[] }] .returning X := by
  refine ⟨by simp, .inl ⟨D, _, rfl, run_takeDeferred hK, ?_⟩⟩
  refine ⟨.bool b, res_bool h tmps _ rb b ht ?_, rfl, hlow.trans ((Fr.put (S := [D]) X _ _ (by simp)).below (by simpa using hDw) hlow.size)⟩
  exact (box_on hR (World.putObj_heap_other (Ne.symm hne))).cell

/-- A counter in a box. -/
def CountI {wo : World} (B : Nat) (f : List (It wo) → Nat) (ks : List (It wo)) (Fp : List Nat) (W : World) : Prop := Fp = [B] ∧ Boxed W B 3 (.int .i64 (f ks : Int))
theorem count_foot {wo : World} (B : Nat) (f : List (It wo) → Nat) (ks : List (It wo)) : Foot (CountI B f ks) := by
  rintro Fp X Y ⟨rfl, h⟩ _ hk
  exact ⟨rfl, box_on h (hk B (by simp))⟩

theorem count_up {wo : World} {B nb : Nat} {f : List (It wo) → Nat} {ks : List (It wo)} {x : It wo} {X w2 : World} (hB : Boxed X B 3 (.int .i64 (f ks : Int))) (hb : Below X.heap.size X w2) (o : Obj) (h : f (ks ++ [x]) = f ks + 1) :
    ∃ Fp2, Fr [nb, B] X ((w2.setCell ⟨B, 0, none⟩ (.int .i64 ((f ks : Int) + 1))).alloc o) ∧ (∀ k ∈ Fp2, (k ∈ [nb, B] ∨ X.heap.size ≤ k) ∧ k < ((w2.setCell ⟨B, 0, none⟩ (.int .i64 ((f ks : Int) + 1))).alloc o).heap.size) ∧ CountI B f (ks ++ [x]) Fp2 ((w2.setCell ⟨B, 0, none⟩ (.int .i64 ((f ks : Int) + 1))).alloc o) := by
  have h2 : Boxed w2 B 3 (.int .i64 (f ks : Int)) := box_on hB (hb.block _ hB.lt)
  refine ⟨[B], ((Fr.of_below hb).trans (Fr.set (S := [nb, B]) _ _ _ (by simp)) (fun x h => Or.inl h)).trans (Fr.alloc (S := [nb, B]) _ _) (fun x h => Or.inl h), fun k hk => ?_, rfl, ?_⟩
  · simp at hk
    subst hk
    exact ⟨Or.inl (by simp), by have := h2.lt; simp [World.setCell]; omega⟩
  · rw [h]
    refine Boxed.alloc ?_ o
    have := h2.set (.int .i64 ((f ks : Int) + 1))
    simpa using this
theorem count_same {wo : World} {B nb : Nat} {f : List (It wo) → Nat} {ks : List (It wo)} {x : It wo} {X w2 : World} (hB : Boxed X B 3 (.int .i64 (f ks : Int))) (hb : Below X.heap.size X w2) (o : Obj) (h : f (ks ++ [x]) = f ks) :
    ∃ Fp2, Fr [nb, B] X (w2.alloc o) ∧ (∀ k ∈ Fp2, (k ∈ [nb, B] ∨ X.heap.size ≤ k) ∧ k < (w2.alloc o).heap.size) ∧ CountI B f (ks ++ [x]) Fp2 (w2.alloc o) := by
  have h2 : Boxed w2 B 3 (.int .i64 (f ks : Int)) := box_on hB (hb.block _ hB.lt)
  refine ⟨[B], (Fr.of_below hb).trans (Fr.alloc (S := [nb, B]) _ _) (fun x h => Or.inl h), fun k hk => ?_, rfl, ?_⟩
  · simp at hk
    subst hk
    exact ⟨Or.inl (by simp), by have := h2.lt; simp; omega⟩
  · rw [h]; exact h2.alloc o

/-- The node of a round lies in a box of its own. -/
def Noded {wo : World} (I : List (It wo) → List Nat → World → Prop) (tm : Nat → It wo → Array Value) (ks : List (It wo)) (x : It wo) (a : Act) (Fp : List Nat) (X : World) : Prop := ∃ nb Fp0, Fp = nb :: Fp0 ∧ X.heap[nb]? = some (.cells #[.int .i64 x.ex.kind, .string x.ex.name, x.1.2.2.1] 26 (0, 0)) ∧ nb ∉ Fp0 ∧ I ks Fp0 X ∧ a = { tmps := tm nb x, defers := [] }
theorem noded_foot {wo : World} {I : List (It wo) → List Nat → World → Prop} (hI : ∀ ks, Foot (I ks)) (tm : Nat → It wo → Array Value) (ks : List (It wo)) (x : It wo) (a : Act) : Foot (Noded I tm ks x a) := by
  rintro Fp X Y ⟨nb, Fp0, rfl, h1, h2, h3, h4⟩ hs hk
  exact ⟨nb, Fp0, rfl, (hk nb (by simp)).trans h1, h2, hI ks Fp0 X Y h3 hs (fun k h => hk k (by simp [h])), h4⟩
theorem noded_new {wo : World} {I : List (It wo) → List Nat → World → Prop} (hI : ∀ ks, Foot (I ks)) {tm : Nat → It wo → Array Value} {ks : List (It wo)} {x : It wo} {Fp : List Nat} {X : World} (h : I ks Fp X) (hFp : ∀ k ∈ Fp, k < X.heap.size) {u : Value} (hu : x.1.2.2.1 = u) {a : Act} (ha : a = { tmps := tm X.heap.size x, defers := [] }) :
    Fr Fp X (X.alloc (.cells #[.int .i64 x.ex.kind, .string x.ex.name, u] 26)) ∧ (∀ k ∈ X.heap.size :: Fp, (k ∈ Fp ∨ X.heap.size ≤ k) ∧ k < (X.alloc (.cells #[.int .i64 x.ex.kind, .string x.ex.name, u] 26)).heap.size) ∧ Noded I tm ks x a (X.heap.size :: Fp) (X.alloc (.cells #[.int .i64 x.ex.kind, .string x.ex.name, u] 26)) := by
  subst hu
  refine ⟨Fr.alloc _ _, fun k hk => ?_, X.heap.size, Fp, rfl, World.alloc_heap_new X _, fun hm => by have := hFp _ hm; omega, hI ks Fp X _ h (by simp) (fun k hk => Below.heap_alloc X _ k (hFp k hk)), ha⟩
  rcases List.mem_cons.1 hk with rfl | hk
  · exact ⟨Or.inr (Nat.le_refl _), by simp⟩
  · exact ⟨Or.inl hk, by have := hFp k hk; simp; omega⟩

/-- What lies in memory where the loop begins: the counter's box. -/
theorem start_facts (e : Ex) (A : Option Addr) (m c : Nat) (w w0 W0 : World) (hw0 : w0 = (w.alloc (.cells #[.int .i64 e.kind, .string e.name, .slice A m c] 26)).alloc (.cells #[.int .i64 0] 3)) (h : W0 = nodesW w0 e.kind e.name (.slice A m c)) :
    W0.heap.size = w.heap.size + 5 ∧ Below w.heap.size w W0 ∧ Boxed W0 (w.heap.size + 1) 3 (.int .i64 0) ∧ w.heap.size + 1 + 1 = w0.heap.size ∧ Below w.heap.size w w0 := by
  have hs : w0.heap.size = w.heap.size + 2 := by rw [hw0]; simp
  have hb : Below w.heap.size w w0 := by rw [hw0]; exact ((Below.refl _ w).alloc (Nat.le_refl _) _).alloc (by simp) _
  refine ⟨by rw [h, nodesW_size, hs], by rw [h]; exact nodesW_below hb (by omega) _ _ _, ?_, by omega, hb⟩
  have := Boxed.new (w.alloc (.cells #[.int .i64 e.kind, .string e.name, .slice A m c] 26)) 3 (.int .i64 0)
  rw [World.size_alloc, ← hw0] at this
  exact box_on this (by rw [h]; exact nodesW_old _ _ _ (by omega))

set_option maxRecDepth 100000 in
set_option maxHeartbeats 2000000 in
theorem size_in (F : Fence) (n : Nat) (hFw : F = Fence.wide) (hro : F.round = none) (hF : ∀ k, F.fn k) (hn : 9 ≤ n) (e : Ex) (v : Value) (bs : List Nat) (w : World) (hv : ExIs w v e bs) (hb : exSize e ≤ 1099511627776) :
    CallsIn F n Try.prog 33 #[v] w (RetPost (.int .i64 (exSize e : Int)) w) := by
  obtain ⟨u, rfl, hs, hu⟩ := id hv
  obtain ⟨A, c, rfl, hc1, hc2, -⟩ := id hu
  have HV := Lib.hid hv
  have HN := Lib.hid (nodes_len e)
  have h1 : 1 ≤ n := by omega
  have HFW := Lib.hid hFw
  obtain ⟨m, hm⟩ : ∃ m, m = e.args.length := ⟨_, rfl⟩
  rw [← hm] at HV hc1 ⊢
  have HM := Lib.hid hm
  clear hv hu hFw hm
  refine callsIn_of_wp_marks Try.func33 rfl (hF _) ?_ hro
  simp only [Try.ntmps33, List.size_toArray, List.length_cons, List.length_nil, Nat.reduceAdd, Nat.reduceSub, Array.replicate_succ, Array.replicate_zero, List.push_toArray, List.append_toArray, List.nil_append, List.cons_append]
  gi_wp2_with (gi_at_call 81; refine (nodesOf_in F (n - 1) hF hro (by omega) _ _ _ _ _ _).mono ?_; rintro e w' ⟨rfl, rfl⟩)
  obtain ⟨w0, hw0⟩ : ∃ w0, w0 = ((w.alloc (.cells #[.int .i64 e.kind, .string e.name, .slice A m c] 26)).alloc (.cells #[.int .i64 0] 3)) := ⟨_, rfl⟩
  rw [← hw0]
  obtain ⟨W0, hW0⟩ : ∃ W0, W0 = nodesW w0 e.kind e.name (.slice A m c) := ⟨_, rfl⟩
  rw [← hW0]
  have HX := Lib.hid (start_facts e A m c w w0 W0 hw0 hW0)
  have HW0 := Lib.hid hW0
  clear hW0 hw0
  have hx1 := HX.out.1
  refine wpIn_rangeFunc_frame hro h1 (gf := 128) (lb := nodesLb (w.heap.size + 1 + 1)) rfl (hF _) (enters_of Try.func128 (by kernel_rfl) rfl)
    (nodes_stops F (n - 1) HFW.out hro hF (by omega) w e (.slice A m c) bs HV.out hb (w.heap.size + 1 + 1) w0 W0 HX.out.2.2.2.1 HW0.out HX.out.2.2.2.2) (Below.refl _ _) (by omega) (by simp; omega) (fun _ => rfl)
    (CountI (w.heap.size + 1) List.length) (fun _ _ _ _ => False) (count_foot _ _) (fun _ _ _ _ _ h _ _ => h) [w.heap.size + 1] (fun k hk => by simp at hk; subst hk; simp; omega) ⟨rfl, HX.out.2.2.1⟩
    (fun ks x a2 Fp X => a2 = { tmps := #[.agg #[.int .i64 e.kind, .string e.name, .slice A m c], .pointer (some ⟨w.heap.size, 0, none⟩), .int .i64 0, .pointer (some ⟨w.heap.size + 1, 0, none⟩), .agg #[.int .i64 e.kind, .string e.name, .slice A m c], nodesFun (w.heap.size + 1 + 1), x.val, undef, undef, undef], defers := [] } ∧ CountI (w.heap.size + 1) List.length ks Fp X) (fun ks x a2 => fun Fp X Y h hs hk => ⟨h.1, count_foot _ _ ks Fp X Y h.2 hs hk⟩) ?assign ?body ?done ?stop
  case assign =>
    intro l pre x Fp X K hI hFp hFr hK
    gi_wp2
    exact hK _ _ _ (Fr.refl _ _) (fun k hk => ⟨Or.inl hk, (hFp k hk).2⟩) ⟨by simp, hI⟩
  case body =>
    rintro l pre x _ Fp X ⟨rfl, rfl, hB⟩ hFp hFr hlen
    have hc := hB.cell
    have hf := hB.frozen
    have hl := hB.lt
    have HB := Lib.hid hB
    have hp : (pre.length : Int) ≤ 1099511627776 := by omega
    clear hB
    gi_wp2
    refine ⟨[w.heap.size + 1], Fr.set _ _ _ (by simp), fun k hk => ?_, rfl, ?_⟩
    · simp at hk; subst hk; simp [World.setCell]; exact hl
    · have := HB.out.set (.int .i64 ((pre.length : Int) + 1))
      simpa using this
  case done =>
    rintro D ks Fp X hD hDF hFl hS ⟨rfl, hB⟩ hFr hK
    have hlen : ks.length = exSize e := by rw [← HN.out, ← hS, List.length_map]
    rw [hlen] at hB
    have hc := hB.cell
    have HB := Lib.hid hB
    have HK := Lib.hid hK
    have HFR := Lib.hid hFr
    clear hB hK hFr hlen hS
    gi_wp2
    refine ⟨by simp, .inl ⟨_, _, rfl, run_takeDeferred HK.out, ?_⟩⟩
    exact ⟨_, results_tmp rfl _ _ _, rfl, (HX.out.2.1.trans (HFR.out.below (by simp; omega) (by omega))).trans ((Fr.put (S := [D]) X _ _ (by simp)).below (by simp; omega) (by have := HFR.out.size; omega))⟩
  case stop =>
    rintro D c pre Fp X _ _ _ _ h _ _
    exact h.elim
theorem own_size (e : Ex) (v : Value) (bs : List Nat) (w : World) (hv : ExIs w v e bs) (hb : exSize e ≤ 1099511627776) : Calls Try.prog 33 #[v] w (RetPost (.int .i64 (exSize e : Int)) w) :=
  callsIn_wide.1 (size_in Fence.wide 9 rfl rfl (fun _ => trivial) (Nat.le_refl _) e v bs w hv hb)
end Go.Proofs.Ytbnghkgfbjipdaa

namespace Go.Proofs.Ytbnghkgfbjipdaa
open Go Go.RowKit Go.Shelf
attribute [local go_sem] Oper.semAt_some

theorem cells_items {w W : World} (hb : Below w.heap.size w W) : ∀ zs : List (It w), CellsOf W (zs.map It.ex) (flat zs) (zs.flatMap It.bs) := by
  intro zs
  induction zs with
  | nil => exact ⟨rfl, rfl⟩
  | cons z r ih => exact ⟨z.1.2.2.1, z.bs, flat r, r.flatMap It.bs, rfl, rfl, z.2.below hb, ih⟩
theorem exSizes_map_perm {l m : List Ex} (h : l.Perm m) : exSizes l = exSizes m := by
  induction h with
  | nil => rfl
  | cons x _ ih => rw [exSizes, exSizes, ih]
  | swap x y l => rw [exSizes, exSizes, exSizes, exSizes]; omega
  | trans _ _ h1 h2 => rw [h1, h2]
theorem exSizes_filter {w : World} (p : It w → Bool) (l : List (It w)) : exSizes ((l.filter p).map It.ex) ≤ exSizes (l.map It.ex) := by
  induction l with
  | nil => exact Nat.le_refl _
  | cons x r ih =>
    by_cases h : p x = true
    · rw [List.filter_cons_of_pos h, List.map_cons, List.map_cons, exSizes, exSizes]; omega
    · rw [List.filter_cons_of_neg h, List.map_cons, exSizes]; omega
theorem filter_sub {w : World} (p : It w → Bool) (l : List (It w)) : List.Sublist ((l.filter p).flatMap It.bs) (l.flatMap It.bs) := by
  induction l with
  | nil => exact List.Sublist.refl _
  | cons x r ih =>
    by_cases h : p x = true
    · rw [List.filter_cons_of_pos h, List.flatMap_cons, List.flatMap_cons]; exact (List.Sublist.refl _).append ih
    · rw [List.filter_cons_of_neg h, List.flatMap_cons]; exact ih.trans (List.sublist_append_right _ _)
theorem flat_filter {w : World} (p : It w → Bool) (l : List (It w)) (h : (l.flatMap It.bs).Nodup) : ((l.filter p).flatMap It.bs).Nodup ∧ ∀ x ∈ (l.filter p).flatMap It.bs, x ∈ l.flatMap It.bs := by
  refine ⟨List.Sublist.nodup (filter_sub p l) h, fun x hx => ?_⟩
  · obtain ⟨y, hy, hz⟩ := List.mem_flatMap.1 hx
    exact List.mem_flatMap.2 ⟨y, (List.mem_filter.1 hy).1, hz⟩
/-- What has arguments, as the arguments of one expression. -/
theorem whole_is {w w2 : World} {its zs : List (It w)} {AO : Option Addr} {co : Nat} (hp : zs.Perm (its.filter hasP)) (hr : w2.ownsRow w.heap.size 26 3 (.slice AO zs.length co) zs.length (flat zs)) (hb : Below w.heap.size w w2) (hnd : (its.flatMap It.bs).Nodup) (hfr : ∀ y ∈ its, ∀ x ∈ y.bs, FreeB w x) (hsz : exSizes (its.map It.ex) + 1 ≤ 1099511627776) :
    ∃ bs, ExIs w2 (.agg #[.int .i64 0, .string ⟨#[]⟩, .slice AO zs.length co]) (.mk 0 ⟨#[]⟩ (zs.map It.ex)) bs ∧ bs.Nodup ∧ (∀ z ∈ bs, FreeB w2 z) ∧ exSize (.mk 0 ⟨#[]⟩ (zs.map It.ex)) ≤ 1099511627776 ∧ (bs = [] ∨ ∃ g, bs = g :: zs.flatMap It.bs ∧ w.heap.size ≤ g ∧ g < w2.heap.size) := by
  have hc := cells_items hb zs
  have hl : (zs.map It.ex).length = zs.length := by simp
  have h1 : (zs.flatMap It.bs).Nodup := ((hp.flatMap_right It.bs).nodup_iff).2 (flat_filter hasP its hnd).1
  have h2 : ∀ x ∈ zs.flatMap It.bs, FreeB w x := fun x hx => by
    obtain ⟨y, hy, hz⟩ := List.mem_flatMap.1 hx
    exact hfr y (List.mem_filter.1 (hp.subset hy)).1 x hz
  have h3 : exSize (.mk 0 ⟨#[]⟩ (zs.map It.ex)) ≤ 1099511627776 := by
    rw [exSize, exSizes_map_perm (hp.map It.ex)]
    have := exSizes_filter hasP its
    omega
  have h4 : ∀ x, FreeB w x → FreeB w2 x := fun x hx => hx.on (hb.block x hx.lt)
  have hr0 := hr
  rcases hr0.2 with ⟨hv, h0⟩ | ⟨g, cap, cur, hv, hg, hgb, hn1, hn2, -⟩
  · have h0' : zs = [] := List.eq_nil_of_length_eq_zero h0
    subst h0'
    refine ⟨[], ⟨_, rfl, (by show ByteArray.size ⟨#[]⟩ ≤ _; decide), AO, co, rfl, Nat.zero_le _, ?_, Or.inl ⟨rfl, rfl⟩⟩, List.nodup_nil, (fun z hz => by cases hz), h3, Or.inl rfl⟩
    cases hv; omega
  · cases hv
    have hlt : g < w2.heap.size := (Array.getElem?_eq_some_iff.1 hgb).1
    refine ⟨g :: zs.flatMap It.bs, ⟨_, rfl, (by show ByteArray.size ⟨#[]⟩ ≤ _; decide), some ⟨g, 0, none⟩, co, (by show _ = Value.slice _ (zs.map It.ex).length _; rw [hl]), (by show (zs.map It.ex).length ≤ _; rw [hl]; exact hn1), by unfold maxLen at hn2; omega, Or.inr ⟨g, 0, _, rfl, hlt, rfl, hc.exs 0 (fun j u hj => ?_)⟩⟩, ?_, ?_, h3, Or.inr ⟨g, rfl, hg, hlt⟩⟩
    · have h5 := hr.cells (g := g) rfl j u hj
      rw [show (⟨g, 0, none⟩ : Addr).add j = ⟨g, 0 + 0 * 3 + j, none⟩ by unfold Addr.add; split <;> simp_all] at h5
      exact h5
    · rw [List.nodup_cons]
      exact ⟨fun hm => by have := (h2 g hm).lt; omega, h1⟩
    · intro z hz
      rcases List.mem_cons.1 hz with rfl | hz
      · exact FreeB.of_box hgb
      · exact h4 z (h2 z hz)
/-- An item seen from a later world. -/
def up {w W : World} (hb : Below w.heap.size w W) (x : It w) : It W := ⟨x.1, x.2.below hb⟩
theorem heads_up {w W : World} (hb : Below w.heap.size w W) (xs : List (It w)) : heads (xs.map (up hb)) = heads xs := by
  unfold heads
  rw [List.flatMap_map]
  rfl
theorem bs_up {w W : World} (hb : Below w.heap.size w W) (xs : List (It w)) : (xs.map (up hb)).flatMap It.bs = xs.flatMap It.bs := by
  rw [List.flatMap_map]
  rfl
/-- What the map holds: the places of what came, with true only where one came twice. -/
def SharedM {wo : World} (n₀ gx ban : Nat) (xs : List (It wo)) (M : List (Value × Value)) : Prop :=
  ∀ x ∈ M, ∃ p : Addr × Nat, x.1 = pkv p ∧ (FreeB wo p.1.block ∧ (p.1.block < n₀ ∨ p.1.block = gx) ∧ p.1.block ≠ ban) ∧ p.1.block ∈ heads xs ∧ (x.2 = .bool false ∨ x.2 = .bool true ∧ ¬ (heads xs).Nodup)
theorem heads_not {wo : World} {xs : List (It wo)} (x : It wo) (h : ¬ (heads xs).Nodup) : ¬ (heads (xs ++ [x])).Nodup := fun h2 => h (by
  rw [heads_snoc] at h2
  exact (List.nodup_append.1 h2).1)
theorem SharedM.skip {wo : World} {n₀ gx ban : Nat} {xs : List (It wo)} {M : List (Value × Value)} (h : SharedM n₀ gx ban xs M) (x : It wo) : SharedM n₀ gx ban (xs ++ [x]) M := fun y hy => by
  obtain ⟨p, h1, h2, h3, h4⟩ := h y hy
  exact ⟨p, h1, h2, by rw [heads_snoc]; exact List.mem_append_left _ h3, h4.imp id (fun h => ⟨h.1, heads_not x h.2⟩)⟩
theorem SharedM.put {wo : World} {n₀ gx ban : Nat} {xs : List (It wo)} {M L2 : List (Value × Value)} (h : SharedM n₀ gx ban xs M) (hn : (M.map Prod.fst).Nodup) {x : It wo} {p : Addr × Nat} (hp : plOf x = some p) (hf : FreeB wo p.1.block ∧ (p.1.block < n₀ ∨ p.1.block = gx) ∧ p.1.block ≠ ban) {v : Value} {has : Bool} (hit : Hits M (pkv p) (.bool false) v has) (h2 : Put M (pkv p) (.bool has) L2) : SharedM n₀ gx ban (xs ++ [x]) L2 := by
  rintro ⟨yk, yv⟩ hy
  rcases (put_mem hn h2 yk yv).1 hy with ⟨rfl, rfl⟩ | ⟨-, hy⟩
  · refine ⟨p, rfl, hf, by rw [heads_snoc]; simp [hdOf, hp], ?_⟩
    cases has with
    | false => exact Or.inl rfl
    | true =>
      refine Or.inr ⟨rfl, fun h5 => ?_⟩
      rcases hit with ⟨h6, -⟩ | ⟨-, -, h6⟩
      · obtain ⟨q, e, -, h7, -⟩ := h _ h6
        have e2 : p = q := pkv_inj e
        subst e2
        rw [heads_snoc, List.nodup_append] at h5
        exact h5.2.2 _ h7 p.1.block (by simp [hdOf, hp]) rfl
      · cases h6
  · exact h.skip x _ hy
def ShI {wo : World} {n₀ gx ban : Nat} (B sb : Nat) (pre : List (Fi wo n₀ gx ban)) (Fp : List Nat) (W : World) : Prop :=
  Fp = [B, sb, gx] ∧ B ≠ sb ∧ W.heap[gx]? = wo.heap[gx]? ∧ Boxed W B 78 (.map (some sb)) ∧ ∃ M, MapIs W sb M ∧ SharedM n₀ gx ban (pre.map (·.1)) M
theorem shi_foot {wo : World} {n₀ gx ban : Nat} (B sb : Nat) (pre : List (Fi wo n₀ gx ban)) : Foot (ShI B sb pre) := by
  rintro Fp X Y ⟨rfl, hne, h0, h1, M, h2, h3⟩ _ hk
  exact ⟨rfl, hne, (hk gx (by simp)).trans h0, box_on h1 (hk B (by simp)), M, h2.on (hk sb (by simp)), h3⟩
/-- The node of a round lies in a box of its own. -/
def Fied {wo : World} {n₀ gx ban : Nat} (I : List (Fi wo n₀ gx ban) → List Nat → World → Prop) (tm : Nat → Fi wo n₀ gx ban → Array Value) (ks : List (Fi wo n₀ gx ban)) (x : Fi wo n₀ gx ban) (a : Act) (Fp : List Nat) (X : World) : Prop := ∃ nb Fp0, Fp = nb :: Fp0 ∧ X.heap[nb]? = some (.cells #[.int .i64 x.1.ex.kind, .string x.1.ex.name, x.1.1.2.2.1] 26 (0, 0)) ∧ nb ∉ Fp0 ∧ I ks Fp0 X ∧ a = { tmps := tm nb x, defers := [] }
theorem fied_foot {wo : World} {n₀ gx ban : Nat} {I : List (Fi wo n₀ gx ban) → List Nat → World → Prop} (hI : ∀ ks, Foot (I ks)) (tm : Nat → Fi wo n₀ gx ban → Array Value) (ks : List (Fi wo n₀ gx ban)) (x : Fi wo n₀ gx ban) (a : Act) : Foot (Fied I tm ks x a) := by
  rintro Fp X Y ⟨nb, Fp0, rfl, h1, h2, h3, h4⟩ hs hk
  exact ⟨nb, Fp0, rfl, (hk nb (by simp)).trans h1, h2, hI ks Fp0 X Y h3 hs (fun k h => hk k (by simp [h])), h4⟩
theorem fied_new {wo : World} {n₀ gx ban : Nat} {I : List (Fi wo n₀ gx ban) → List Nat → World → Prop} (hI : ∀ ks, Foot (I ks)) {tm : Nat → Fi wo n₀ gx ban → Array Value} {ks : List (Fi wo n₀ gx ban)} {x : Fi wo n₀ gx ban} {Fp : List Nat} {X : World} (h : I ks Fp X) (hFp : ∀ k ∈ Fp, k < X.heap.size) {u : Value} (hu : x.1.1.2.2.1 = u) {a : Act} (ha : a = { tmps := tm X.heap.size x, defers := [] }) :
    Fr Fp X (X.alloc (.cells #[.int .i64 x.1.ex.kind, .string x.1.ex.name, u] 26)) ∧ (∀ k ∈ X.heap.size :: Fp, (k ∈ Fp ∨ X.heap.size ≤ k) ∧ k < (X.alloc (.cells #[.int .i64 x.1.ex.kind, .string x.1.ex.name, u] 26)).heap.size) ∧ Fied I tm ks x a (X.heap.size :: Fp) (X.alloc (.cells #[.int .i64 x.1.ex.kind, .string x.1.ex.name, u] 26)) := by
  subst hu
  refine ⟨Fr.alloc _ _, fun k hk => ?_, X.heap.size, Fp, rfl, World.alloc_heap_new X _, fun hm => by have := hFp _ hm; omega, hI ks Fp X _ h (by simp) (fun k hk => Below.heap_alloc X _ k (hFp k hk)), ha⟩
  rcases List.mem_cons.1 hk with rfl | hk
  · exact ⟨Or.inr (Nat.le_refl _), by simp⟩
  · exact ⟨Or.inl hk, by have := hFp k hk; simp; omega⟩
set_option maxRecDepth 100000 in
set_option maxHeartbeats 2000000 in
theorem shared_in (F : Fence) (n : Nat) (hFw : F = Fence.wide) (hro : F.round = none) (hF : ∀ k, F.fn k) (hn : 9 ≤ n) (cb mb : Nat) (M : List (Value × Value)) (w : World) (ys : List (It w)) (ez : It w) (hM : M.map Prod.snd = ys.map It.val) (hc : w.cell? ⟨cb, 0, none⟩ = some (.map (some mb))) (hm : MapSt w mb M) (hsz : exSizes ((ys ++ [ez]).map It.ex) + 1 ≤ 1099511627776) (hnd : ((ys ++ [ez]).flatMap It.bs).Nodup) (hhd : (heads (ys ++ [ez])).Nodup) (hfr : ∀ y ∈ ys ++ [ez], ∀ x ∈ y.bs, FreeB w x) (hcb : ∀ y ∈ ys ++ [ez], ∀ x ∈ y.bs, x ≠ cb) :
    CallsIn F n Try.prog 65 #[.pointer (some ⟨cb, 0, none⟩), ez.val] w (fun r w2 => ∃ (sb : Nat) (S : List (Value × Value)), r = .returned (.map (some sb)) ∧ MapIs w2 sb S ∧ w.heap.size ≤ sb ∧ (∀ x ∈ S, ∃ p : Addr × Nat, x = (pkv p, .bool false) ∧ FreeB w2 p.1.block ∧ p.1.block ≠ cb) ∧ Below w.heap.size w w2) := by
  have h1 : 1 ≤ n := by omega
  have hcl : cb < w.heap.size := World.block_lt_of_cell? w _ hc
  have hmk : ∀ w : World, (Instr.makeMap 78 none).run Try.prog w = .ok (.map (some w.heap.size)) (w.alloc (.map #[] 0)) := fun w => by simp [Instr.makeMap]
  have hlen : ys.length + 1 ≤ 1099511627776 := by
    have := sizes_len ((ys ++ [ez]).map It.ex)
    simp at this hsz
    omega
  obtain ⟨A, c, eu, -, -, hcc⟩ := ez.slice
  obtain ⟨m, hm0⟩ : ∃ m, m = ez.ex.args.length := ⟨_, rfl⟩
  rw [← hm0] at eu
  have hval : ez.val = .agg #[.int .i64 ez.ex.kind, .string ez.ex.name, .slice A m c] := by rw [← eu]; rfl
  rw [hval]
  obtain ⟨W0, hW0⟩ : ∃ W, W = ((w.alloc (.cells #[.int .i64 ez.ex.kind, .string ez.ex.name, .slice A m c] 26)).alloc (.map #[] 0)).alloc (.cells #[.map (some (w.heap.size + 1))] 78) := ⟨_, rfl⟩
  have h0 : Below w.heap.size w W0 ∧ W0.heap.size = w.heap.size + 3 ∧ Boxed W0 (w.heap.size + 2) 78 (.map (some (w.heap.size + 1))) ∧ MapIs W0 (w.heap.size + 1) [] := by
    have b2 := MapIs.made (w.alloc (.cells #[.int .i64 ez.ex.kind, .string ez.ex.name, .slice A m c] 26))
    have b3 := Boxed.new ((w.alloc (.cells #[.int .i64 ez.ex.kind, .string ez.ex.name, .slice A m c] 26)).alloc (.map #[] 0)) 78 (.map (some (w.heap.size + 1)))
    simp only [World.size_alloc] at b2 b3
    rw [hW0]
    exact ⟨(((Below.refl _ w).alloc (Nat.le_refl _) _).alloc (by simp) _).alloc (by simp; omega) _, by simp, b3, b2.on (Below.heap_alloc _ _ _ (by simp))⟩
  have HWH := Lib.hid (show CallsIn F (n - 1) Try.prog 96 #[.pointer (some ⟨cb, 0, none⟩), .agg #[.int .i64 ez.ex.kind, .string ez.ex.name, .slice A m c]] W0 (fun r w1 => ∃ (nz : Nat) (AO : Option Addr) (co : Nat) (e1 : Ex) (bs : List Nat) (gx : Nat), r = .returned (.slice AO nz co) ∧ e1.kind = 0 ∧ e1.name = ⟨#[]⟩ ∧ ExIs w1 (.agg #[.int .i64 0, .string ⟨#[]⟩, .slice AO nz co]) e1 bs ∧ bs.Nodup ∧ (∀ z ∈ bs, FreeB w1 z) ∧ exSize e1 ≤ 1099511627776 ∧ (∀ z ∈ bs, z < w.heap.size ∨ z = gx) ∧ (∀ z ∈ bs, z ≠ cb) ∧ w.heap.size ≤ gx ∧ gx < w1.heap.size ∧ gx ≠ w.heap.size + 1 ∧ gx ≠ w.heap.size + 2 ∧ Below W0.heap.size W0 w1) from by
    have hw := own_wholes cb mb M W0 (ys.map (up h0.1)) (up h0.1 ez) (by rw [hM, List.map_map]; rfl) ((h0.1.cell hcl).trans hc) (hm.on (h0.1.block _ hm.is.lt)) (by simpa using hlen) (by rw [← List.map_singleton, ← List.map_append, heads_up]; exact hhd) (by
      intro y hy x hx
      rw [← List.map_singleton, ← List.map_append] at hy
      obtain ⟨y0, hy0, rfl⟩ := List.mem_map.1 hy
      have h5 := hfr y0 hy0 x hx
      exact h5.on (h0.1.block x h5.lt))
    rw [show (up h0.1 ez).val = ez.val from rfl, hval] at hw
    refine (wide_in hFw hw).mono ?_
    rintro r w1 ⟨zs, AO, co, hp, rfl, hr, hb⟩
    obtain ⟨bs, q1, q2, q3, q4, q5⟩ := whole_is hp hr hb (by rw [← List.map_singleton, ← List.map_append, bs_up]; exact hnd) (by
      intro y hy x hx
      rw [← List.map_singleton, ← List.map_append] at hy
      obtain ⟨y0, hy0, rfl⟩ := List.mem_map.1 hy
      have h5 := hfr y0 hy0 x hx
      exact h5.on (h0.1.block x h5.lt)) (by rw [← List.map_singleton, ← List.map_append, List.map_map]; exact hsz)
    have hfo : ∀ x ∈ zs.flatMap It.bs, x < w.heap.size ∧ x ≠ cb := fun x hx => by
      obtain ⟨y, hy, hz⟩ := List.mem_flatMap.1 hx
      have hy2 := (List.mem_filter.1 (hp.subset hy)).1
      rw [← List.map_singleton, ← List.map_append] at hy2
      obtain ⟨y0, hy0, rfl⟩ := List.mem_map.1 hy2
      exact ⟨(hfr y0 hy0 x hz).lt, hcb y0 hy0 x hz⟩
    rcases q5 with rfl | ⟨g, rfl, hg1, hg2⟩
    · exact ⟨zs.length, AO, co, _, [], w.heap.size, rfl, rfl, rfl, q1, q2, q3, q4, (fun z hz => by cases hz), (fun z hz => by cases hz), Nat.le_refl _, by have := hb.size; omega, by omega, by omega, hb⟩
    · exact ⟨zs.length, AO, co, _, _, g, rfl, rfl, rfl, q1, q2, q3, q4, (fun z hz => (List.mem_cons.1 hz).elim Or.inr (fun h => Or.inl (hfo z h).1)), (fun z hz => (List.mem_cons.1 hz).elim (fun h => by omega) (fun h => (hfo z h).2)), by omega, hg2, by omega, by omega, hb⟩)
  have HW0 := Lib.hid hW0
  have HW := Lib.hid h0
  have HFW := Lib.hid hFw
  clear hM hc hm hnd hhd hfr hcb hsz hlen hW0 h0 hFw hval eu hm0
  generalize ez.ex.kind = K at *
  generalize ez.ex.name = S at *
  refine callsIn_of_wp_marks Try.func65 rfl (hF _) ?_ hro
  simp only [Try.ntmps65, List.size_toArray, List.length_cons, List.length_nil, Nat.reduceAdd, Nat.reduceSub, Array.replicate_succ, Array.replicate_zero, List.push_toArray, List.append_toArray, List.nil_append, List.cons_append]
  gi_wp2_with (first
    | (gi_at_call 96; rw [← HW0.out]; refine HWH.out.mono ?_; rintro r w1 ⟨nz, AO, co, e1, bs, gx, rfl, hk1, hs1, hx1⟩; have HX1 := Lib.hid (And.intro hk1 (And.intro hs1 hx1)); clear hk1 hs1 hx1)
    | (gi_at_call 95; refine (nodesOnce_in F (n - 1) hF hro (by omega) _ _ _ _ _ _).mono ?_; rintro e w' ⟨rfl, rfl⟩))
  obtain ⟨W2, hW2⟩ : ∃ W, W = onceW w1 0 ⟨#[]⟩ (.slice AO nz co) := ⟨_, rfl⟩
  rw [← hW2]
  obtain ⟨hk1, hs1, hx1, hnd1, hfr1, hsz1, hbs1, hban1, hg1, hg2, hg3, hg4, hb1⟩ := HX1.out
  have h2s : W2.heap.size = w1.heap.size + 5 := by rw [hW2, onceW_size]
  have h1s := hb1.size
  have hws := HW.out.2.1
  have hb2 : Below w1.heap.size w1 W2 := by rw [hW2]; exact onceW_below (Below.refl _ _) (Nat.le_refl _) _ _ _
  have hbx2 : Boxed W2 (w.heap.size + 1 + 1) 78 (.map (some (w.heap.size + 1))) := box_on HW.out.2.2.1 ((hb2.block _ (by omega)).trans (hb1.block _ (by omega)))
  have hmp2 : MapIs W2 (w.heap.size + 1) [] := HW.out.2.2.2.on ((hb2.block _ (by omega)).trans (hb1.block _ (by omega)))
  have hxe : ExIs w1 (.agg #[.int .i64 e1.kind, .string e1.name, .slice AO nz co]) e1 bs := by rw [hk1, hs1]; exact hx1
  have HXE := Lib.hid hxe
  have HLW := Lib.hid (show Below w.heap.size w W2 from HW.out.1.trans ((hb1.trans (hb2.mono hb1.size)).mono HW.out.1.size))
  have HB1 := Lib.hid (And.intro h2s (And.intro h1s (And.intro hws (And.intro hg1 (And.intro hg2 (And.intro hg3 hg4))))))
  refine wpIn_rangeFunc_frameQ hro h1 (gf := 128) (lb := onceLb w1.heap.size) rfl (hF _) (enters_of Try.func128 (by kernel_rfl) rfl)
    (uniq_stops F (n - 1) HFW.out hro hF (by omega) w1 e1 (.slice AO nz co) bs HXE.out w.heap.size gx cb hbs1 hban1 hsz1 hfr1 hnd1 w1.heap.size w1 W2 rfl (by rw [hk1, hs1]; exact hW2) (Below.refl _ _) hg1 hg2) (Below.refl _ _) (by omega) (fun k hk => by simp at hk; rcases hk with rfl | rfl | rfl <;> omega) (fun _ => rfl)
    (ShI (w.heap.size + 1 + 1) (w.heap.size + 1)) (fun pre Fp W h => h.2.2.1) (fun _ _ _ _ => False) (shi_foot _ _) (fun _ _ _ _ _ h _ _ => h) (fun _ _ _ _ h => h.elim) [w.heap.size + 1 + 1, w.heap.size + 1, gx] (fun k hk => by simp at hk ⊢; rcases hk with rfl | rfl | rfl <;> omega) ⟨rfl, by omega, hb2.block _ hg2, hbx2, [], hmp2, (fun x hx => by cases hx)⟩
    (Fied (ShI (w.heap.size + 1 + 1) (w.heap.size + 1)) (fun nb x => #[.pointer (some ⟨cb, 0, none⟩), .agg #[.int .i64 K, .string S, .slice A m c], undef, .pointer (some ⟨w.heap.size, 0, none⟩), .map none, .pointer (some ⟨w.heap.size + 1 + 1, 0, none⟩), .pointer (some ⟨nb, 0, none⟩), undef, undef, undef, .map (some (w.heap.size + 1)), .pointer (some ⟨cb, 0, none⟩), .agg #[.int .i64 K, .string S, .slice A m c], .slice AO nz co, .agg #[.int .i64 0, .string ⟨#[]⟩, .slice AO nz co], onceFun w1.heap.size, x.1.val, undef, undef, undef, undef, undef, undef, undef, undef, undef, undef, undef, undef, undef, undef, undef, undef, undef])) (fied_foot (shi_foot _ _) _) ?assign ?body ?done ?stop
  case assign =>
    intro l pre x Fp X KX hI hFp hFr hK
    obtain ⟨A2, c2, hu2, -, -, -⟩ := x.1.slice
    have hv : x.1.val = .agg #[.int .i64 x.1.ex.kind, .string x.1.ex.name, .slice A2 x.1.ex.args.length c2] := by rw [← hu2]; rfl
    have HI2 := Lib.hid hI
    have HU2 := Lib.hid hu2
    have HV2 := Lib.hid hv
    have HFP := Lib.hid hFp
    have HKX := Lib.hid hK
    dsimp only
    rw [hv]
    clear hu2 hv hI hFp hFr hK hk1 hs1 hx1 hnd1 hfr1 hsz1 hbs1 hban1 hg1 hg2 hg3 hg4 hb1 h2s h1s hws hb2 hbx2 hmp2 hxe hW2
    gi_wp2
    obtain ⟨q1, q2, q3⟩ := fied_new (shi_foot _ _) (tm := (fun nb x => #[.pointer (some ⟨cb, 0, none⟩), .agg #[.int .i64 K, .string S, .slice A m c], undef, .pointer (some ⟨w.heap.size, 0, none⟩), .map none, .pointer (some ⟨w.heap.size + 1 + 1, 0, none⟩), .pointer (some ⟨nb, 0, none⟩), undef, undef, undef, .map (some (w.heap.size + 1)), .pointer (some ⟨cb, 0, none⟩), .agg #[.int .i64 K, .string S, .slice A m c], .slice AO nz co, .agg #[.int .i64 0, .string ⟨#[]⟩, .slice AO nz co], onceFun w1.heap.size, x.1.val, undef, undef, undef, undef, undef, undef, undef, undef, undef, undef, undef, undef, undef, undef, undef, undef, undef])) HI2.out (fun k hk => (HFP.out k hk).2) HU2.out rfl
    refine HKX.out _ _ _ q1 q2 ?_
    exact (by simpa only [HV2.out] using q3)
  case body =>
    rintro l pre x _ Fp X ⟨nb, _, rfl, hnx, hnb, ⟨rfl, hne, hgc, hB, M2, hM2, hSM⟩, rfl⟩ hFp hFr hlen
    have hn3 : 1 ≤ n - 1 - 1 := by omega
    obtain ⟨A2, c2, hu2, -, hc21, hc22⟩ := x.1.slice
    obtain ⟨q2, hq2⟩ : ∃ q2, q2 = x.1.ex.args.length := ⟨_, rfl⟩
    rw [← hq2] at hu2 hc21
    rw [hu2] at hnx
    obtain ⟨hp0, hp1⟩ := plOf_slice hu2
    have hn0 : X.cell? ⟨nb, 0, none⟩ = some (.int .i64 x.1.ex.kind) := by simp [World.cell?, hnx]
    have hn1 : X.cell? ⟨nb, 1, none⟩ = some (.string x.1.ex.name) := by simp [World.cell?, hnx]
    have hn2 : X.cell? ⟨nb, 2, none⟩ = some (.slice A2 q2 c2) := by simp [World.cell?, hnx]
    have hnl : nb < X.heap.size := (Array.getElem?_eq_some_iff.1 hnx).1
    by_cases h0 : q2 = 0
    · have HEND := Lib.hid (show ShI (w.heap.size + 1 + 1) (w.heap.size + 1) (pre ++ [x]) [w.heap.size + 1 + 1, w.heap.size + 1, gx] X from ⟨rfl, hne, hgc, hB, M2, hM2, by rw [List.map_append]; exact hSM.skip _⟩)
      have HL := Lib.hid (And.intro hB.lt (And.intro hM2.lt (show gx < X.heap.size by have := hFr.size; omega)))
      clear hk1 hs1 hx1 hnd1 hfr1 hsz1 hbs1 hban1 hg1 hg2 hg3 hg4 hb1 h2s h1s hws hb2 hbx2 hmp2 hxe hW2 hc21 hc22 hp0 hp1 hq2 hu2 hnx hB hM2 hSM hgc hne hFp hFr hlen hnb
      subst h0
      gi_wp2
      exact ⟨_, Fr.refl _ _, fun k hk => by
        have h5 := HL.out
        simp at hk
        rcases hk with rfl | rfl | rfl
        · exact ⟨Or.inl (by simp), h5.1⟩
        · exact ⟨Or.inl (by simp), h5.2.1⟩
        · exact ⟨Or.inl (by simp), h5.2.2⟩, HEND.out⟩
    · obtain ⟨p, hp⟩ : ∃ p, plOf x.1 = some p := by
        cases hpl : plOf x.1 with
        | some p => exact ⟨p, rfl⟩
        | none => exact absurd (by rw [hq2, plOf_none hpl]; rfl) h0
      obtain ⟨g, o, c3, b3, rfl, e3, -, -, -, -⟩ := plOf_some hp
      rw [hu2] at e3
      obtain rfl : A2 = some ⟨g, o, none⟩ := by injection e3
      clear e3
      have hfree : FreeB w1 g ∧ (g < w.heap.size ∨ g = gx) ∧ g ≠ cb := by
        obtain ⟨b0, hb0⟩ := plOf_head hp
        exact x.2 g (by rw [hb0]; simp)
      have hbX : Below w1.heap.size w1 W2 := hb2
      have hfX : ∀ z, FreeB w1 z → (z < w.heap.size ∨ z = gx) → FreeB X z := fun z hz hzg => by
        refine hz.on ?_
        rcases hzg with h | rfl
        · exact (hFr.block z (by omega) (by simp; omega)).trans (hb2.block z hz.lt)
        · exact hgc
      have hc := hB.cell
      have hBl := hB.lt
      have hkey : pkv (⟨g, o, none⟩, x.1.ex.args.length) = .agg #[.pointer (some ⟨g, o, none⟩), .int .i64 (q2 : Int)] := by rw [hq2]; rfl
      have one : ∀ Y, Below X.heap.size X Y → MapIs (Y.alloc (.cells #[.pointer (some ⟨g, o, none⟩), .int .i64 (q2 : Int)] 129)) (w.heap.size + 1) M2 ∧ (∀ x ∈ M2, PlaceK (Y.alloc (.cells #[.pointer (some ⟨g, o, none⟩), .int .i64 (q2 : Int)] 129)) x.1) ∧ PlaceK (Y.alloc (.cells #[.pointer (some ⟨g, o, none⟩), .int .i64 (q2 : Int)] 129)) (.agg #[.pointer (some ⟨g, o, none⟩), .int .i64 (q2 : Int)]) ∧ ∃ v has, Hits M2 (.agg #[.pointer (some ⟨g, o, none⟩), .int .i64 (q2 : Int)]) (.bool false) v has ∧ (Instr.lookup 78 (.map (some (w.heap.size + 1))) (.agg #[.pointer (some ⟨g, o, none⟩), .int .i64 (q2 : Int)]) true).run Try.prog (Y.alloc (.cells #[.pointer (some ⟨g, o, none⟩), .int .i64 (q2 : Int)] 129)) = .ok (.tuple #[v, .bool has]) (Y.alloc (.cells #[.pointer (some ⟨g, o, none⟩), .int .i64 (q2 : Int)] 129)) := fun Y hY => by
        obtain ⟨Z, hZ⟩ : ∃ Z, Z = (Y.alloc (.cells #[.pointer (some ⟨g, o, none⟩), .int .i64 (q2 : Int)] 129)) := ⟨_, rfl⟩
        rw [← hZ]
        have hbz : Below X.heap.size X Z := by rw [hZ]; exact hY.alloc hY.size _
        have hmz : MapIs Z (w.heap.size + 1) M2 := hM2.on (hbz.block _ hM2.lt)
        have hfz : ∀ z, FreeB w1 z → (z < w.heap.size ∨ z = gx) → FreeB Z z := fun z h5 h6 => (hfX z h5 h6).on (hbz.block z (hfX z h5 h6).lt)
        have hkk : ∀ x ∈ M2, PlaceK Z x.1 := fun y hy => by
          obtain ⟨q, e, hq, -, -⟩ := hSM y hy
          exact ⟨q.1, (q.2 : Int), e, hfz _ hq.1 hq.2.1⟩
        have hpk : PlaceK Z (.agg #[.pointer (some ⟨g, o, none⟩), .int .i64 (q2 : Int)]) := ⟨_, _, rfl, hfz g hfree.1 hfree.2.1⟩
        obtain ⟨v, has, hrun, hit⟩ := hmz.look (placeT Z) Try.underlying78 (zeroB Z) hpk hkk
        have hr2 := hrun true
        simp only [if_true] at hr2
        exact ⟨hmz, hkk, hpk, v, has, hit, hr2⟩
      obtain ⟨-, -, -, v0, has, hit, -⟩ := one X (Below.refl _ _)
      have hndk : (M2.map Prod.fst).Nodup := by
        obtain ⟨es, clock, -, -, hnd⟩ := hM2
        exact hnd
      have hput : ∀ L2, Put M2 (.agg #[.pointer (some ⟨g, o, none⟩), .int .i64 (q2 : Int)]) (.bool has) L2 → SharedM w.heap.size gx cb ((pre ++ [x]).map (·.1)) L2 := fun L2 h5 => by
        rw [← hkey] at h5 hit
        rw [List.map_append]
        exact hSM.put hndk hp hfree hit h5
      have HALL := Lib.hid (show ∀ Y, Below X.heap.size X Y → (Instr.lookup 78 (.map (some (w.heap.size + 1))) (.agg #[.pointer (some ⟨g, o, none⟩), .int .i64 (q2 : Int)]) true).run Try.prog (Y.alloc (.cells #[.pointer (some ⟨g, o, none⟩), .int .i64 (q2 : Int)] 129)) = .ok (.tuple #[v0, .bool has]) (Y.alloc (.cells #[.pointer (some ⟨g, o, none⟩), .int .i64 (q2 : Int)] 129)) ∧ MapIs (Y.alloc (.cells #[.pointer (some ⟨g, o, none⟩), .int .i64 (q2 : Int)] 129)) (w.heap.size + 1) M2 ∧ (∀ x ∈ M2, PlaceK (Y.alloc (.cells #[.pointer (some ⟨g, o, none⟩), .int .i64 (q2 : Int)] 129)) x.1) ∧ PlaceK (Y.alloc (.cells #[.pointer (some ⟨g, o, none⟩), .int .i64 (q2 : Int)] 129)) (.agg #[.pointer (some ⟨g, o, none⟩), .int .i64 (q2 : Int)]) ∧
          (∀ (W5 : World) (L2 : List (Value × Value)), MapIs W5 (w.heap.size + 1) L2 → Put M2 (.agg #[.pointer (some ⟨g, o, none⟩), .int .i64 (q2 : Int)]) (.bool has) L2 → (Y.alloc (.cells #[.pointer (some ⟨g, o, none⟩), .int .i64 (q2 : Int)] 129)).grownBy W5 (some (w.heap.size + 1)) → ∃ Fp2, Fr [nb, w.heap.size + 1 + 1, w.heap.size + 1, gx] X W5 ∧ (∀ k ∈ Fp2, (k ∈ [nb, w.heap.size + 1 + 1, w.heap.size + 1, gx] ∨ X.heap.size ≤ k) ∧ k < W5.heap.size) ∧ ShI (w.heap.size + 1 + 1) (w.heap.size + 1) (pre ++ [x]) Fp2 W5) ∧ Y.cell? ⟨w.heap.size + 1 + 1, 0, none⟩ = some (.map (some (w.heap.size + 1))) ∧ w.heap.size + 1 + 1 < Y.heap.size from fun Y hY => by
        obtain ⟨h5, h6, h7, v, has2, h8, h9⟩ := one Y hY
        obtain ⟨rfl, rfl⟩ := Hits.uniq hndk hit h8
        refine ⟨h9, h5, h6, h7, fun W5 L2 h10 h11 h12 => ?_, (hY.cell (p := ⟨w.heap.size + 1 + 1, 0, none⟩) hBl).trans hc, Nat.lt_of_lt_of_le hBl hY.size⟩
        have hbz : Below X.heap.size X (Y.alloc (.cells #[.pointer (some ⟨g, o, none⟩), .int .i64 (q2 : Int)] 129)) := hY.alloc hY.size _
        have hgxl : gx < X.heap.size := by have := hFr.size; omega
        have hgx5 : W5.heap[gx]? = X.heap[gx]? := (h12.block _ (Nat.lt_of_lt_of_le hgxl hbz.size) (fun e => by have := Option.some.inj e; omega)).trans (hbz.block _ hgxl)
        refine ⟨[w.heap.size + 1 + 1, w.heap.size + 1, gx], (Fr.of_below hbz).trans (Fr.grown h12 (fun k e => by cases e; simp)) (fun x hx => Or.inl hx), fun k hk => ?_, rfl, hne, hgx5.trans hgc, box_on hB ((h12.block _ (Nat.lt_of_lt_of_le hBl hbz.size) (fun e => by have := Option.some.inj e; omega)).trans (hbz.block _ hBl)), L2, h10, hput L2 h11⟩
        refine ⟨Or.inl (List.mem_cons_of_mem _ hk), ?_⟩
        have h13 := h12.size
        have h14 := hbz.size
        have h15 := hM2.lt
        simp at hk
        rcases hk with rfl | rfl | rfl <;> omega)
      have hq1 : 0 < q2 := by omega
      have hq1i : (0 : Int) < (q2 : Int) := by omega
      have HPL := Lib.hid (own_place g o q2 c2 X hq1 (by omega))
      clear one hit hndk hput hkey hfX hbX hfree hk1 hs1 hx1 hnd1 hfr1 hsz1 hbs1 hban1 hg1 hg2 hg3 hg4 hb1 h2s h1s hws hb2 hbx2 hmp2 hxe hW2 hc21 hc22 hp0 hp1 hq2 hu2 hnx hB hM2 hSM hgc hne hFp hFr hlen hnb hp h0 hq1
      gi_wp2_with (first
        | (gi_at_call 91; refine (at_wide HFW.out HPL.out l).mono ?_; rintro r w5 ⟨rfl, hb5⟩; obtain ⟨hr5, hmb5, hkk5, hpk5, hn5, hc5, hl5⟩ := HALL.out w5 hb5; have HMB := Lib.hid hmb5; have HKK := Lib.hid hkk5; have HPK := Lib.hid hpk5; have HN := Lib.hid hn5; clear hmb5 hkk5 hpk5 hn5 hb5)
        | (gi_at_mapUpdate; refine asc_put_in _ rfl _ _ _ 78 rfl 129 4 Try.underlying78 (PlaceK _) (placeT _) (w.heap.size + 1) M2 rfl HMB.out _ _ rfl rfl HPK.out HKK.out ?_; intro W5 L2 hm5 hp5 hg5; have HE5 := Lib.hid (HN.out W5 L2 hm5 hp5 hg5); clear hm5 hp5 hg5))
      exact HE5.out
  case done =>
    rintro D ks Fp X hD hDF hFl hS ⟨rfl, hne, hgc, hB, M2, hM2, hSM⟩ hFr hK
    have hc := hB.cell
    have hDl : D < X.heap.size := (Array.getElem?_eq_some_iff.1 hK).1
    have HEND := Lib.hid (show ∀ o, MapIs (X.putObj D o) (w.heap.size + 1) M2 ∧ (∀ x ∈ M2, ∃ p : Addr × Nat, x = (pkv p, .bool false) ∧ FreeB (X.putObj D o) p.1.block ∧ p.1.block ≠ cb) ∧ Below w.heap.size w (X.putObj D o) from fun o => by
      refine ⟨hM2.on (World.putObj_heap_other (by omega)), fun x hx => ?_, ?_⟩
      · obtain ⟨p, e, hq, -, h4⟩ := hSM x hx
        refine ⟨p, Prod.ext e (h4.elim id (fun h => absurd hS h.2)), hq.1.on ?_, hq.2.2⟩
        refine (World.putObj_heap_other (by rcases hq.2.1 with h | h <;> omega)).trans ?_
        rcases hq.2.1 with h | h
        · exact (hFr.block _ (by omega) (by simp; omega)).trans (hb2.block _ hq.1.lt)
        · rw [h]; exact hgc
      · refine (HLW.out.trans (hFr.below (fun x hx => ?_) (by omega))).trans ((Fr.put (S := [D]) X D o (by simp)).below (fun x hx => ?_) (by have := hFr.size; omega))
        · simp at hx; rcases hx with rfl | rfl | rfl | rfl | rfl | rfl <;> omega
        · simp at hx; omega)
    have HK := Lib.hid hK
    clear hk1 hs1 hx1 hnd1 hfr1 hsz1 hbs1 hban1 hg1 hg2 hg3 hg4 hb1 h2s h1s hws hb2 hbx2 hmp2 hxe hW2 hB hM2 hSM hgc hne hFl hFr hDF hK hS hDl
    gi_wp2
    refine ⟨by simp, .inl ⟨_, _, rfl, run_takeDeferred HK.out, ?_⟩⟩
    exact ⟨_, results_tmp rfl _ _ _, _, M2, rfl, (HEND.out _).1, Nat.le_succ _, (HEND.out _).2.1, (HEND.out _).2.2⟩
  case stop =>
    rintro D c2 pre2 Fp X _ _ _ _ h _ _
    exact h.elim
theorem own_shared (cb mb : Nat) (M : List (Value × Value)) (w : World) (ys : List (It w)) (ez : It w) (hM : M.map Prod.snd = ys.map It.val) (hc : w.cell? ⟨cb, 0, none⟩ = some (.map (some mb))) (hm : MapSt w mb M) (hsz : exSizes ((ys ++ [ez]).map It.ex) + 1 ≤ 1099511627776) (hnd : ((ys ++ [ez]).flatMap It.bs).Nodup) (hhd : (heads (ys ++ [ez])).Nodup) (hfr : ∀ y ∈ ys ++ [ez], ∀ x ∈ y.bs, FreeB w x) (hcb : ∀ y ∈ ys ++ [ez], ∀ x ∈ y.bs, x ≠ cb) :
    Calls Try.prog 65 #[.pointer (some ⟨cb, 0, none⟩), ez.val] w (fun r w2 => ∃ (sb : Nat) (S : List (Value × Value)), r = .returned (.map (some sb)) ∧ MapIs w2 sb S ∧ w.heap.size ≤ sb ∧ (∀ x ∈ S, ∃ p : Addr × Nat, x = (pkv p, .bool false) ∧ FreeB w2 p.1.block ∧ p.1.block ≠ cb) ∧ Below w.heap.size w w2) :=
  callsIn_wide.1 (shared_in Fence.wide 9 rfl rfl (fun _ => trivial) (Nat.le_refl _) cb mb M w ys ez hM hc hm hsz hnd hhd hfr hcb)
end Go.Proofs.Ytbnghkgfbjipdaa

namespace Go.Proofs.Ytbnghkgfbjipdaa
open Go Go.RowKit

theorem subperm {α : Type} : ∀ (ps xs : List α), ps.Nodup → (∀ p ∈ ps, p ∈ xs) → ∃ rest, (ps ++ rest).Perm xs := by
  intro ps
  induction ps with
  | nil => intro xs _ _; exact ⟨xs, List.Perm.refl _⟩
  | cons p r ih =>
    intro xs hn hs
    rw [List.nodup_cons] at hn
    obtain ⟨A, B, rfl⟩ := List.append_of_mem (hs p (by simp))
    obtain ⟨rest, h⟩ := ih (A ++ B) hn.2 (fun q hq => by
      have h1 := hs q (List.mem_cons_of_mem _ hq)
      rcases List.mem_append.1 h1 with h1 | h1
      · exact List.mem_append_left _ h1
      · rcases List.mem_cons.1 h1 with rfl | h1
        · exact absurd hq hn.1
        · exact List.mem_append_right _ h1)
    exact ⟨rest, (h.cons p).trans List.perm_middle.symm⟩
/-- A binding's value as an item. -/
theorem bw_is {w : World} (p : Bw w) : ExIs w (.agg #[.int .i64 p.1.2.1.val.kind, .string p.1.2.1.val.name, p.1.2.2.1]) p.1.2.1.val p.1.2.2.2 := by
  obtain ⟨u, e, -, hi⟩ := p.2
  simp only [Value.agg.injEq, Array.mk.injEq, List.cons.injEq, and_true, true_and] at e
  rw [e]; exact hi
def bwIt {w : World} (p : Bw w) : It w := ⟨(0, p.1.2.1.val, p.1.2.2.1, p.1.2.2.2), bw_is p⟩
theorem firsts_list {w : World} {xs : List (Bw w)} : ∀ (M : List (Value × Value)), (M.map Prod.fst).Nodup → (∀ x ∈ M, ∃ p ∈ xs, bname p = x.1 ∧ x.2 = bval p) →
    ∃ ps : List (Bw w), ps.map bname = M.map Prod.fst ∧ M.map Prod.snd = ps.map bval ∧ ∀ p ∈ ps, p ∈ xs := by
  intro M
  induction M with
  | nil => intro _ _; exact ⟨[], rfl, rfl, fun p hp => by cases hp⟩
  | cons x r ih =>
    intro hn hf
    rw [List.map_cons, List.nodup_cons] at hn
    obtain ⟨ps, h1, h2, h3⟩ := ih hn.2 (fun y hy => hf y (List.mem_cons_of_mem _ hy))
    obtain ⟨p, hp, e1, e2⟩ := hf x (by simp)
    exact ⟨p :: ps, by rw [List.map_cons, List.map_cons, h1, e1], by rw [List.map_cons, List.map_cons, h2, e2], fun q hq => (List.mem_cons.1 hq).elim (fun e => by rw [e]; exact hp) (h3 q)⟩
theorem nodup_of_map {α β : Type} (f : α → β) : ∀ l : List α, (l.map f).Nodup → l.Nodup := by
  intro l
  induction l with
  | nil => intro _; exact List.nodup_nil
  | cons x r ih =>
    intro h
    rw [List.map_cons, List.nodup_cons] at h
    exact List.nodup_cons.2 ⟨fun hm => h.1 (List.mem_map_of_mem hm), ih h.2⟩
theorem bnumd_vals : ∀ (l : List Bi) (k : Nat), (bnumd k l).map (fun x => x.2.val) = l.map Bi.val := by
  intro l
  induction l with
  | nil => intro k; rfl
  | cons r t ih => intro k; rw [bnumd, List.map_cons, List.map_cons, ih]
theorem heads_sub {w : World} (xs : List (It w)) : List.Sublist (heads xs) (xs.flatMap It.bs) := by
  induction xs with
  | nil => exact List.Sublist.refl _
  | cons x r ih =>
    rw [heads, List.flatMap_cons, List.flatMap_cons]
    refine List.Sublist.append ?_ ih
    cases hp : plOf x with
    | none => rw [show hdOf x = [] by simp [hdOf, hp]]; exact List.nil_sublist _
    | some p =>
      obtain ⟨b, hb⟩ := plOf_head hp
      rw [show hdOf x = [p.1.block] by simp [hdOf, hp], hb]
      exact List.Sublist.cons_cons _ (List.nil_sublist _)
theorem vals_items {w : World} {l : List Bi} {b2 : List Nat} {M : List (Value × Value)} {xs : List (Bw w)} (hn : (M.map Prod.fst).Nodup) (hx : xs.map Bw.pair = bnumd 0 l) (hkid : KidW b2 xs.reverse) (hF : Firsts bname bval xs M) (hnd : b2.Nodup) :
    ∃ ys : List (It w), M.map Prod.snd = ys.map It.val ∧ (ys.flatMap It.bs).Nodup ∧ (∀ y ∈ ys, ∀ x ∈ y.bs, x ∈ b2) ∧ exSizes (ys.map It.ex) ≤ exSizes (l.map Bi.val) := by
  obtain ⟨ps, h1, h2, h3⟩ := firsts_list (xs := xs) M hn (fun x hx => by
    obtain ⟨k, v⟩ := x
    obtain ⟨p, hp, rfl⟩ := (hF.mem _ _).1 hx
    exact ⟨p, hp.mem.1, hp.mem.2, rfl⟩)
  have hpn : ps.Nodup := nodup_of_map bname ps (by rw [h1]; exact hn)
  obtain ⟨rest, hr⟩ := subperm ps xs hpn h3
  have hb : ∀ q : List (Bw w), (q.map bwIt).flatMap It.bs = q.flatMap Bw.bs := fun q => by rw [List.flatMap_map]; rfl
  have hb2 : (xs.flatMap Bw.bs).Nodup ∧ ∀ x ∈ xs.flatMap Bw.bs, x ∈ b2 := by
    rcases hkid with ⟨h, -⟩ | ⟨g, h⟩
    · have : xs = [] := by simpa using h
      subst this
      exact ⟨List.nodup_nil, fun x hx => by cases hx⟩
    · rw [List.reverse_reverse] at h
      rw [h] at hnd ⊢
      exact ⟨(List.nodup_cons.1 hnd).2, fun x hx => List.mem_cons_of_mem _ hx⟩
  refine ⟨ps.map bwIt, by rw [h2, List.map_map]; rfl, ?_, ?_, ?_⟩
  · rw [hb]
    have h4 := (hr.flatMap_right Bw.bs).nodup_iff.2 hb2.1
    rw [List.flatMap_append] at h4
    exact (List.nodup_append.1 h4).1
  · intro y hy x hx
    obtain ⟨p, hp, rfl⟩ := List.mem_map.1 hy
    exact hb2.2 x (List.mem_flatMap.2 ⟨p, h3 p hp, hx⟩)
  · have h5 : exSizes (xs.map (fun p => p.1.2.1.val)) = exSizes (l.map Bi.val) := by
      rw [← bnumd_vals l 0, ← hx, List.map_map]; rfl
    rw [← h5, ← exSizes_map_perm (hr.map _), List.map_append, exSizes_append, List.map_map]
    exact Nat.le_add_right _ _
end Go.Proofs.Ytbnghkgfbjipdaa
