/- The contract of the program's own SizeOf. Condition: fewer than 2^40 nodes. -/
import Derived.Test.YtmndlhbgacgnlaaNodesOf
import Derived.Test.YtmndlhbgacgnlaaForms
namespace Go.Proofs.Ytmndlhbgacgnlaa
open Go Go.RowKit Go.Shelf
attribute [local go_sem] Oper.semAt_some

theorem at_wide {F : Fence} {n : Nat} {P : Program} {f : FuncId} {args : Array Value} {w : World} {R : Ending → World → Prop} (hF : F = Fence.wide) (h : Calls P f args w R) (l : Nat) : CallsIn (F.inRound l) n P f args w R := by
  subst hF
  exact CallsIn.inRound l (callsIn_wide.2 h)

theorem wide_in {F : Fence} {n : Nat} {P : Program} {f : FuncId} {args : Array Value} {w : World} {R : Ending → World → Prop} (hF : F = Fence.wide) (h : Calls P f args w R) : CallsIn F n P f args w R := by
  subst hF
  exact callsIn_wide.2 h

/-- The end of a function whose result, a bool, lies in a cell. -/
theorem res_bool {fn : Func} (h : fn.results = #[.cell 2 4]) (tmps : Array Value) (W : World) (rb : Nat) (b : Bool) (ht : tmps.getD 2 undef = .pointer (some ⟨rb, 0, none⟩)) (hc : W.cell? ⟨rb, 0, none⟩ = some (.bool b)) : (results fn tmps).run Try.prog W = .ok (.bool b) W := by
  rw [Array.getD_eq_getD_getElem?] at ht
  simp [results, h, ht, go_sem, hc]
theorem bool_end {F : Fence} {n : Nat} {fn : Func} {tmps : Array Value} {b : Bool} {D rb : Nat} {w X : World} (h : fn.results = #[.cell 2 4]) (ht : tmps.getD 2 undef = .pointer (some ⟨rb, 0, none⟩)) (hR : Boxed X rb 4 (.bool b)) (hK : X.heap[D]? = some (.deferred (some []))) (hne : D ≠ rb) (hDw : w.heap.size ≤ D) (hlow : Below w.heap.size w X) :
    LeavesInM F n Try.prog fn tmps (RetPost (.bool b) w) [{ target := .collected D, args := #[] }] .returning X := by
  refine ⟨by simp, .inl ⟨D, _, rfl, run_takeDeferred hK, ?_⟩⟩
  refine ⟨.bool b, res_bool h tmps _ rb b ht ?_, rfl, hlow.trans ((Fr.put (S := [D]) X _ _ (by simp)).below (by simpa using hDw) hlow.size)⟩
  exact (box_on hR (World.putObj_heap_other (Ne.symm hne))).cell

/-- A counter in a box. -/
def CountI {wo : World} (B : Nat) (f : List (It wo) → Nat) (ks : List (It wo)) (Fp : List Nat) (W : World) : Prop := Fp = [B] ∧ Boxed W B 3 (.int .i64 (f ks : Int))
theorem count_foot {wo : World} (B : Nat) (f : List (It wo) → Nat) (ks : List (It wo)) : Foot (CountI B f ks) := by
  rintro Fp X Y ⟨rfl, h⟩ _ hk
  exact ⟨rfl, box_on h (hk B (by simp))⟩

theorem count_up {wo : World} {B nb : Nat} {f : List (It wo) → Nat} {ks : List (It wo)} {x : It wo} {X w2 : World} (hB : Boxed X B 3 (.int .i64 (f ks : Int))) (hb : Below X.heap.size X w2) (o : Obj) (h : f (ks ++ [x]) = f ks + 1) :
    ∃ Fp2, Fr [nb, B] X ((w2.setCell ⟨B, 0, none⟩ (.int .i64 ((f ks : Int) + 1))).alloc o) ∧ (∀ k ∈ Fp2, (k ∈ [nb, B] ∨ X.heap.size ≤ k) ∧ k < ((w2.setCell ⟨B, 0, none⟩ (.int .i64 ((f ks : Int) + 1))).alloc o).heap.size) ∧ CountI B f (ks ++ [x]) Fp2 ((w2.setCell ⟨B, 0, none⟩ (.int .i64 ((f ks : Int) + 1))).alloc o) := by
  have h2 : Boxed w2 B 3 (.int .i64 (f ks : Int)) := box_on hB (hb.block _ hB.lt)
  refine ⟨[B], ((Fr.of_below hb).trans (Fr.set (S := [nb, B]) _ _ _ (by simp)) (fun x h => Or.inl h)).trans (Fr.alloc (S := [nb, B]) _ _) (fun x h => Or.inl h), fun k hk => ?_, rfl, ?_⟩
  · simp at hk
    subst hk
    exact ⟨Or.inl (by simp), by have := h2.lt; simp [World.setCell]; omega⟩
  · rw [h]
    refine Boxed.alloc ?_ o
    have := h2.set (.int .i64 ((f ks : Int) + 1))
    simpa using this
theorem count_same {wo : World} {B nb : Nat} {f : List (It wo) → Nat} {ks : List (It wo)} {x : It wo} {X w2 : World} (hB : Boxed X B 3 (.int .i64 (f ks : Int))) (hb : Below X.heap.size X w2) (o : Obj) (h : f (ks ++ [x]) = f ks) :
    ∃ Fp2, Fr [nb, B] X (w2.alloc o) ∧ (∀ k ∈ Fp2, (k ∈ [nb, B] ∨ X.heap.size ≤ k) ∧ k < (w2.alloc o).heap.size) ∧ CountI B f (ks ++ [x]) Fp2 (w2.alloc o) := by
  have h2 : Boxed w2 B 3 (.int .i64 (f ks : Int)) := box_on hB (hb.block _ hB.lt)
  refine ⟨[B], (Fr.of_below hb).trans (Fr.alloc (S := [nb, B]) _ _) (fun x h => Or.inl h), fun k hk => ?_, rfl, ?_⟩
  · simp at hk
    subst hk
    exact ⟨Or.inl (by simp), by have := h2.lt; simp; omega⟩
  · rw [h]; exact h2.alloc o

/-- The node of a round lies in a box of its own. -/
def Noded {wo : World} (I : List (It wo) → List Nat → World → Prop) (tm : Nat → It wo → Array Value) (ks : List (It wo)) (x : It wo) (a : Act) (Fp : List Nat) (X : World) : Prop := ∃ nb Fp0, Fp = nb :: Fp0 ∧ X.heap[nb]? = some (.cells #[.int .i64 x.ex.kind, .string x.ex.name, x.1.2.2.1] 26 (0, 0)) ∧ nb ∉ Fp0 ∧ I ks Fp0 X ∧ a = { tmps := tm nb x, defers := [] }
theorem noded_foot {wo : World} {I : List (It wo) → List Nat → World → Prop} (hI : ∀ ks, Foot (I ks)) (tm : Nat → It wo → Array Value) (ks : List (It wo)) (x : It wo) (a : Act) : Foot (Noded I tm ks x a) := by
  rintro Fp X Y ⟨nb, Fp0, rfl, h1, h2, h3, h4⟩ hs hk
  exact ⟨nb, Fp0, rfl, (hk nb (by simp)).trans h1, h2, hI ks Fp0 X Y h3 hs (fun k h => hk k (by simp [h])), h4⟩
theorem noded_new {wo : World} {I : List (It wo) → List Nat → World → Prop} (hI : ∀ ks, Foot (I ks)) {tm : Nat → It wo → Array Value} {ks : List (It wo)} {x : It wo} {Fp : List Nat} {X : World} (h : I ks Fp X) (hFp : ∀ k ∈ Fp, k < X.heap.size) {u : Value} (hu : x.1.2.2.1 = u) {a : Act} (ha : a = { tmps := tm X.heap.size x, defers := [] }) :
    Fr Fp X (X.alloc (.cells #[.int .i64 x.ex.kind, .string x.ex.name, u] 26)) ∧ (∀ k ∈ X.heap.size :: Fp, (k ∈ Fp ∨ X.heap.size ≤ k) ∧ k < (X.alloc (.cells #[.int .i64 x.ex.kind, .string x.ex.name, u] 26)).heap.size) ∧ Noded I tm ks x a (X.heap.size :: Fp) (X.alloc (.cells #[.int .i64 x.ex.kind, .string x.ex.name, u] 26)) := by
  subst hu
  refine ⟨Fr.alloc _ _, fun k hk => ?_, X.heap.size, Fp, rfl, World.alloc_heap_new X _, fun hm => by have := hFp _ hm; omega, hI ks Fp X _ h (by simp) (fun k hk => Below.heap_alloc X _ k (hFp k hk)), ha⟩
  rcases List.mem_cons.1 hk with rfl | hk
  · exact ⟨Or.inr (Nat.le_refl _), by simp⟩
  · exact ⟨Or.inl hk, by have := hFp k hk; simp; omega⟩

/-- What lies in memory where the loop begins: the counter's box. -/
theorem start_facts (e : Ex) (A : Option Addr) (m c : Nat) (w w0 W0 : World) (hw0 : w0 = (w.alloc (.cells #[.int .i64 e.kind, .string e.name, .slice A m c] 26)).alloc (.cells #[.int .i64 0] 3)) (h : W0 = nodesW w0 e.kind e.name (.slice A m c)) :
    W0.heap.size = w.heap.size + 5 ∧ Below w.heap.size w W0 ∧ Boxed W0 (w.heap.size + 1) 3 (.int .i64 0) ∧ w.heap.size + 1 + 1 = w0.heap.size ∧ Below w.heap.size w w0 := by
  have hs : w0.heap.size = w.heap.size + 2 := by rw [hw0]; simp
  have hb : Below w.heap.size w w0 := by rw [hw0]; exact ((Below.refl _ w).alloc (Nat.le_refl _) _).alloc (by simp) _
  refine ⟨by rw [h, nodesW_size, hs], by rw [h]; exact nodesW_below hb (by omega) _ _ _, ?_, by omega, hb⟩
  have := Boxed.new (w.alloc (.cells #[.int .i64 e.kind, .string e.name, .slice A m c] 26)) 3 (.int .i64 0)
  rw [World.size_alloc, ← hw0] at this
  exact box_on this (by rw [h]; exact nodesW_old _ _ _ (by omega))

set_option maxRecDepth 100000 in
set_option maxHeartbeats 2000000 in
theorem size_in (F : Fence) (n : Nat) (hFw : F = Fence.wide) (hro : F.round = none) (hF : ∀ k, F.fn k) (hn : 9 ≤ n) (e : Ex) (v : Value) (bs : List Nat) (w : World) (hv : ExIs w v e bs) (hb : exSize e ≤ 1099511627776) :
    CallsIn F n Try.prog 13 #[v] w (RetPost (.int .i64 (exSize e : Int)) w) := by
  obtain ⟨u, rfl, hs, hu⟩ := id hv
  obtain ⟨A, c, rfl, hc1, hc2, -⟩ := id hu
  have HV := Lib.hid hv
  have HN := Lib.hid (nodes_len e)
  have h1 : 1 ≤ n := by omega
  have HFW := Lib.hid hFw
  obtain ⟨m, hm⟩ : ∃ m, m = e.args.length := ⟨_, rfl⟩
  rw [← hm] at HV hc1 ⊢
  have HM := Lib.hid hm
  clear hv hu hFw hm
  refine callsIn_of_wp_marks Try.func13 rfl (hF _) ?_ hro
  simp only [Try.ntmps13, List.size_toArray, List.length_cons, List.length_nil, Nat.reduceAdd, Nat.reduceSub, Array.replicate_succ, Array.replicate_zero, List.push_toArray, List.append_toArray, List.nil_append, List.cons_append]
  gi_wp2_with (gi_at_call 57; refine (nodesOf_in F (n - 1) hF hro (by omega) _ _ _ _ _ _).mono ?_; rintro e w' ⟨rfl, rfl⟩)
  obtain ⟨w0, hw0⟩ : ∃ w0, w0 = ((w.alloc (.cells #[.int .i64 e.kind, .string e.name, .slice A m c] 26)).alloc (.cells #[.int .i64 0] 3)) := ⟨_, rfl⟩
  rw [← hw0]
  obtain ⟨W0, hW0⟩ : ∃ W0, W0 = nodesW w0 e.kind e.name (.slice A m c) := ⟨_, rfl⟩
  rw [← hW0]
  have HX := Lib.hid (start_facts e A m c w w0 W0 hw0 hW0)
  have HW0 := Lib.hid hW0
  clear hW0 hw0
  have hx1 := HX.out.1
  refine wpIn_rangeFunc_frame hro h1 (gf := 143) (lb := nodesLb (w.heap.size + 1 + 1)) rfl (hF _) (enters_of Try.func143 (by kernel_rfl) rfl)
    (nodes_stops F (n - 1) HFW.out hro hF (by omega) w e (.slice A m c) bs HV.out hb (w.heap.size + 1 + 1) w0 W0 HX.out.2.2.2.1 HW0.out HX.out.2.2.2.2) (Below.refl _ _) (by omega) (by simp; omega) (fun _ => rfl)
    (CountI (w.heap.size + 1) List.length) (fun _ _ _ _ => False) (count_foot _ _) (fun _ _ _ _ _ h _ _ => h) [w.heap.size + 1] (fun k hk => by simp at hk; subst hk; simp; omega) ⟨rfl, HX.out.2.2.1⟩
    (fun ks x a2 Fp X => a2 = { tmps := #[.agg #[.int .i64 e.kind, .string e.name, .slice A m c], .pointer (some ⟨w.heap.size, 0, none⟩), .int .i64 0, .pointer (some ⟨w.heap.size + 1, 0, none⟩), .agg #[.int .i64 e.kind, .string e.name, .slice A m c], nodesFun (w.heap.size + 1 + 1), x.val, undef, undef, undef], defers := [] } ∧ CountI (w.heap.size + 1) List.length ks Fp X) (fun ks x a2 => fun Fp X Y h hs hk => ⟨h.1, count_foot _ _ ks Fp X Y h.2 hs hk⟩) ?assign ?body ?done ?stop
  case assign =>
    intro l pre x Fp X K hI hFp hFr hK
    gi_wp2
    exact hK _ _ _ (Fr.refl _ _) (fun k hk => ⟨Or.inl hk, (hFp k hk).2⟩) ⟨by simp, hI⟩
  case body =>
    rintro l pre x _ Fp X ⟨rfl, rfl, hB⟩ hFp hFr hlen
    have hc := hB.cell
    have hf := hB.frozen
    have hl := hB.lt
    have HB := Lib.hid hB
    have hp : (pre.length : Int) ≤ 1099511627776 := by omega
    clear hB
    gi_wp2
    refine ⟨[w.heap.size + 1], Fr.set _ _ _ (by simp), fun k hk => ?_, rfl, ?_⟩
    · simp at hk; subst hk; simp [World.setCell]; exact hl
    · have := HB.out.set (.int .i64 ((pre.length : Int) + 1))
      simpa using this
  case done =>
    rintro D ks Fp X hD hDF hFl hS ⟨rfl, hB⟩ hFr hK
    have hlen : ks.length = exSize e := by rw [← HN.out, ← hS, List.length_map]
    rw [hlen] at hB
    have hc := hB.cell
    have HB := Lib.hid hB
    have HK := Lib.hid hK
    have HFR := Lib.hid hFr
    clear hB hK hFr hlen hS
    gi_wp2
    refine ⟨by simp, .inl ⟨_, _, rfl, run_takeDeferred HK.out, ?_⟩⟩
    exact ⟨_, results_tmp rfl _ _ _, rfl, (HX.out.2.1.trans (HFR.out.below (by simp; omega) (by omega))).trans ((Fr.put (S := [D]) X _ _ (by simp)).below (by simp; omega) (by have := HFR.out.size; omega))⟩
  case stop =>
    rintro D c pre Fp X _ _ _ _ h _ _
    exact h.elim
theorem own_size (e : Ex) (v : Value) (bs : List Nat) (w : World) (hv : ExIs w v e bs) (hb : exSize e ≤ 1099511627776) : Calls Try.prog 13 #[v] w (RetPost (.int .i64 (exSize e : Int)) w) :=
  callsIn_wide.1 (size_in Fence.wide 9 rfl rfl (fun _ => trivial) (Nat.le_refl _) e v bs w hv hb)
end Go.Proofs.Ytmndlhbgacgnlaa
