/- The contract of the program's own SizeOf. Condition: fewer than 2^40 nodes. -/
import Derived.Test.YtmndlhbgacgnlaaGreatNodesOf
import Derived.Test.YtmndlhbgacgnlaaGreatForms
namespace Go.Proofs.YtmndlhbgacgnlaaGreat
open Go Go.RowKit Go.Shelf
attribute [local go_sem] Oper.semAt_some

theorem at_wide {F : Fence} {n : Nat} {P : Program} {f : FuncId} {args : Array Value} {w : World} {R : Ending → World → Prop} (hF : F = Fence.wide) (h : Calls P f args w R) (l : Nat) : CallsIn (F.inRound l) n P f args w R := by
  subst hF
  exact CallsIn.inRound l (callsIn_wide.2 h)

theorem wide_in {F : Fence} {n : Nat} {P : Program} {f : FuncId} {args : Array Value} {w : World} {R : Ending → World → Prop} (hF : F = Fence.wide) (h : Calls P f args w R) : CallsIn F n P f args w R := by
  subst hF
  exact callsIn_wide.2 h

/-- The end of a function whose result, a bool, lies in a cell. -/
theorem res_bool {fn : Func} (h : fn.results = #[.cell 2 4]) (tmps : Array Value) (W : World) (rb : Nat) (b : Bool) (ht : tmps.getD 2 undef = .pointer (some ⟨rb, 0, none⟩)) (hc : W.cell? ⟨rb, 0, none⟩ = some (.bool b)) : (results fn tmps).run Tryz.prog W = .ok (.bool b) W := by
  rw [Array.getD_eq_getD_getElem?] at ht
  simp [results, h, ht, go_sem, hc]
theorem bool_end {F : Fence} {n : Nat} {fn : Func} {tmps : Array Value} {b : Bool} {D rb : Nat} {w X : World} (h : fn.results = #[.cell 2 4]) (ht : tmps.getD 2 undef = .pointer (some ⟨rb, 0, none⟩)) (hR : Boxed X rb 4 (.bool b)) (hK : X.heap[D]? = some (.deferred (some []))) (hne : D ≠ rb) (hDw : w.heap.size ≤ D) (hlow : Below w.heap.size w X) :
    LeavesInM F n Tryz.prog fn tmps (RetPost (.bool b) w) [{ target := .collected D, args := #[] }] .returning X := by
  refine ⟨by simp, .inl ⟨D, _, rfl, run_takeDeferred hK, ?_⟩⟩
  refine ⟨.bool b, res_bool h tmps _ rb b ht ?_, rfl, hlow.trans ((Fr.put (S := [D]) X _ _ (by simp)).below (by simpa using hDw) hlow.size)⟩
  exact (box_on hR (World.putObj_heap_other (Ne.symm hne))).cell

/-- A counter in a box. -/
def CountI {wo : World} (B : Nat) (f : List (It wo) → Nat) (ks : List (It wo)) (Fp : List Nat) (W : World) : Prop := Fp = [B] ∧ Boxed W B 3 (.int .i64 (f ks : Int))
theorem count_foot {wo : World} (B : Nat) (f : List (It wo) → Nat) (ks : List (It wo)) : Foot (CountI B f ks) := by
  rintro Fp X Y ⟨rfl, h⟩ _ hk
  exact ⟨rfl, box_on h (hk B (by simp))⟩

theorem count_up {wo : World} {B nb : Nat} {f : List (It wo) → Nat} {ks : List (It wo)} {x : It wo} {X w2 : World} (hB : Boxed X B 3 (.int .i64 (f ks : Int))) (hb : Below X.heap.size X w2) (o : Obj) (h : f (ks ++ [x]) = f ks + 1) :
    ∃ Fp2, Fr [nb, B] X ((w2.setCell ⟨B, 0, none⟩ (.int .i64 ((f ks : Int) + 1))).alloc o) ∧ (∀ k ∈ Fp2, (k ∈ [nb, B] ∨ X.heap.size ≤ k) ∧ k < ((w2.setCell ⟨B, 0, none⟩ (.int .i64 ((f ks : Int) + 1))).alloc o).heap.size) ∧ CountI B f (ks ++ [x]) Fp2 ((w2.setCell ⟨B, 0, none⟩ (.int .i64 ((f ks : Int) + 1))).alloc o) := by
  have h2 : Boxed w2 B 3 (.int .i64 (f ks : Int)) := box_on hB (hb.block _ hB.lt)
  refine ⟨[B], ((Fr.of_below hb).trans (Fr.set (S := [nb, B]) _ _ _ (by simp)) (fun x h => Or.inl h)).trans (Fr.alloc (S := [nb, B]) _ _) (fun x h => Or.inl h), fun k hk => ?_, rfl, ?_⟩
  · simp at hk
    subst hk
    exact ⟨Or.inl (by simp), by have := h2.lt; simp [World.setCell]; omega⟩
  · rw [h]
    refine Boxed.alloc ?_ o
    have := h2.set (.int .i64 ((f ks : Int) + 1))
    simpa using this
theorem count_same {wo : World} {B nb : Nat} {f : List (It wo) → Nat} {ks : List (It wo)} {x : It wo} {X w2 : World} (hB : Boxed X B 3 (.int .i64 (f ks : Int))) (hb : Below X.heap.size X w2) (o : Obj) (h : f (ks ++ [x]) = f ks) :
    ∃ Fp2, Fr [nb, B] X (w2.alloc o) ∧ (∀ k ∈ Fp2, (k ∈ [nb, B] ∨ X.heap.size ≤ k) ∧ k < (w2.alloc o).heap.size) ∧ CountI B f (ks ++ [x]) Fp2 (w2.alloc o) := by
  have h2 : Boxed w2 B 3 (.int .i64 (f ks : Int)) := box_on hB (hb.block _ hB.lt)
  refine ⟨[B], (Fr.of_below hb).trans (Fr.alloc (S := [nb, B]) _ _) (fun x h => Or.inl h), fun k hk => ?_, rfl, ?_⟩
  · simp at hk
    subst hk
    exact ⟨Or.inl (by simp), by have := h2.lt; simp; omega⟩
  · rw [h]; exact h2.alloc o

/-- The node of a round lies in a box of its own. -/
def Noded {wo : World} (I : List (It wo) → List Nat → World → Prop) (tm : Nat → It wo → Array Value) (ks : List (It wo)) (x : It wo) (a : Act) (Fp : List Nat) (X : World) : Prop := ∃ nb Fp0, Fp = nb :: Fp0 ∧ X.heap[nb]? = some (.cells #[.int .i64 x.ex.kind, .string x.ex.name, x.1.2.2.1] 32 (0, 0)) ∧ nb ∉ Fp0 ∧ I ks Fp0 X ∧ a = { tmps := tm nb x, defers := [] }
theorem noded_foot {wo : World} {I : List (It wo) → List Nat → World → Prop} (hI : ∀ ks, Foot (I ks)) (tm : Nat → It wo → Array Value) (ks : List (It wo)) (x : It wo) (a : Act) : Foot (Noded I tm ks x a) := by
  rintro Fp X Y ⟨nb, Fp0, rfl, h1, h2, h3, h4⟩ hs hk
  exact ⟨nb, Fp0, rfl, (hk nb (by simp)).trans h1, h2, hI ks Fp0 X Y h3 hs (fun k h => hk k (by simp [h])), h4⟩
theorem noded_new {wo : World} {I : List (It wo) → List Nat → World → Prop} (hI : ∀ ks, Foot (I ks)) {tm : Nat → It wo → Array Value} {ks : List (It wo)} {x : It wo} {Fp : List Nat} {X : World} (h : I ks Fp X) (hFp : ∀ k ∈ Fp, k < X.heap.size) {u : Value} (hu : x.1.2.2.1 = u) {a : Act} (ha : a = { tmps := tm X.heap.size x, defers := [] }) :
    Fr Fp X (X.alloc (.cells #[.int .i64 x.ex.kind, .string x.ex.name, u] 32)) ∧ (∀ k ∈ X.heap.size :: Fp, (k ∈ Fp ∨ X.heap.size ≤ k) ∧ k < (X.alloc (.cells #[.int .i64 x.ex.kind, .string x.ex.name, u] 32)).heap.size) ∧ Noded I tm ks x a (X.heap.size :: Fp) (X.alloc (.cells #[.int .i64 x.ex.kind, .string x.ex.name, u] 32)) := by
  subst hu
  refine ⟨Fr.alloc _ _, fun k hk => ?_, X.heap.size, Fp, rfl, World.alloc_heap_new X _, fun hm => by have := hFp _ hm; omega, hI ks Fp X _ h (by simp) (fun k hk => Below.heap_alloc X _ k (hFp k hk)), ha⟩
  rcases List.mem_cons.1 hk with rfl | hk
  · exact ⟨Or.inr (Nat.le_refl _), by simp⟩
  · exact ⟨Or.inl hk, by have := hFp k hk; simp; omega⟩

/-- What lies in memory where the loop begins: the counter's box. -/
theorem start_facts (e : Ex) (A : Option Addr) (m c : Nat) (w w0 W0 : World) (hw0 : w0 = (w.alloc (.cells #[.int .i64 e.kind, .string e.name, .slice A m c] 32)).alloc (.cells #[.int .i64 0] 3)) (h : W0 = nodesW w0 e.kind e.name (.slice A m c)) :
    W0.heap.size = w.heap.size + 5 ∧ Below w.heap.size w W0 ∧ Boxed W0 (w.heap.size + 1) 3 (.int .i64 0) ∧ w.heap.size + 1 + 1 = w0.heap.size ∧ Below w.heap.size w w0 := by
  have hs : w0.heap.size = w.heap.size + 2 := by rw [hw0]; simp
  have hb : Below w.heap.size w w0 := by rw [hw0]; exact ((Below.refl _ w).alloc (Nat.le_refl _) _).alloc (by simp) _
  refine ⟨by rw [h, nodesW_size, hs], by rw [h]; exact nodesW_below hb (by omega) _ _ _, ?_, by omega, hb⟩
  have := Boxed.new (w.alloc (.cells #[.int .i64 e.kind, .string e.name, .slice A m c] 32)) 3 (.int .i64 0)
  rw [World.size_alloc, ← hw0] at this
  exact box_on this (by rw [h]; exact nodesW_old _ _ _ (by omega))

end Go.Proofs.YtmndlhbgacgnlaaGreat
