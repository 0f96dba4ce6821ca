/- The contracts of the program's own nodesWhere and nodesOf: what a range over nodesOf hands out. Condition: fewer than 2^40 nodes. -/
import Derived.Test.YtmndlhbgacgnlaaNodesAll
namespace Go.Proofs.Ytmndlhbgacgnlaa
open Go Go.RowKit Go.Shelf
attribute [local go_sem] Oper.semAt_some

/-- The boxes of nodesWhere$1: the expression's and that of the function that is asked, behind block b. -/
def nodesLb (b : Nat) : Array Value := #[.pointer (some ⟨b + 1, 0, none⟩), .pointer (some ⟨b + 2, 0, none⟩)]
/-- What nodesOf hands back where the heap had b blocks. -/
def nodesFun (b : Nat) : Value := .func (.func 143) #[] (nodesLb b)
/-- The world behind a call of nodesOf. -/
def nodesW (w : World) (k : Int) (s : ByteArray) (u : Value) : World :=
  ((w.alloc (.cells #[.int .i64 k, .string s, u] 26)).alloc (.cells #[.int .i64 k, .string s, u] 26)).alloc (.cells #[.func (.func 103) #[] #[]] 145)
theorem nodesW_size (w : World) (k : Int) (s : ByteArray) (u : Value) : (nodesW w k s u).heap.size = w.heap.size + 3 := by simp [nodesW]
theorem nodesW_below {n : Nat} {wo w : World} (h : Below n wo w) (hn : n ≤ w.heap.size) (k : Int) (s : ByteArray) (u : Value) : Below n wo (nodesW w k s u) :=
  ((h.alloc hn _).alloc (by simp; omega) _).alloc (by simp; omega) _
theorem nodesW_old {w : World} (k : Int) (s : ByteArray) (u : Value) {j : Nat} (hj : j < w.heap.size) : (nodesW w k s u).heap[j]? = w.heap[j]? :=
  (nodesW_below (Below.refl _ w) (Nat.le_refl _) k s u).block j hj
theorem nodesW_ex (w : World) (k : Int) (s : ByteArray) (u : Value) : (nodesW w k s u).heap[w.heap.size + 1]? = some (.cells #[.int .i64 k, .string s, u] 26 (0, 0)) := by
  have h1 := World.alloc_heap_new (w.alloc (.cells #[.int .i64 k, .string s, u] 26)) (.cells #[.int .i64 k, .string s, u] 26)
  rw [World.size_alloc] at h1
  exact (Below.heap_alloc _ _ _ (by simp)).trans h1
theorem nodesW_gv (w : World) (k : Int) (s : ByteArray) (u : Value) : Boxed (nodesW w k s u) (w.heap.size + 2) 145 (.func (.func 103) #[] #[]) := by
  have h1 := Boxed.new ((w.alloc (.cells #[.int .i64 k, .string s, u] 26)).alloc (.cells #[.int .i64 k, .string s, u] 26)) 145 (.func (.func 103) #[] #[])
  rw [World.size_alloc, World.size_alloc] at h1
  exact h1

set_option maxHeartbeats 1000000 in
theorem nodesWhere_in (F : Fence) (n : Nat) (hF : ∀ k, F.fn k) (hro : F.round = none) (k : Int) (s : ByteArray) (A : Option Addr) (m c gi : Nat) (lb : Array Value) (w : World) :
    CallsIn F n Try.prog 102 #[.agg #[.int .i64 k, .string s, .slice A m c], .func (.func gi) #[] lb] w fun e w2 => e = .returned (.func (.func 143) #[] #[.pointer (some ⟨w.heap.size, 0, none⟩), .pointer (some ⟨w.heap.size + 1, 0, none⟩)]) ∧ w2 = (w.alloc (.cells #[.int .i64 k, .string s, .slice A m c] 26)).alloc (.cells #[.func (.func gi) #[] lb] 145) := by
  refine callsIn_of_wp Try.func102 rfl (hF _) ?_ hro
  simp only [Try.ntmps102, List.size_toArray, List.length_cons, List.length_nil, Nat.reduceAdd, Nat.reduceSub, Array.replicate_succ, Array.replicate_zero, List.push_toArray, List.append_toArray, List.nil_append, List.cons_append]
  gi_wp2
  go_ret
  exact ⟨rfl, rfl⟩

set_option maxHeartbeats 1000000 in
theorem nodesOf_in (F : Fence) (n : Nat) (hF : ∀ k, F.fn k) (hro : F.round = none) (hn : 1 ≤ n) (k : Int) (s : ByteArray) (A : Option Addr) (m c : Nat) (w : World) :
    CallsIn F n Try.prog 57 #[.agg #[.int .i64 k, .string s, .slice A m c]] w fun e w2 => e = .returned (nodesFun w.heap.size) ∧ w2 = nodesW w k s (.slice A m c) := by
  refine callsIn_of_wp Try.func57 rfl (hF _) ?_ hro
  simp only [Try.ntmps57, List.size_toArray, List.length_cons, List.length_nil, Nat.reduceAdd, Nat.reduceSub, Array.replicate_succ, Array.replicate_zero, List.push_toArray, List.append_toArray, List.nil_append, List.cons_append]
  gi_wp2_with (gi_at_call 102; refine (nodesWhere_in F (n - 1) hF hro _ _ _ _ _ _ _ _).mono ?_; rintro e w' ⟨rfl, rfl⟩)
  go_ret
  exact ⟨rfl, rfl⟩

set_option maxHeartbeats 1000000 in
theorem yes_in (F : Fence) (n : Nat) (hF : ∀ k, F.fn k) (hro : F.round = none) (A : Option Addr) (m c : Nat) (w : World) :
    CallsIn F n Try.prog 103 #[.slice A m c] w fun e w2 => e = .returned (.bool true) ∧ w2 = w := by
  refine callsIn_of_wp Try.func103 rfl (hF _) ?_ hro
  simp only [Try.ntmps103, List.size_toArray, List.length_cons, List.length_nil, Nat.reduceAdd, Nat.reduceSub, Array.replicate_succ, Array.replicate_zero, List.push_toArray, List.append_toArray, List.nil_append, List.cons_append]
  gi_wp2
  go_ret
  exact ⟨rfl, rfl⟩

/-- What nodesOf hands back, as a range over it wants it. -/
theorem nodes_stops (F : Fence) (n : Nat) (hFw : F = Fence.wide) (hro : F.round = none) (hF : ∀ k, F.fn k) (hn : 3 ≤ n) (wo : World) (e : Ex) (u : Value) (bs : List Nat) (he : ExIs wo (.agg #[.int .i64 e.kind, .string e.name, u]) e bs) (hsz : exSize e ≤ 1099511627776) (b : Nat) (w0 w : World) (hb : b = w0.heap.size) (hw : w = nodesW w0 e.kind e.name u) (hW : Below wo.heap.size wo w0) :
    SeqF F n Try.prog 143 (nodesLb b) (fun x : It wo => #[x.val]) wo.heap.size (fun xs => xs.map It.ex = exNodes e) (fun pre => pre.map It.ex <+: exNodes e) (exSize e) [b + 2] w := by
  intro l J Jx W hwW hJ hJx hY h0
  have hs0 := hW.size
  have hsz2 : w.heap.size = w0.heap.size + 3 := by rw [hw, nodesW_size]
  have hex := nodesW_ex w0 e.kind e.name u
  have hgv := nodesW_gv w0 e.kind e.name u
  rw [← hw, ← hb] at hex hgv
  have hb2 : W.heap[b + 1]? = some (.cells #[.int .i64 e.kind, .string e.name, u] 26 (0, 0)) := (hwW.block _ (by omega)).trans hex
  have hg2 : Boxed W (b + 2) 145 (.func (.func 103) #[] #[]) := box_on hgv (hwW.block _ (by omega))
  have hlow : Below wo.heap.size wo w := by rw [hw]; exact nodesW_below hW hs0 _ _ _
  refine (nodes_all_in F n hFw hro hF hn l (b + 1) (b + 2) wo e u bs he hsz J Jx hJ hJx hY (fun pre st => pre.map It.ex ++ due st = exNodes e) (fun _ _ => True) (fun _ _ => true) [b + 2] [] ?_ ?_ (fun _ _ _ _ h => by cases h) (fun _ _ _ _ _ _ => trivial) ?_
    W (hlow.trans (hwW.mono hlow.size)) (fun k hk => by simp at hk; have := hwW.size; omega) (by simp) (by simp) hg2 (by simp [World.cell?, hb2]) (by simp [World.cell?, hb2]) (by simp [World.cell?, hb2]) h0 trivial).mono ?_
  · intro x hx _
    rw [show due [x] = exNodes x.ex by simp [due], hx]; rfl
  · intro pre st x ks h _ hk _
    rw [due_one] at h
    rw [due_app, due_kids ks _ hk, ← h]
    simp
  · intro pre x A c W1 _ _ _ _ _
    refine (yes_in F (n - 1) hF hro _ _ _ _).mono ?_
    rintro r W2 ⟨rfl, rfl⟩
    exact ⟨rfl, trivial, Fr.refl _ _⟩
  · rintro r W2 ⟨hv, ⟨xs, M, h1, h2⟩ | ⟨pre, M, ⟨pre0, st0, x, rfl, h1⟩, h2⟩⟩
    · exact ⟨hv, .inl ⟨xs, M, by simpa [due] using h1, h2⟩⟩
    · refine ⟨hv, .inr ⟨_, M, ?_, h2⟩⟩
      rw [due_one] at h1
      exact ⟨exNodesL x.ex.args ++ due st0, by rw [← h1]; simp⟩
end Go.Proofs.Ytmndlhbgacgnlaa
