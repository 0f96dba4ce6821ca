/- The contract of the model's copy of an expression, l3Copy. Condition: fewer than 2^40 nodes. -/
import Derived.Test.YtmndlhbgacgnlaaExDrawTop
import Derived.Deep.AppendLies
import Derived.Deep.RegionLaw
namespace Go.Proofs.Ytmndlhbgacgnlaa
open Go Go.RowKit

def Copy2End (e : Ex) (w : World) (r : Ending) (w' : World) : Prop := ∃ v bs, r = .returned v ∧ ExF w' v e bs ∧ (∀ x ∈ bs, w.heap.size ≤ x) ∧ Below w.heap.size w w'

/-- The copy under way: l is copied. -/
structure Cp (w : World) (e : Ex) (u : Value) (l : List Ex) (ov : Value) (ys : List Value) (bs : List Nat) (W : World) : Prop where
  low : Below w.heap.size w W
  arg : Box W w.heap.size (.int .i64 e.kind) (.string e.name) u
  res : Box W (w.heap.size + 1) (.int .i64 0) (.string ⟨#[]⟩) (.slice none 0 0)
  out : Box W (w.heap.size + 1 + 1) (.int .i64 e.kind) (.string e.name) ov
  own : W.ownsRow (w.heap.size + 3) 26 3 ov l.length ys
  reads : ∀ (w' : World) (g' : Nat), (∀ j v, ys[j]? = some v → w'.cell? ⟨g', j, none⟩ = some v) → Keeps W w' bs → ExsAt w' g' 0 0 l bs
  lo : ∀ x ∈ bs, w.heap.size + 3 ≤ x ∧ x < W.heap.size
  sep : ∀ k, ov.ownBlock = some k → k ∉ bs
  free : ∀ x ∈ bs, ∀ o, W.frozen? ⟨x, o, none⟩ = false
theorem Cp.below {w : World} {e : Ex} {u ov : Value} {l : List Ex} {ys : List Value} {bs : List Nat} {W W2 : World} (h : Cp w e u l ov ys bs W) (hb : Below W.heap.size W W2) : Cp w e u l ov ys bs W2 where
  low := h.low.trans (hb.mono h.low.size)
  arg := (hb.block _ h.arg.lt).trans h.arg
  res := (hb.block _ h.res.lt).trans h.res
  out := (hb.block _ h.out.lt).trans h.out
  own := h.own.kept (row := none) ⟨hb.os, hb.tape, hb.output, hb.size, fun k hk _ => hb.block k hk⟩ (by cases ov.ownBlock <;> simp)
  reads := fun w' g' hw hk => h.reads w' g' hw (keeps_on (keeps_below hb bs) hk)
  lo := fun x hx => ⟨(h.lo x hx).1, Nat.lt_of_lt_of_le (h.lo x hx).2 hb.size⟩
  sep := h.sep
  free := fun x hx o => (World.frozen?_of_block (w := W) (a := ⟨x, o, none⟩) (hb.block x (h.lo x hx).2)).trans (h.free x hx o)
theorem Cp.big {w : World} {e : Ex} {u ov : Value} {l : List Ex} {ys : List Value} {bs : List Nat} {W : World} (h : Cp w e u l ov ys bs W) : w.heap.size + 3 ≤ W.heap.size := h.out.lt
/-- One more is copied. -/
theorem Cp.step {w : World} {e e1 : Ex} {u ov u1 : Value} {l : List Ex} {ys : List Value} {bs b1 : List Nat} {W W2 W3 : World} {g cap : Nat} (h : Cp w e u l ov ys bs W) (hb : Below W.heap.size W W2)
    (h1 : ExF W2 (.agg #[.int .i64 e1.kind, .string e1.name, u1]) e1 b1) (hlo : ∀ x ∈ b1, W.heap.size ≤ x)
    (ho : W3.ownsRow (w.heap.size + 3) 26 3 (.slice (some ⟨g, 0, none⟩) (l.length + 1) cap) (l.length + 1) (ys ++ [.int .i64 e1.kind, .string e1.name, u1])) (hg : (W2.alloc (.cells #[.int .i64 e1.kind, .string e1.name, u1] 26)).grownBy W3 ov.ownBlock) (hat : ov.ownBlock = some g ∨ g = W2.heap.size + 1) :
    Cp w e u (l ++ [e1]) (.slice (some ⟨g, 0, none⟩) (l.length + 1) cap) (ys ++ [.int .i64 e1.kind, .string e1.name, u1]) (bs ++ b1) (W3.setCell ⟨w.heap.size + 1 + 1, 2, none⟩ (.slice (some ⟨g, 0, none⟩) (l.length + 1) cap)) := by
  have h2 := h.below hb
  have hbig := h.big
  have hlt1 := h1.lt
  have hz : W2.heap.size + 1 ≤ W3.heap.size := by have := hg.size; simpa using this
  have hal : ∀ k, k < W2.heap.size → (W2.alloc (.cells #[.int .i64 e1.kind, .string e1.name, u1] 26)).heap[k]? = W2.heap[k]? := fun k hk => Below.heap_alloc _ _ k hk
  have hown : ∀ k, ov.ownBlock = some k → w.heap.size + 3 ≤ k ∧ k < W.heap.size := fun k hk => World.ownsRow.lt h.own k hk
  have hgb : w.heap.size + 3 ≤ g := (World.ownsRow.lt ho g rfl).1
  have far : ∀ k, k < W2.heap.size → (∀ j, ov.ownBlock = some j → k ≠ j) → W3.heap[k]? = W2.heap[k]? := fun k hk hne => (hg.block k (by simp; omega) (fun e => hne k e.symm rfl)).trans (hal k hk)
  have sfar : ∀ (x : Value) k, k ≠ w.heap.size + 1 + 1 → (W3.setCell ⟨w.heap.size + 1 + 1, 2, none⟩ x).heap[k]? = W3.heap[k]? := fun x k hne => Below.heap_setCell W3 _ x k (by simpa using hne)
  have kbs : Keeps W2 (W3.setCell ⟨w.heap.size + 1 + 1, 2, none⟩ (.slice (some ⟨g, 0, none⟩) (l.length + 1) cap)) bs :=
    ⟨by simp [World.setCell]; omega, fun x hx hlt => (sfar _ x (by have := (h.lo x hx).1; omega)).trans (far x hlt (fun j hj e => h.sep j hj (by rw [← e]; exact hx)))⟩
  have kb1 : Keeps W2 (W3.setCell ⟨w.heap.size + 1 + 1, 2, none⟩ (.slice (some ⟨g, 0, none⟩) (l.length + 1) cap)) b1 :=
    ⟨by simp [World.setCell]; omega, fun x hx hlt => (sfar _ x (by have := hlo x hx; omega)).trans (far x hlt (fun j hj e => by have := (hown j hj).2; have := hlo x hx; omega))⟩
  have low3 : ∀ k, k < w.heap.size + 3 → W3.heap[k]? = W2.heap[k]? := fun k hk => far k (by have := hb.size; omega) (fun j hj e => by have := (hown j hj).1; omega)
  refine ⟨?_, ?_, ?_, ?_, ?_, ?_, ?_, ?_, ?_⟩
  · refine ⟨?_, ?_, ?_, ?_, ?_⟩
    · exact hg.os.trans h2.low.os
    · exact hg.tape.trans h2.low.tape
    · exact hg.output.trans h2.low.output
    · have := h2.low.size; simp [World.setCell]; omega
    · intro k hk
      exact ((sfar _ k (by omega)).trans (low3 k (by omega))).trans (h2.low.block k hk)
  · exact ((sfar _ _ (by omega)).trans (low3 _ (by omega))).trans h2.arg
  · exact ((sfar _ _ (by omega)).trans (low3 _ (by omega))).trans h2.res
  · have hr := row_set ((low3 (w.heap.size + 1 + 1) (by omega)).trans h2.out) 2 (.slice (some ⟨g, 0, none⟩) (l.length + 1) cap)
    unfold Box Row
    rw [hr]
    simp
  · rw [List.length_append]
    exact World.ownsRow.kept (row := some (w.heap.size + 1 + 1)) ho ⟨rfl, rfl, rfl, by simp [World.setCell], fun k _ hne => sfar _ k (fun e => hne (by rw [e]))⟩ (Or.inr (by simp [Value.ownBlock]; omega))
  · intro w' g' hw hk
    have hyl := h.own.1
    have k1 : Keeps (W3.setCell ⟨w.heap.size + 1 + 1, 2, none⟩ (.slice (some ⟨g, 0, none⟩) (l.length + 1) cap)) w' bs := ⟨hk.1, fun x hx => hk.2 x (List.mem_append_left _ hx)⟩
    have k2 : Keeps (W3.setCell ⟨w.heap.size + 1 + 1, 2, none⟩ (.slice (some ⟨g, 0, none⟩) (l.length + 1) cap)) w' b1 := ⟨hk.1, fun x hx => hk.2 x (List.mem_append_right _ hx)⟩
    refine ExsAt.snoc l 0 bs (h2.reads w' g' (fun j v hj => hw j v (by rw [List.getElem?_append_left (List.getElem?_eq_some_iff.1 hj).1]; exact hj)) (keeps_on kbs k1)) ?_
    rw [show 0 + (0 + l.length) * 3 = l.length * 3 by omega]
    have hc : ∀ (j : Nat) (v : Value), [Value.int .i64 e1.kind, .string e1.name, u1][j]? = some v → w'.cell? ⟨g', l.length * 3 + j, none⟩ = some v := fun j v hj =>
      hw _ v (by rw [List.getElem?_append_right (by omega), hyl, Nat.add_sub_cancel_left]; exact hj)
    exact ExAt.mk (u := u1) (hc 0 _ rfl) (hc 1 _ rfl) (hc 2 _ rfl) (h1.1.keeps (keeps_on kb1 k2))
  · intro x hx
    have : (W3.setCell ⟨w.heap.size + 1 + 1, 2, none⟩ (.slice (some ⟨g, 0, none⟩) (l.length + 1) cap)).heap.size = W3.heap.size := by simp [World.setCell]
    rcases List.mem_append.1 hx with hx | hx
    · have := (h2.lo x hx); omega
    · have := hlo x hx; have := hlt1 x hx; omega
  · intro k hk hx
    have hkg : k = g := by simpa [Value.ownBlock, eq_comm] using hk
    subst hkg
    rcases List.mem_append.1 hx with hx | hx
    · rcases hat with hat | hat
      · exact h.sep k hat hx
      · have := (h2.lo k hx).2; omega
    · rcases hat with hat | hat
      · have := (hown k hat).2; have := hlo k hx; omega
      · have := hlt1 k hx; omega
  · intro x hx o
    rcases List.mem_append.1 hx with hx | hx
    · exact (World.frozen?_of_block (w := W2) (a := ⟨x, o, none⟩) (kbs.2 x hx (h2.lo x hx).2)).trans (h2.free x hx o)
    · exact (World.frozen?_of_block (w := W2) (a := ⟨x, o, none⟩) (kb1.2 x hx (hlt1 x hx))).trans (h1.2 x hx o)

theorem Cp.start (w : World) (e : Ex) (u : Value) : Cp w e u [] (.slice none 0 0) [] [] (((w.alloc (.cells #[.int .i64 e.kind, .string e.name, u] 26)).alloc (.cells #[.int .i64 0, .string ⟨#[]⟩, .slice none 0 0] 26)).alloc (.cells #[.int .i64 e.kind, .string e.name, .slice none 0 0] 26)) where
  low := (((Below.refl w.heap.size w).alloc (Nat.le_refl _) _).alloc (by simp) _).alloc (by simp; omega) _
  arg := Row.alloc (Row.alloc (Row.new w 26 [.int .i64 e.kind, .string e.name, u]) _) _
  res := Row.alloc (by
    have := Row.new (w.alloc (.cells #[.int .i64 e.kind, .string e.name, u] 26)) 26 [.int .i64 0, .string ⟨#[]⟩, .slice none 0 0]
    simpa using this) _
  out := by
    have := Row.new ((w.alloc (.cells #[.int .i64 e.kind, .string e.name, u] 26)).alloc (.cells #[.int .i64 0, .string ⟨#[]⟩, .slice none 0 0] 26)) 26 [.int .i64 e.kind, .string e.name, .slice none 0 0]
    have hz : ((w.alloc (.cells #[.int .i64 e.kind, .string e.name, u] 26)).alloc (.cells #[.int .i64 0, .string ⟨#[]⟩, .slice none 0 0] 26)).heap.size = w.heap.size + 1 + 1 := by simp
    rw [hz] at this
    exact this
  own := ⟨rfl, Or.inl ⟨rfl, rfl⟩⟩
  reads := fun w' g' _ _ => by rw [ExsAt]
  lo := fun x hx => by cases hx
  sep := fun k hk => by cases hk
  free := fun x hx => by cases hx
theorem Cp.fin {w : World} {e : Ex} {u ov : Value} {ys : List Value} {bs : List Nat} {W : World} (h : Cp w e u e.args ov ys bs W) (hs : e.name.size ≤ 9223372036854775807) :
    Copy2End e w (.returned (.agg #[.int .i64 e.kind, .string e.name, ov])) (set3 W (w.heap.size + 1) (.int .i64 e.kind) (.string e.name) ov) := by
  have hbig := h.big
  rcases h.own.2 with ⟨rfl, h0⟩ | ⟨g, cap, cur, rfl, hb, hrow, c1, c2, -, htk⟩
  · have he : e.args = [] := List.eq_nil_of_length_eq_zero h0
    refine ⟨_, [], rfl, ⟨⟨_, rfl, hs, none, 0, by rw [he]; rfl, by rw [he]; decide, by decide, Or.inl ⟨he, rfl⟩⟩, fun x hx => by cases hx⟩, (fun x hx => by cases hx), set3_low h.low (by omega) _ _ _⟩
  · have hgl := (World.ownsRow.lt h.own g rfl).2
    have hk : Keeps W (set3 W (w.heap.size + 1) (.int .i64 e.kind) (.string e.name) (.slice (some ⟨g, 0, none⟩) e.args.length cap)) bs := set3_keeps (fun hx => by have := (h.lo _ hx).1; omega) _ _ _
    have hkg : Keeps W (set3 W (w.heap.size + 1) (.int .i64 e.kind) (.string e.name) (.slice (some ⟨g, 0, none⟩) e.args.length cap)) [g] := set3_keeps (by simp; omega) _ _ _
    have hex := h.reads _ g (fun j v hj => by
      have hc := World.ownsRow.cells h.own (g := g) rfl j v hj
      rw [addE, Nat.zero_add] at hc
      exact (World.cell?_of_block (w := W) (a := ⟨g, j, none⟩) (hkg.2 g (by simp) hgl)).trans hc) hk
    refine ⟨_, g :: bs, rfl, ⟨⟨_, rfl, hs, some ⟨g, 0, none⟩, cap, rfl, c1, by unfold maxLen at c2; omega, Or.inr ⟨g, 0, bs, rfl, Nat.lt_of_lt_of_le hgl hk.1, rfl, hex⟩⟩, fun x hx o => ?_⟩, fun x hx => ?_, set3_low h.low (by omega) _ _ _⟩
    · rcases List.mem_cons.1 hx with rfl | hx
      · refine (World.frozen?_of_block (w := W) (a := ⟨x, o, none⟩) (hkg.2 x (by simp) hgl)).trans ?_
        simp [World.frozen?, hrow]
      · exact (World.frozen?_of_block (w := W) (a := ⟨x, o, none⟩) (hk.2 x hx (h.lo x hx).2)).trans (h.free x hx o)
    rcases List.mem_cons.1 hx with rfl | hx
    · omega
    · have := (h.lo x hx).1; omega

theorem Cp.up {w : World} {e : Ex} {u ov : Value} {l : List Ex} {ys : List Value} {bs : List Nat} {W : World} (h : Cp w e u l ov ys bs W) : Below (w.heap.size + 1) (w.alloc (.cells #[.int .i64 e.kind, .string e.name, u] 26)) W := by
  have hbig := h.big
  refine ⟨h.low.os, h.low.tape, h.low.output, by simp; omega, fun k hk => ?_⟩
  by_cases hk2 : k < w.heap.size
  · exact (h.low.block k hk2).trans (Below.heap_alloc w _ k hk2).symm
  · obtain rfl : k = w.heap.size := by omega
    exact h.arg.trans (Row.new w 26 [.int .i64 e.kind, .string e.name, u]).symm
theorem Cp.grown {w : World} {e e1 : Ex} {u ov u1 : Value} {l : List Ex} {ys : List Value} {bs : List Nat} {W2 W3 : World} (h : Cp w e u l ov ys bs W2) (hg : (W2.alloc (.cells #[.int .i64 e1.kind, .string e1.name, u1] 26)).grownBy W3 ov.ownBlock) :
    Box W3 (w.heap.size + 1 + 1) (.int .i64 e.kind) (.string e.name) ov ∧ Below (w.heap.size + 1) (w.alloc (.cells #[.int .i64 e.kind, .string e.name, u] 26)) W3 := by
  have hbig := h.big
  have hown : ∀ k, ov.ownBlock = some k → w.heap.size + 3 ≤ k := fun k hk => (World.ownsRow.lt h.own k hk).1
  have h3 : ∀ k, k < w.heap.size + 3 → W3.heap[k]? = W2.heap[k]? := fun k hk => (hg.block k (by simp; omega) (fun e => by have := hown k e.symm; omega)).trans (Below.heap_alloc _ _ k (by omega))
  have hz := hg.size
  have hu := h.up
  exact ⟨(h3 _ (by omega)).trans h.out, hg.os.trans hu.os, hg.tape.trans hu.tape, hg.output.trans hu.output, by have := hu.size; simp at *; omega, fun k hk => (h3 k (by omega)).trans (hu.block k hk)⟩
theorem cp_cells {w : World} {e e1 : Ex} {g o m c k : Nat} {bs : List Nat} {u1 : Value} {W0 : World} (hu : SlIs w (.slice (some ⟨g, o, none⟩) m c) e.args bs) (hm : m = e.args.length) (hlt : k < m) (hget : e.args[k]? = some e1) {W : World}
    (hW0 : W0.cell? ⟨g, o + k * 3 + 2, none⟩ = some u1) (hb0 : Below w.heap.size w W0)
    (h : Below (w.heap.size + 1) (w.alloc (.cells #[.int .i64 e.kind, .string e.name, .slice (some ⟨g, o, none⟩) m c] 26)) W) :
    W.cell? ⟨g, o + k * 3, none⟩ = some (.int .i64 e1.kind) ∧ W.cell? ⟨g, o + k * 3 + 1, none⟩ = some (.string e1.name) ∧ W.cell? ⟨g, o + k * 3 + 2, none⟩ = some u1 ∧ W.cell? ⟨w.heap.size, 2, none⟩ = some (.slice (some ⟨g, o, none⟩) m c) := by
  obtain ⟨g', o', e1', u1', b1', heq, hbl, hget', -, c1, c2, c3, -, -⟩ := hu.get k (by rw [← hm]; exact hlt)
  cases heq
  obtain rfl : e1 = e1' := Option.some.inj (hget.symm.trans hget')
  have hbw : Below w.heap.size w W := ((Below.refl w.heap.size w).alloc (Nat.le_refl _) _).trans (h.mono (Nat.le_succ _))
  have hc : ∀ j, W.cell? ⟨g, j, none⟩ = w.cell? ⟨g, j, none⟩ := fun j => hbw.cell (p := ⟨g, j, none⟩) hbl
  have hu1 : u1 = u1' := Option.some.inj (hW0.symm.trans ((hb0.cell (p := ⟨g, o + k * 3 + 2, none⟩) hbl).trans c3))
  subst hu1
  refine ⟨(hc _).trans c1, (hc _).trans c2, (hc _).trans c3, ?_⟩
  exact Row.cell (w := W) ((h.block w.heap.size (Nat.lt_succ_self _)).trans (Row.new w 26 [.int .i64 e.kind, .string e.name, .slice (some ⟨g, o, none⟩) m c])) 2 _ rfl
theorem own_at {w : World} {e : Ex} {u ov : Value} {l : List Ex} {ys : List Value} {bs : List Nat} {W : World} (h : Cp w e u l ov ys bs W) {k : Nat} (hk : l.length = k) : W.ownsRow (w.heap.size + 3) 26 3 ov k ys := by rw [← hk]; exact h.own
theorem own_to {W : World} {l : List Ex} {B g c k : Nat} {xs : List Value} (hk : l.length = k) (h : W.ownsRow B 26 3 (.slice (some ⟨g, 0, none⟩) (k + 1) c) (k + 1) xs) : W.ownsRow B 26 3 (.slice (some ⟨g, 0, none⟩) (l.length + 1) c) (l.length + 1) xs := by rw [hk]; exact h
theorem size_far {w : World} {e : Ex} {u ov : Value} {l : List Ex} {ys : List Value} {bs : List Nat} {W : World} (h : Cp w e u l ov ys bs W) (o : Obj) : w.heap.size + 3 ≤ (W.alloc o).heap.size := by have := h.big; simp; omega
theorem cp_one (e1 : Ex) (A : Option Addr) (n c : Nat) : ∀ u ∈ [Value.int .i64 e1.kind, .string e1.name, .slice A n c], u.oneCell' = true := by intro u hu; simp at hu; rcases hu with rfl | rfl | rfl <;> rfl

set_option maxHeartbeats 4000000 in
theorem copy2_step (n : Nat) (ih : ∀ (e : Ex) (v : Value) (bs : List Nat) (w : World), exSize e ≤ n → ExIs w v e bs → exSize e ≤ 1099511627776 → Calls Try.prog 67 #[v] w (Copy2End e w))
    (e : Ex) (v : Value) (bs : List Nat) (w : World) (hle : exSize e ≤ n + 1) (hv : ExIs w v e bs) (hb : exSize e ≤ 1099511627776) : Calls Try.prog 67 #[v] w (Copy2End e w) := by
  obtain ⟨i0, hi, hz0, hz1, hz2⟩ := info_parts Try.infoEx
  have HI := Lib.hid (And.intro hi (And.intro hz0 (And.intro hz1 hz2)))
  clear hi hz0 hz1 hz2
  obtain ⟨u, rfl, hsz, hu⟩ := hv
  obtain ⟨A, c, rfl, hc1, hc2, -⟩ := id hu
  have HSZ := Lib.hid hsz
  have HU := Lib.hid hu
  have HIH := Lib.hid ih
  have hES : exSize e = exSizes e.args + 1 := by cases e; rfl
  have hlen := sizes_len e.args
  have HN := Lib.hid (show exSizes e.args ≤ n by omega)
  have HBD := Lib.hid (show exSizes e.args ≤ 1099511627776 by omega)
  obtain ⟨m, hm⟩ : ∃ m, m = e.args.length := ⟨_, rfl⟩
  have HST := Lib.hid (Cp.start w e (.slice A e.args.length c))
  rw [← hm] at hc1 HU HST hlen ⊢
  have HM := Lib.hid hm
  have hm40 : m ≤ 1099511627776 := by omega
  clear hu hsz ih hle hb hlen hm hES
  go_enter Try.func67, Try.ntmps67
  go_wp2_with fail
  go_loopw [4] (fun i wr => ∃ (k : Nat) (AO : Option Addr) (co : Nat) (ys : List Value) (cs : List Nat), k ≤ m ∧ i = .int .i64 (k : Int) ∧ Hid (Cp w e (.slice A m c) (e.args.take k) (.slice AO k co) ys cs wr)) (fun i _ => m - (intOf i).toNat)
  case atStart => exact ⟨0, none, 0, [], [], Nat.zero_le _, rfl, HST⟩
  case round =>
    clear HST
    obtain ⟨k, AO, co, ys, cs, hk, rfl, HP⟩ := hrel
    obtain ⟨a0, a1, a2, af⟩ := HP.out.arg.facts
    obtain ⟨o0, o1, o2, of_⟩ := HP.out.out.facts
    have hbig := HP.out.big
    by_cases hlt : k < m
    · obtain ⟨g, o, e1, u1, b1, rfl, hbl, hget, hmem, c1, c2, c3, his, -⟩ := (HU.out.below HP.out.low).get k (by rw [← HM.out]; exact hlt)
      have HTK := Lib.hid (show e.args.take (k + 1) = e.args.take k ++ [e1] by
        have hk2 : k < e.args.length := by rw [← HM.out]; exact hlt
        rw [List.take_succ_eq_append_getElem hk2, (List.getElem?_eq_some_iff.1 hget).2])
      have HLK := Lib.hid (show (e.args.take k).length = k by rw [List.length_take, ← HM.out]; omega)
      have HCALL := Lib.hid (fun (W : World) (hb : Below wr.heap.size wr W) => HIH.out e1 _ b1 W (by have := exSizes_mem hmem; have := HN.out; omega) (his.below hb) (by have := exSizes_mem hmem; have := HBD.out; omega))
      clear his hmem
      have hk0 : 0 ≤ (k : Int) := by omega
      have hkn : (k : Int) < (m : Int) := by omega
      have HEL := Lib.hid (And.intro c1 (And.intro c2 c3))
      have HAR := Lib.hid a2
      have HUP := Lib.hid HP.out.up
      have HSX := Lib.hid (fun (W : World) (h : Below (w.heap.size + 1) (w.alloc (.cells #[.int .i64 e.kind, .string e.name, .slice (some ⟨g, o, none⟩) m c] 26)) W) => cp_cells HU.out HM.out hlt hget HEL.out.2.2 HP.out.low h)
      clear c1 c2 c3 a0 a1 a2 af
      have hgl : g < wr.heap.size := hbl
      have CM := Lib.hid (show k + 1 ≤ maxLen by unfold maxLen; omega)
      have CB := Lib.hid (show (k + 1) * 48 ≤ 140737488355328 by omega)
      obtain ⟨c1, c2, c3, a2⟩ := HSX.out wr HUP.out
      go_wp2_with fail
      go_region_law
        (first
        | (go_simp; go_at_call 67; refine (HCALL.out _ (Below.refl _ _).drew).mono ?_; rintro r w2 ⟨_, b2, rfl, hs2, hlo2, hb2⟩; obtain ⟨⟨u2, rfl, hsz2, hu2⟩, -⟩ := id hs2; obtain ⟨A2, c2', rfl, -⟩ := id hu2; have hbb := (Below.refl wr.heap.size wr).drew.trans hb2; have hp2 := HP.out.below hbb; have HU2 := Lib.hid hp2.up; have hbz2 : w.heap.size + 1 ≤ w2.heap.size := Nat.le_trans (Nat.le_add_right _ 2) hp2.big; obtain ⟨p0, p1, p2, pf⟩ := hp2.out.facts; have hbl2 : w.heap.size + 1 + 1 < w2.heap.size := hp2.out.lt; have HP2 := Lib.hid hp2; have HS2 := Lib.hid hs2; have HL2 := Lib.hid hlo2; have HBB := Lib.hid hbb; clear hs2 hu2 hlo2 hb2 hbb hp2 hsz2)
        | (refine step_append_lies _ (by rfl) _ _ _ (by rfl) (w.heap.size + 3) 26 i0 _ 3 48 Try.underlying24 HI.out.1 HI.out.2.1 HI.out.2.2.1 HI.out.2.2.2 rfl (by decide) (.slice AO k co) k ys (by rfl) (World.ownsRow.alloc (own_at HP2.out HLK.out) _) ⟨w2.heap.size, 0, none⟩ 1 1 [.int .i64 e1.kind, .string e1.name, .slice A2 e1.args.length c2'] (by rfl) (by rfl) (World.news_of_block (heap_alloc_new w2 _)) (cp_one e1 A2 _ c2') (by decide) CM.out CB.out (size_far HP2.out _) (w2.heap.size + 1) (by simp) ?_; intro g3 c3' w3 ho3 hg3 hat3 hlt3; have HCP := Lib.hid (Cp.step HP.out HBB.out HS2.out HL2.out (own_to HLK.out ho3) hg3 hat3); have HGR := Lib.hid (Cp.grown HP2.out hg3); obtain ⟨t0, t1, t2, tf⟩ := HGR.out.1.facts; clear ho3 hg3 hat3 hlt3))
      all_goals
        have hcp := HCP.out
        rw [HLK.out, ← HTK.out] at hcp
        have HNX := Lib.hid hcp
        clear hcp HCP HGR HU2 HP2 HS2 HL2 HBB HP HSX HUP HAR HEL HCALL c1 c2 c3 a2 o0 o1 o2 of_ p0 p1 p2 pf t0 t1 t2 tf
        go_wp2_with fail
        go_roundw
        case rel => exact ⟨k + 1, some ⟨g3, 0, none⟩, c3', _, _, by omega, by go_num, HNX⟩
        case measure => simp [intOf]; omega
    · have HE := Lib.hid (show e.args.take k = e.args from List.take_of_length_le (by rw [← HM.out]; omega))
      have hp := HP.out
      rw [HE.out] at hp
      have HP2 := Lib.hid hp
      clear hp
      obtain ⟨r0, r1, r2, rf⟩ := HP.out.res.facts
      have hmk : m = k := by omega
      go_wp2_with fail
      refine bodyPost_ret (v := .agg #[.int .i64 e.kind, .string e.name, .slice AO k co]) (by simp [results, Try.results67, go_sem, r0, r1, r2]) rfl ?_
      exact Cp.fin HP2.out HSZ.out
theorem copy2_any (n : Nat) : ∀ (e : Ex) (v : Value) (bs : List Nat) (w : World), exSize e ≤ n → ExIs w v e bs → exSize e ≤ 1099511627776 → Calls Try.prog 67 #[v] w (Copy2End e w) := by
  induction n with
  | zero => intro e v bs w h; have := exSize_pos e; omega
  | succ n ih => intro e v bs w h1 h2 h3; exact copy2_step n ih e v bs w h1 h2 h3
end Go.Proofs.Ytmndlhbgacgnlaa
