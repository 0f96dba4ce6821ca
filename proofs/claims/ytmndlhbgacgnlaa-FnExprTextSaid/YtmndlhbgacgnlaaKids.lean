/- A row of expressions that a call builds by append, while calls in between make the parts. No condition. -/
import Derived.Test.YtmndlhbgacgnlaaExCopy
import Derived.Test.YtmndlhbgacgnlaaFrame
import Derived.Deep.AppendLies
namespace Go.Proofs.Ytmndlhbgacgnlaa
open Go Go.RowKit

/-- The cells vs are those of the expressions l, whose slices lie in the blocks bs. -/
def CellsOf (W : World) : List Ex → List Value → List Nat → Prop
  | [], vs, bs => vs = [] ∧ bs = []
  | e :: r, vs, bs => ∃ u b1 vs2 b2, vs = [.int .i64 e.kind, .string e.name, u] ++ vs2 ∧ bs = b1 ++ b2 ∧ ExIs W (.agg #[.int .i64 e.kind, .string e.name, u]) e b1 ∧ CellsOf W r vs2 b2
theorem CellsOf.keeps {W W2 : World} : ∀ {l : List Ex} {vs : List Value} {bs : List Nat}, CellsOf W l vs bs → Keeps W W2 bs → CellsOf W2 l vs bs := by
  intro l
  induction l with
  | nil => intro vs bs h _; exact h
  | cons e r ih =>
    intro vs bs h hk
    obtain ⟨u, b1, vs2, b2, e1, rfl, h1, h2⟩ := h
    exact ⟨u, b1, vs2, b2, e1, rfl, h1.keeps ⟨hk.1, fun x hx => hk.2 x (List.mem_append_left _ hx)⟩, ih h2 ⟨hk.1, fun x hx => hk.2 x (List.mem_append_right _ hx)⟩⟩
theorem CellsOf.snoc {W : World} {e : Ex} {u : Value} {b1 : List Nat} (h1 : ExIs W (.agg #[.int .i64 e.kind, .string e.name, u]) e b1) : ∀ {l : List Ex} {vs : List Value} {bs : List Nat}, CellsOf W l vs bs → CellsOf W (l ++ [e]) (vs ++ [.int .i64 e.kind, .string e.name, u]) (bs ++ b1) := by
  intro l
  induction l with
  | nil =>
    intro vs bs h
    obtain ⟨rfl, rfl⟩ := h
    exact ⟨u, b1, [], [], rfl, by simp, h1, rfl, rfl⟩
  | cons x r ih =>
    intro vs bs h
    obtain ⟨y, b3, vs2, b2, rfl, rfl, h3, h2⟩ := h
    exact ⟨y, b3, _, _, by rw [List.append_assoc], by rw [List.append_assoc], h3, ih h2⟩
theorem CellsOf.exs {W : World} {g o : Nat} : ∀ {l : List Ex} {vs : List Value} {bs : List Nat} (i : Nat), CellsOf W l vs bs → (∀ j u, vs[j]? = some u → W.cell? ⟨g, o + i * 3 + j, none⟩ = some u) → ExsAt W g o i l bs := by
  intro l
  induction l with
  | nil => intro vs bs i h _; rw [ExsAt]; exact h.2
  | cons e r ih =>
    intro vs bs i h hc
    obtain ⟨u, b1, vs2, b2, rfl, rfl, h1, h2⟩ := h
    rw [ExsAt]
    refine ⟨b1, b2, rfl, ExAt.mk (u := u) (hc 0 _ rfl) (hc 1 _ rfl) (hc 2 _ rfl) h1, ih (i + 1) h2 (fun j v hj => ?_)⟩
    have h3 := hc (j + 3) v (by rw [List.getElem?_append_right (by simp)]; simpa using hj)
    rw [show o + i * 3 + (j + 3) = o + (i + 1) * 3 + j by omega] at h3
    exact h3

/-- The slice v of the call's own holds the expressions l, whose slices lie in the blocks bs of the call's own. -/
structure Kids (base : Nat) (W : World) (v : Value) (l : List Ex) (bs : List Nat) : Prop where
  row : ∃ vs, W.ownsRow base 26 3 v l.length vs ∧ CellsOf W l vs bs
  mine : Mine W base bs
  apart : ∀ g, v.ownBlock = some g → g ∉ bs
theorem Kids.nilled (base : Nat) (W : World) : Kids base W (.slice none 0 0) [] [] := ⟨⟨[], World.ownsRow_nil _ _ _ _, rfl, rfl⟩, Mine.nil _ _, fun g h => by cases h⟩
theorem Kids.made (W : World) {base : Nat} (hb : base ≤ W.heap.size) : Kids base (W.alloc (.cells #[] 26)) (.slice (some ⟨W.heap.size, 0, none⟩) 0 0) [] [] :=
  ⟨⟨[], World.ownsRow_made W #[] 0 hb (Nat.zero_le _) rfl, rfl, rfl⟩, Mine.nil _ _, fun g _ h => by cases h⟩
theorem Kids.keep {base : Nat} {W W2 : World} {v : Value} {l : List Ex} {bs S : List Nat} (h : Kids base W v l bs) (hf : Fr S W W2) (hS : ∀ x ∈ S, x < base) : Kids base W2 v l bs := by
  obtain ⟨⟨vs, hr, hc⟩, hm, ha⟩ := h
  have hk : Keeps W W2 bs := ⟨hf.size, fun x hx hlt => hf.block x hlt (fun hs => by have := hS x hs; have := (hm.range x hx).1; omega)⟩
  exact ⟨⟨vs, row_on hr (fun k e => hf.block k (hr.lt k e).2 (fun hs => by have := hS k hs; have := (hr.lt k e).1; omega)), hc.keeps hk⟩, hm.keeps hk, ha⟩
theorem Kids.form {base : Nat} {W : World} {v : Value} {l : List Ex} {bs : List Nat} (h : Kids base W v l bs) : ∃ A c, v = .slice A l.length c ∧ l.length ≤ c ∧ c ≤ maxLen := by
  obtain ⟨⟨vs, hr, hc⟩, -, -⟩ := h
  rcases hr.2 with ⟨rfl, h0⟩ | ⟨g, cap, cur, rfl, -, -, h1, h2, -⟩
  · exact ⟨Option.none, 0, by rw [h0], by omega, by unfold maxLen; omega⟩
  · exact ⟨_, cap, rfl, h1, h2⟩
/-- What has been built is a slice of expressions. -/
theorem Kids.is {base : Nat} {W : World} {v : Value} {l : List Ex} {bs : List Nat} (h : Kids base W v l bs) : ∃ bs2, SlIs W v l bs2 ∧ Mine W base bs2 := by
  obtain ⟨⟨vs, hr, hc⟩, hm, ha⟩ := h
  rcases hr.2 with ⟨rfl, h0⟩ | ⟨g, cap, cur, rfl, hb, hg, h1, h2, -⟩
  · obtain rfl : l = [] := List.eq_nil_of_length_eq_zero h0
    obtain ⟨-, rfl⟩ := hc
    exact ⟨[], ⟨_, _, rfl, Nat.le_refl _, by omega, Or.inl ⟨rfl, rfl⟩⟩, Mine.nil _ _⟩
  · have hlt : g < W.heap.size := (Array.getElem?_eq_some_iff.1 hg).1
    refine ⟨g :: bs, ⟨_, _, rfl, h1, by unfold maxLen at h2; omega, Or.inr ⟨g, 0, bs, rfl, hlt, rfl, hc.exs 0 (fun j u hj => ?_)⟩⟩, ?_⟩
    · have h3 := hr.cells (g := g) rfl j u hj
      rw [show (⟨g, 0, none⟩ : Addr).add j = ⟨g, 0 + 0 * 3 + j, none⟩ by unfold Addr.add; split <;> simp_all] at h3
      exact h3
    · refine ⟨List.nodup_cons.2 ⟨ha g rfl, hm.nodup⟩, fun x hx => ?_, fun x hx o => ?_⟩
      · rcases List.mem_cons.1 hx with rfl | hx
        · exact ⟨hb, hlt⟩
        · exact hm.range x hx
      · rcases List.mem_cons.1 hx with rfl | hx
        · exact hr.frozenAt o
        · exact hm.free x hx o
/-- An expression more. -/
theorem Kids.push {base : Nat} {W W3 : World} {v : Value} {l : List Ex} {bs b1 : List Nat} {e : Ex} {u : Value} {vs : List Value} {o : Obj} {g cap C : Nat} (h : Kids base W v l bs) (hC : base ≤ C) (hC2 : ∀ x, x ∈ bs ∨ v.ownBlock = some x → x < C)
    (hvs : W.ownsRow base 26 3 v l.length vs ∧ CellsOf W l vs bs) (he : ExIs W (.agg #[.int .i64 e.kind, .string e.name, u]) e b1) (hm : Mine W C b1)
    (ho : W3.ownsRow base 26 3 (.slice (some ⟨g, 0, none⟩) (l.length + 1) cap) (l.length + 1) (vs ++ [.int .i64 e.kind, .string e.name, u])) (hg : (W.alloc o).grownBy W3 v.ownBlock) (hat : v.ownBlock = some g ∨ g = (W.alloc o).heap.size) :
    Kids base W3 (.slice (some ⟨g, 0, none⟩) (l.length + 1) cap) (l ++ [e]) (bs ++ b1) := by
  have hl : ∀ x ∈ bs ++ b1, x < W.heap.size ∧ v.ownBlock ≠ some x := fun x hx => by
    rcases List.mem_append.1 hx with hx | hx
    · exact ⟨(h.mine.range x hx).2, fun hh => h.apart x hh hx⟩
    · exact ⟨(hm.range x hx).2, fun hh => by have := hC2 x (Or.inr hh); have := (hm.range x hx).1; omega⟩
  have hk : Keeps W W3 (bs ++ b1) := ⟨by have := hg.size; simp at this; omega, fun x hx hlt => (hg.block x (by simp; omega) (fun hh => (hl x hx).2 hh.symm)).trans (Below.heap_alloc W o x hlt)⟩
  refine ⟨⟨_, by rw [List.length_append]; exact ho, (hvs.2.snoc he).keeps hk⟩, ?_, fun k hkk hx => ?_⟩
  · have hj : Mine W base (bs ++ b1) := by
      refine ⟨?_, fun x hx => ?_, fun x hx => ?_⟩
      · rw [List.nodup_append]
        exact ⟨h.mine.nodup, hm.nodup, fun a ha b hb e => by have := hC2 a (Or.inl ha); have := (hm.range b hb).1; omega⟩
      · rcases List.mem_append.1 hx with hx | hx
        · exact h.mine.range x hx
        · exact ⟨Nat.le_trans hC (hm.range x hx).1, (hm.range x hx).2⟩
      · rcases List.mem_append.1 hx with hx | hx
        · exact h.mine.free x hx
        · exact hm.free x hx
    exact hj.keeps hk
  · obtain rfl : k = g := by simpa [Value.ownBlock, eq_comm] using hkk
    rcases hat with hat | hat
    · exact (hl k hx).2 hat
    · have := (hl k hx).1; simp at hat; omega
end Go.Proofs.Ytmndlhbgacgnlaa
