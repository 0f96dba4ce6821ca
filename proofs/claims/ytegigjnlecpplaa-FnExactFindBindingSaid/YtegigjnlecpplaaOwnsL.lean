/- A slice of strings that a call owns. No condition. -/
import Derived.Test.YtegigjnlecpplaaStrs
import Derived.Laws.OwnMore
namespace Go.Proofs.Ytegigjnlecpplaa
open Go Go.RowKit

/-- A slice value that owns the strings xs. -/
def OwnsL (B : Nat) (w : World) (v : Value) (xs : List ByteArray) : Prop := w.ownsRow B 9 1 v xs.length (xs.map Value.string)
theorem OwnsL.shape {B : Nat} {w : World} {v : Value} {xs : List ByteArray} (h : OwnsL B w v xs) :
    ∃ A cap, v = .slice A xs.length cap ∧ Strs w A xs := by
  rcases h.2 with ⟨rfl, h0⟩ | ⟨g, cap, cur, rfl, hb, -⟩
  · refine ⟨none, 0, ?_, ?_⟩
    · rw [h0]
    · have : xs = [] := List.eq_nil_of_length_eq_zero h0
      subst this
      exact fun i x hx => by simp at hx
  · have hl := h.lt g rfl
    exact ⟨_, cap, rfl, fun i x hx => ⟨_, rfl, h.cells (g := g) rfl i _ (by rw [List.getElem?_map, hx]; rfl), hl.2⟩⟩

theorem Try.info9u : (Try.prog.info? 9).map (fun i => (i.zero, i.size, i.bytes)) = some (some (.string ⟨#[]⟩), 1, 16) := by kernel_rfl
theorem OwnsL.next {B : Nat} {w1 : World} {v : Value} {out : List ByteArray} {x : ByteArray} (h : w1.ownsRow B 9 1 v (out.length + 1) (out.map Value.string ++ [Value.string x])) : OwnsL B w1 v (out ++ [x]) := by
  unfold OwnsL; rw [List.length_append, List.map_append]; exact h
theorem OwnsL.grown {w wr w1 : World} {v : Value} {n : Nat} {l : List Value} (hb : Below w.heap.size w wr) (ho : wr.ownsRow w.heap.size 9 1 v n l) (hg : wr.grownBy w1 v.ownBlock) : Below w.heap.size w w1 :=
  hb.grown hg hb.size (fun k hk => (ho.lt k hk).1)
theorem cell_new {W : World} {x : ByteArray} : ∀ j u, [Value.string x][j]? = some u → (W.alloc (.cells #[.string x] 9)).cell? ((⟨W.heap.size, 0, none⟩ : Addr).add j) = some u := fun j u hu => by
  have hj : j = 0 := by
    rcases j with _ | j
    · rfl
    · simp at hu
  subst hj
  simp at hu
  rw [← hu]; simp [go_sem]
theorem one_new {x : ByteArray} : ∀ u ∈ [Value.string x], u.oneCell' = true := fun u hu => by rw [List.mem_singleton] at hu; rw [hu]; rfl
end Go.Proofs.Ytegigjnlecpplaa
