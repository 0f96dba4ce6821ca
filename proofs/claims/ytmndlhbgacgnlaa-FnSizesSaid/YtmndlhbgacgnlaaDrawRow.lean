/- Rows of cells beside a cursor. No condition. -/
import Derived.Test.YtmndlhbgacgnlaaDraw
namespace Go.Proofs.Ytmndlhbgacgnlaa
open Go Go.RowKit

theorem Cur.alloc {w : World} {g n cap : Nat} {A : Option Addr} (h : Cur w g A n cap) (o : Obj) : Cur (w.alloc o) g A n cap := by
  have hl := h.lt
  obtain ⟨k, x, hk, hr⟩ := h
  exact ⟨k, x, hk, (Below.heap_alloc w o g hl).trans hr⟩
theorem Bytes.alloc {w : World} {B : Nat} {A : Option Addr} {zs : List Int} (h : Bytes w B A zs) (hB : B ≤ w.heap.size) (o : Obj) : Bytes (w.alloc o) B A zs := h.below ((Below.refl B w).alloc hB o)
/-- Block b is a row of just these cells. -/
def Row (w : World) (b : Nat) (t : TypeId) (cs : List Value) : Prop := w.heap[b]? = some (.cells cs.toArray t (0, 0))
theorem Row.new (w : World) (t : TypeId) (cs : List Value) : Row (w.alloc (.cells cs.toArray t)) w.heap.size t cs := heap_alloc_new w _
theorem Row.lt {w : World} {b : Nat} {t : TypeId} {cs : List Value} (h : Row w b t cs) : b < w.heap.size := by
  rcases Nat.lt_or_ge b w.heap.size with h' | h'
  · exact h'
  · unfold Row at h; rw [Array.getElem?_eq_none h'] at h; cases h
theorem Row.only {w w' : World} {b g : Nat} {t : TypeId} {cs : List Value} (h : Row w b t cs) (ho : Only g w w') (hne : b ≠ g) : Row w' b t cs :=
  (ho.block b h.lt (fun e => hne (Option.some.inj e))).trans h
theorem Row.cell {w : World} {b : Nat} {t : TypeId} {cs : List Value} (h : Row w b t cs) (i : Nat) (v : Value) (hv : cs[i]? = some v) : w.cell? ⟨b, i, none⟩ = some v := by
  rw [cell_of_row w b i cs.toArray t (0, 0) h]; simpa using hv

theorem Only.alloc {g : Nat} {a w : World} (h : Only g a w) (o : Obj) : Only g a (w.alloc o) :=
  ⟨h.os, h.tape, h.output, Nat.le_trans h.size (by simp), fun i hi hne => (Below.heap_alloc w o i (Nat.lt_of_lt_of_le hi h.size)).trans (h.block i hi hne)⟩
end Go.Proofs.Ytmndlhbgacgnlaa
