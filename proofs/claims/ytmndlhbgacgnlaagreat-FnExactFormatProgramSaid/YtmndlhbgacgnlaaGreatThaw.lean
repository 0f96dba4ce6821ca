/- The walks of the exact laws of chapter 5 over one program: each from a contract of the program's own function. Conditions: those contracts; the argument lies in memory. What lies in memory of its own, shared by no string. No condition. -/
import Derived.Test.YtmndlhbgacgnlaaGreatRuFits
import Derived.Test.YtmndlhbgacgnlaaGreatRuCopy
import Derived.Test.YtmndlhbgacgnlaaGreatRuEq
import Derived.Test.YtmndlhbgacgnlaaGreatLawSizes
namespace Go.Proofs.YtmndlhbgacgnlaaGreat
open Go Go.RowKit

theorem lbox {w W : World} {u : Value} (hb : Below (w.alloc (.cells #[u] 46)).heap.size (w.alloc (.cells #[u] 46)) W) : W.cell? ⟨w.heap.size, 0, none⟩ = some u := by
  have h : W.heap[w.heap.size]? = some (.cells #[u] 46 (0, 0)) := (hb.block _ (by simp)).trans (by show (w.heap.push _)[w.heap.size]? = _; simp)
  rw [World.cell?, h]; rfl
theorem kept2_step {wr X w2 : World} {a1 a2 : Addr} {v1 v2 : Value} (hl : Hid (a1.block < wr.heap.size ∧ a2.block < wr.heap.size)) (hb : Below X.heap.size X w2)
    (h : X.cell? a1 = some v1 ∧ X.cell? a2 = some v2 ∧ Hid (Below wr.heap.size wr X)) : w2.cell? a1 = some v1 ∧ w2.cell? a2 = some v2 ∧ Hid (Below wr.heap.size wr w2) := by
  obtain ⟨c1, c2, HB⟩ := h
  obtain ⟨l1, l2⟩ := hl.out
  have hs := HB.out.size
  exact ⟨(hb.cell (p := a1) (Nat.lt_of_lt_of_le l1 hs)).trans c1, (hb.cell (p := a2) (Nat.lt_of_lt_of_le l2 hs)).trans c2, Lib.hid (HB.out.trans (hb.mono hs))⟩
theorem kept2_start {wr : World} {a1 a2 : Addr} {v1 v2 : Value} (h : Hid (wr.cell? a1 = some v1 ∧ wr.cell? a2 = some v2)) : wr.drew.cell? a1 = some v1 ∧ wr.drew.cell? a2 = some v2 ∧ Hid (Below wr.heap.size wr wr.drew) :=
  ⟨h.out.1, h.out.2, Lib.hid (Below.refl _ _).drew⟩

end Go.Proofs.YtmndlhbgacgnlaaGreat

namespace Go.Proofs.YtmndlhbgacgnlaaGreat
open Go Go.RowKit

/-- No string shares the memory of what is at hand. -/
def Thawed (W : World) (bs : List Nat) : Prop := ∀ x ∈ bs, x < W.heap.size ∧ ∀ o, W.frozen? ⟨x, o, none⟩ = false
theorem Thawed.below {W W2 : World} {bs : List Nat} (h : Thawed W bs) (hb : Below W.heap.size W W2) : Thawed W2 bs := fun x hx => ⟨Nat.lt_of_lt_of_le (h x hx).1 hb.size, fun o => (hb.frozen (p := ⟨x, o, none⟩) (h x hx).1).trans ((h x hx).2 o)⟩

theorem mine_thawed {W : World} {B : Nat} {b2 : List Nat} (h2 : Mine W B b2) : Thawed W b2 := fun x h => ⟨(h2.range x h).2, h2.free x h⟩
theorem thawed_both {W : World} {B C : Nat} {b2 b3 : List Nat} (h2 : Mine W B b2) (h3 : Mine W C b3) : Thawed W (b2 ++ b3) := fun x hx => (List.mem_append.1 hx).elim (fun h => ⟨(h2.range x h).2, h2.free x h⟩) (fun h => ⟨(h3.range x h).2, h3.free x h⟩)
end Go.Proofs.YtmndlhbgacgnlaaGreat
