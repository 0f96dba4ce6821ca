/- FnExactSizeOf, FnExactDepthOf, FnExactIsValidExpr, FnExactIsData, FnExactCallsOf, from contracts of the program's own functions. Conditions: those contracts; the argument lies in memory as an expression. -/
import Derived.Test.YtegigjnlecpplaaExSz
import Derived.Test.YtegigjnlecpplaaExEq
import Derived.Test.YtegigjnlecpplaaExCopy
import Derived.Test.YtegigjnlecpplaaSpecValid
import Derived.Deep.RegionHeld3
namespace Go.Proofs.Ytegigjnlecpplaa
open Go Go.RowKit

/-- Six cells that stay. -/
theorem keep6_start {wr : World} {a b c d e f : Addr} {x1 x2 x3 x4 x5 x6 : Value} (h : wr.cell? a = some x1 ∧ wr.cell? b = some x2 ∧ wr.cell? c = some x3 ∧ wr.cell? d = some x4 ∧ wr.cell? e = some x5 ∧ wr.cell? f = some x6) :
    wr.drew.cell? a = some x1 ∧ wr.drew.cell? b = some x2 ∧ wr.drew.cell? c = some x3 ∧ wr.drew.cell? d = some x4 ∧ wr.drew.cell? e = some x5 ∧ wr.drew.cell? f = some x6 ∧ Hid (Below wr.heap.size wr wr.drew) :=
  ⟨h.1, h.2.1, h.2.2.1, h.2.2.2.1, h.2.2.2.2.1, h.2.2.2.2.2, Lib.hid (Below.refl _ _).drew⟩
theorem keep6_step {wr X w2 : World} {a b c d e f : Addr} {x1 x2 x3 x4 x5 x6 : Value} (h : Hid (wr.cell? a = some x1 ∧ wr.cell? b = some x2 ∧ wr.cell? c = some x3 ∧ wr.cell? d = some x4 ∧ wr.cell? e = some x5 ∧ wr.cell? f = some x6)) (hb : Below X.heap.size X w2)
    (hX : X.cell? a = some x1 ∧ X.cell? b = some x2 ∧ X.cell? c = some x3 ∧ X.cell? d = some x4 ∧ X.cell? e = some x5 ∧ X.cell? f = some x6 ∧ Hid (Below wr.heap.size wr X)) :
    w2.cell? a = some x1 ∧ w2.cell? b = some x2 ∧ w2.cell? c = some x3 ∧ w2.cell? d = some x4 ∧ w2.cell? e = some x5 ∧ w2.cell? f = some x6 ∧ Hid (Below wr.heap.size wr w2) := by
  have HB := hX.2.2.2.2.2.2
  have hw := HB.out.trans (hb.mono HB.out.size)
  have k : ∀ {p : Addr} {x : Value}, wr.cell? p = some x → w2.cell? p = some x := fun {p x} hp => (hw.cell (p := p) (World.block_lt_of_cell? wr _ hp)).trans hp
  obtain ⟨h1, h2, h3, h4, h5, h6⟩ := h.out
  exact ⟨k h1, k h2, k h3, k h4, k h5, k h6, Lib.hid hw⟩
theorem six_of {a b c d e f : Prop} (h : a ∧ b ∧ c) (k : d ∧ e ∧ f) : a ∧ b ∧ c ∧ d ∧ e ∧ f := ⟨h.1, h.2.1, h.2.2, k.1, k.2.1, k.2.2⟩
theorem tot_small {e : Ex} (h : exTot e ≤ 1048576) : exSize e ≤ 1099511627776 := by have := (tot_size (exSize e)).1 e (Nat.le_refl _); omega
def TrueX (w : World) (e : Ending) (w' : World) : Prop := e = .returned (.bool true) ∧ Below w.heap.size w w'

end Go.Proofs.Ytegigjnlecpplaa
