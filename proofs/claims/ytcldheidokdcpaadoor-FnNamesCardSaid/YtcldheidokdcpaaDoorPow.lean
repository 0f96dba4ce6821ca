/- The contract of the program's own FormatInt. Condition: strconv's table of powers of ten holds the powers. -/
import Derived.Test.YtcldheidokdcpaaDoorRows
import Derived.Test.YtcldheidokdcpaaDoorShelf
import Derived.WalkKit
import Derived.Lib.Hide
import Derived.Lib.LaidTab
namespace Go.Proofs.YtcldheidokdcpaaDoor
open Go Go.RowKit

theorem grow_below (w : World) (k : Nat) (os : Array Obj) : Below w.heap.size w (Sort.grow (w.drewN k) os) :=
  ⟨rfl, rfl, rfl, by simp [Sort.grow], fun i hi => by
    show (w.heap ++ os)[i]? = w.heap[i]?
    rw [Array.getElem?_append_left hi]⟩
theorem var_below {P : Program} {w w' : World} {n : String} {cs : Array Value} (h : Below w.heap.size w w') (hv : w.var? P n = some cs) : w'.var? P n = some cs := by
  unfold World.var? at hv ⊢
  cases hg : P.globalNamed n with
  | none => simp [hg] at hv
  | some g =>
    simp only [hg, Option.bind_some] at hv ⊢
    have hlt : g < w.heap.size := by
      rcases Nat.lt_or_ge g w.heap.size with h' | h'
      · exact h'
      · simp [Array.getElem?_eq_none h'] at hv
    rw [h.block g hlt]
    exact hv
def Pow10 (w : World) : Prop := Lib.TabIs Tryd.prog w "internal/strconv.uint64pow10" .u64 Lib.pow10Tab
theorem pow10_below {w w' : World} (h : Below w.heap.size w w') (hp : Pow10 w) : Pow10 w' := var_below h hp

set_option maxHeartbeats 400000 in
theorem own_format (n : Int) (h0 : -9223372036854775808 ≤ n) (h1 : n ≤ 9223372036854775807) (w : World) (hp : Pow10 w) :
    Calls Tryd.prog 32 #[.int .i64 n] w fun e w' => e = .returned (.string ⟨(Lib.itoa n).toArray⟩) ∧ Below w.heap.size w w' := by
  have HA := Lib.hid (Tryd.strconv_Itoa n h0 h1 w hp)
  clear h0 h1 hp
  go_enter Tryd.func32, Tryd.ntmps32
  go_wp2_with (go_at_call 39; refine HA.out.mono ?_; rintro e w' ⟨rfl, k, os, rfl⟩)
  go_ret
  exact ⟨rfl, grow_below _ _ _⟩
end Go.Proofs.YtcldheidokdcpaaDoor
