/- The contract of l1Once. Condition: the code is at most 1048576 bytes long. -/
import Derived.Test.YtmndlhbgacgnlaaDrawRow
namespace Go.Proofs.Ytmndlhbgacgnlaa
open Go Go.RowKit

def OncePost (g : Nat) (A : Option Addr) (n cap : Nat) (w : World) (e : Ending) (w' : World) : Prop :=
  ∃ x : Bool, e = .returned (.bool x) ∧ Cur w' g A n cap ∧ Only g w w'
set_option maxHeartbeats 1000000 in
theorem once_any (B g : Nat) (A : Option Addr) (zs : List Int) (cap : Nat) (lim : Int) (w : World) (hs : Bytes w B A zs) (hg : B ≤ g) (hc : Cur w g A zs.length cap) (hn : zs.length ≤ 1048576) (h0 : 1 ≤ lim) (h1 : lim ≤ 256) :
    Calls Try.prog 55 #[.pointer (some ⟨g, 0, none⟩), .int .i64 lim] w (OncePost g A zs.length cap w) := by
  have HA := Lib.hid (below_small B g A zs cap lim w hs hg hc hn h0 h1)
  clear hs hg hc hn h0 h1
  go_enter Try.func55, Try.ntmps55
  go_wp2_with (go_at_call 56; refine HA.out.mono ?_; rintro e w1 ⟨x, rfl, x0, x1, hc1, ho1⟩)
  go_ret
  exact ⟨x == 0, by simp, hc1, ho1⟩

end Go.Proofs.Ytmndlhbgacgnlaa
