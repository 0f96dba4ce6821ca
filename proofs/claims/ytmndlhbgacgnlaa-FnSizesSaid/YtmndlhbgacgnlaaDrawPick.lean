/- The contract of l1Pick. Condition: the code is at most 1048576 bytes long. -/
import Derived.Test.YtmndlhbgacgnlaaDrawRow
namespace Go.Proofs.Ytmndlhbgacgnlaa
open Go Go.RowKit

def PickPost (ss : List ByteArray) (g : Nat) (A : Option Addr) (n cap : Nat) (w : World) (e : Ending) (w' : World) : Prop :=
  ∃ x, x ∈ ss ∧ e = .returned (.string x) ∧ Cur w' g A n cap ∧ Only g w w'
set_option maxHeartbeats 1000000 in
theorem pick_any (B g b : Nat) (A : Option Addr) (zs : List Int) (cap c2 : Nat) (ss : List ByteArray) (w : World) (hs : Bytes w B A zs) (hg : B ≤ g) (hc : Cur w g A zs.length cap) (hn : zs.length ≤ 1048576) (hr : Row w b 9 (ss.map Value.string)) (hne : b ≠ g) (h0 : 1 ≤ ss.length) (h1 : ss.length ≤ 256) :
    Calls Try.prog 100 #[.pointer (some ⟨g, 0, none⟩), .slice (some ⟨b, 0, none⟩) ss.length c2] w (PickPost ss g A zs.length cap w) := by
  have HA := Lib.hid (below_small B g A zs cap (ss.length : Int) w hs hg hc hn (by omega) (by omega))
  have HC := Lib.hid (fun (W : World) (ho : Only g w W) (j : Nat) (hj : j < ss.length) => (hr.only ho hne).cell j (.string ss[j]) (by rw [List.getElem?_map, List.getElem?_eq_getElem hj]; rfl))
  have hl : ss.length ≤ 9223372036854775807 := by omega
  clear hs hg hc hn hr hne
  go_enter Try.func100, Try.ntmps100
  go_wp2_with fail
  go_at_call 56
  refine HA.out.mono ?_
  rintro e w1 ⟨x, rfl, x0, x1, hc1, ho1⟩
  obtain ⟨j, rfl⟩ : ∃ j : Nat, x = (j : Int) := ⟨x.toNat, by omega⟩
  have hj : j < ss.length := by omega
  have hcell := HC.out w1 ho1 j hj
  go_wp2
  go_ret
  exact ⟨ss[j], List.getElem_mem hj, rfl, hc1, ho1⟩

end Go.Proofs.Ytmndlhbgacgnlaa
