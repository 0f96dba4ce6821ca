/- The law FnExactJoin as a walk: the model's Join and the program's give the same string, and the program's leaves its argument as it was. Condition: the slice reads as strings, each of a size that an int holds. -/
import Derived.Test.YtlkfifnkdmmhnabWalkB
import Derived.Test.YtlkfifnkdmmhnabShelf
namespace Go.Proofs.Ytlkfifnkdmmhnab
open Go Go.RowKit

theorem add_lit (g k : Nat) : (⟨g, 0, none⟩ : Addr).add k = ⟨g, 0 + k, none⟩ := by
  unfold Addr.add
  split <;> simp_all
theorem own_strs {w : World} {B g : Nat} {xs : List ByteArray} (h : w.ownsRow B 9 1 (.slice (some ⟨g, 0, none⟩) xs.length xs.length) xs.length (xs.map Value.string)) : Strs w (some ⟨g, 0, none⟩) xs ∧ g < w.heap.size := by
  have hl := (h.lt g rfl).2
  refine ⟨fun i x hx => ⟨_, rfl, ?_, hl⟩, hl⟩
  exact h.cells (g := g) rfl i _ (by rw [List.getElem?_map, hx]; rfl)

set_option maxHeartbeats 400000 in
theorem impl_join (g c : Nat) (xs : List ByteArray) (s : ByteArray) (w : World) (hs : Strs w (some ⟨g, 0, none⟩) xs) (hg : g < w.heap.size) (hc : xs.length ≤ c) (ht : tot xs + xs.length ≤ 1048576) (hsep : s.size ≤ 1048576) :
    Calls Try.prog 7 #[.slice (some ⟨g, 0, none⟩) xs.length c, .string s] w (JoinPost xs s w) := by
  have hlen := joined_le xs s xs.length (Nat.le_refl _) ht hsep
  rw [List.take_length] at hlen
  have HA := Lib.hid (Try.strings_Join g 0 c xs s w (fun j x hx => by
    obtain ⟨a, e, hcell, -⟩ := hs j x hx
    obtain rfl := Option.some.inj e
    rw [add_lit] at hcell
    exact hcell) hg (by omega) hc (by unfold lists at hlen; omega))
  clear hs hg hc ht hsep hlen
  go_enter Try.func7, Try.ntmps7
  go_wp2_with (go_at_call 9; refine HA.out.mono ?_; rintro e w' ⟨rfl, hb⟩)
  go_ret
  exact ⟨rfl, hb⟩

def TrueEnd (w : World) (e : Ending) (w' : World) : Prop := e = .returned (.bool true) ∧ Below w.heap.size w w'
theorem below_drewN {w w' : World} {B : Nat} (h : Below B w w') (n : Nat) : Below B w (w'.drewN n) := h.trans ⟨rfl, rfl, rfl, Nat.le_refl _, fun _ _ => rfl⟩

set_option maxHeartbeats 1000000 in
theorem law_long (A : Option Addr) (n cap : Nat) (s : ByteArray) (w : World) (hs : 1048576 < (s.size : Int)) :
    Calls Try.prog 3 #[.slice A n cap, .string s] w (TrueEnd w) := by
  go_enter Try.func3, Try.ntmps3
  go_wp2_with fail
  go_ret
  exact ⟨rfl, Below.refl _ _⟩

set_option maxHeartbeats 1000000 in
theorem law_short (A : Option Addr) (xs : List ByteArray) (cap : Nat) (s : ByteArray) (w : World) (hs : Strs w A xs) (hn : xs.length ≤ 8796093022208) (hx : ∀ x ∈ xs, x.size ≤ 9223372036854775807) (hsep : s.size ≤ 1048576) :
    Calls Try.prog 3 #[.slice A xs.length cap, .string s] w (TrueEnd w) := by
  have HZ := Lib.hid (sz_any A xs cap w hs (by omega) hx)
  have HC := Lib.hid (fun (W : World) (hb : Below w.heap.size w W) => copy_any A xs cap W (hs.below hb) hn)
  have HS := Lib.hid hsep
  have hn2 : xs.length ≤ 9223372036854775807 := by omega
  clear hs hn hx hsep
  have hlow : (s.size : Int) ≤ 1048576 := by have := HS.out; omega
  go_enter Try.func3, Try.ntmps3
  go_wp2_with (go_at_call 4; refine HZ.out.mono ?_; rintro e w' ⟨r, rfl, rfl, hr⟩; rcases hr with rfl | ⟨h0, ht⟩)
  · go_ret
    exact ⟨rfl, Below.refl _ _⟩
  have HT := Lib.hid ht
  clear ht
  go_wp2_with (go_at_call 6; refine (HC.out _ (Below.refl _ _)).mono ?_; rintro e w1 ⟨g1, rfl, ho1, hb1⟩)
  obtain ⟨hs1, -⟩ := own_strs ho1
  have HJ1 := Lib.hid (spec_join (some ⟨g1, 0, none⟩) xs xs.length s w1 hs1 HT.out HS.out)
  clear ho1 hs1
  go_wp2_with (go_at_call 5; refine HJ1.out.mono ?_; rintro e w2 ⟨rfl, hb2⟩)
  have hB2 := hb1.trans (hb2.mono hb1.size)
  clear hb1 hb2
  go_wp2_with (go_at_call 6; refine (HC.out _ hB2).mono ?_; rintro e w3 ⟨g3, rfl, ho3, hb3⟩)
  obtain ⟨hs3, hg3⟩ := own_strs ho3
  have HJ3 := Lib.hid (impl_join g3 xs.length xs s w3 hs3 hg3 (Nat.le_refl _) HT.out HS.out)
  have hB3 := hB2.trans (hb3.mono hB2.size)
  clear ho3 hg3 hb3 hB2
  go_wp2_with (go_at_call 7; refine HJ3.out.mono ?_; rintro e w4 ⟨rfl, hb4⟩)
  have hs4 := hs3.below hb4
  have hB4 := hB3.trans (hb4.mono hB3.size)
  clear hs3 hb4 hB3
  go_wp2_with (go_at_call 6; refine (HC.out _ hB4).mono ?_; rintro e w5 ⟨g5, rfl, ho5, hb5⟩)
  obtain ⟨hs5, -⟩ := own_strs ho5
  have HE := Lib.hid (eq_same (some ⟨g3, 0, none⟩) (some ⟨g5, 0, none⟩) xs xs.length xs.length w5 (hs4.below hb5) hs5 (by have := HT.out; omega))
  have hB5 := hB4.trans (hb5.mono hB4.size)
  clear hs4 hb5 hB4 ho5 hs5
  go_wp2_with (go_at_call 8; refine HE.out.mono ?_; rintro e w6 ⟨rfl, q, rfl⟩)
  go_ret
  exact ⟨rfl, below_drewN hB5 q⟩
end Go.Proofs.Ytlkfifnkdmmhnab
