/- FnExactFreshName, from a contract of the program's own FreshName. Conditions: that contract; the slice reads as strings, each of a size that an int holds. -/
import Derived.Test.YtcldheidokdcpaaDoorCopyStr
import Derived.Test.YtcldheidokdcpaaDoorSpecFresh
namespace Go.Proofs.YtcldheidokdcpaaDoor
open Go Go.RowKit

theorem own_strs {w : World} {B g : Nat} {xs : List ByteArray} (h : w.ownsRow B 9 1 (.slice (some ⟨g, 0, none⟩) xs.length xs.length) xs.length (xs.map Value.string)) : Strs w (some ⟨g, 0, none⟩) xs ∧ g < w.heap.size := by
  have hl := (h.lt g rfl).2
  refine ⟨fun i x hx => ⟨_, rfl, ?_, hl⟩, hl⟩
  exact h.cells (g := g) rfl i _ (by rw [List.getElem?_map, hx]; rfl)
theorem tot_mem : ∀ (l : List ByteArray) (x : ByteArray), x ∈ l → x.size ≤ tot l := by
  intro l
  induction l with
  | nil => intro x h; cases h
  | cons y r ih =>
    intro x h
    have e : tot (y :: r) = y.size + tot r := by simp [tot]
    rcases List.mem_cons.1 h with rfl | h
    · omega
    · have := ih x h; omega
def TrueEndE (w : World) (e : Ending) (w' : World) : Prop := e = .returned (.bool true) ∧ Below w.heap.size w w'
theorem below_drewE {w w' : World} {B : Nat} (h : Below B w w') (n : Nat) : Below B w (w'.drewN n) := h.trans ⟨rfl, rfl, rfl, Nat.le_refl _, fun _ _ => rfl⟩

set_option maxHeartbeats 1000000 in
theorem lawfresh_long (A : Option Addr) (n cap : Nat) (s : ByteArray) (w : World) (hs : 1048576 < (s.size : Int)) :
    Calls Tryd.prog 4 #[.slice A n cap, .string s] w (TrueEndE w) := by
  go_enter Tryd.func4, Tryd.ntmps4
  go_wp2_with fail
  go_ret
  exact ⟨rfl, Below.refl _ _⟩

set_option maxHeartbeats 1000000 in
theorem lawfresh_short (A : Option Addr) (xs : List ByteArray) (cap : Nat) (s : ByteArray) (w : World) (hs : Strs w A xs) (hn : xs.length ≤ 8796093022208) (hx : ∀ x ∈ xs, x.size ≤ 9223372036854775807) (hsep : s.size ≤ 1048576)
    (hO : ∀ (g : Nat) (W : World), Below w.heap.size w W → Strs W (some ⟨g, 0, none⟩) xs → xs.length ≤ 1099511627776 → (∀ x ∈ xs, x.size ≤ 1048576) → Calls Tryd.prog 7 #[.slice (some ⟨g, 0, none⟩) xs.length xs.length, .string s] W (FreshPost xs s W)) :
    Calls Tryd.prog 4 #[.slice A xs.length cap, .string s] w (TrueEndE w) := by
  have HZ := Lib.hid (sz_any A xs cap w hs (by omega) hx)
  have HC := Lib.hid (fun (W : World) (hb : Below w.heap.size w W) => copy_any A xs cap W (hs.below hb) hn)
  have HS := Lib.hid hsep
  have HO := Lib.hid hO
  have hn2 : xs.length ≤ 9223372036854775807 := by omega
  clear hs hn hx hsep hO
  have hlow : (s.size : Int) ≤ 1048576 := by have := HS.out; omega
  go_enter Tryd.func4, Tryd.ntmps4
  go_wp2_with (go_at_call 25; refine HZ.out.mono ?_; rintro e w' ⟨r, rfl, rfl, hr⟩; rcases hr with rfl | ⟨h0, ht⟩)
  · go_ret
    exact ⟨rfl, Below.refl _ _⟩
  have HT := Lib.hid ht
  clear ht
  have HM := Lib.hid (show ∀ x ∈ xs, x.size ≤ 1048576 from fun x hx => by
    have h1 := tot_mem xs x hx
    have := HT.out
    omega)
  go_wp2_with (go_at_call 26; refine (HC.out _ (Below.refl _ _)).mono ?_; rintro e w1 ⟨g1, rfl, ho1, hb1⟩)
  obtain ⟨hs1, -⟩ := own_strs ho1
  have HJ1 := Lib.hid (fresh_any (some ⟨g1, 0, none⟩) xs xs.length s w1 hs1 (by have := HT.out; omega) HS.out)
  clear ho1 hs1
  go_wp2_with (go_at_call 14; refine HJ1.out.mono ?_; rintro e w2 ⟨k1, hk1, rfl, hb2⟩)
  have HK1 := Lib.hid hk1
  have hB2 := hb1.trans (hb2.mono hb1.size)
  clear hb1 hb2 hk1
  go_wp2_with (go_at_call 26; refine (HC.out _ hB2).mono ?_; rintro e w3 ⟨g3, rfl, ho3, hb3⟩)
  obtain ⟨hs3, hg3⟩ := own_strs ho3
  have HJ3 := Lib.hid (HO.out g3 w3 (hB2.trans (hb3.mono hB2.size)) hs3 (by have := HT.out; omega) HM.out)
  have hB3 := hB2.trans (hb3.mono hB2.size)
  clear ho3 hg3 hb3 hB2
  go_wp2_with (go_at_call 7; refine HJ3.out.mono ?_; rintro e w4 ⟨k2, hk2, rfl, hb4⟩; obtain rfl := IsFresh.same HK1.out hk2; clear hk2)
  have hs4 := hs3.below hb4
  have hB4 := hB3.trans (hb4.mono hB3.size)
  clear hs3 hb4 hB3
  go_wp2_with (go_at_call 26; refine (HC.out _ hB4).mono ?_; rintro e w5 ⟨g5, rfl, ho5, hb5⟩)
  obtain ⟨hs5, -⟩ := own_strs ho5
  have HE := Lib.hid (eq_same (some ⟨g3, 0, none⟩) (some ⟨g5, 0, none⟩) xs xs.length xs.length w5 (hs4.below hb5) hs5 (by have := HT.out; omega))
  have hB5 := hB4.trans (hb5.mono hB4.size)
  clear hs4 hb5 hB4 ho5 hs5
  go_wp2_with (go_at_call 27; refine HE.out.mono ?_; rintro e w6 ⟨rfl, q, rfl⟩)
  go_ret
  exact ⟨rfl, below_drewE hB5 q⟩
end Go.Proofs.YtcldheidokdcpaaDoor
