/- FnExactIsName, FnExactIsConName, FnExactIndexOf, FnExactAllDistinct, from contracts of the program's own functions. Conditions: those contracts; the slice reads as strings, each of a size that an int holds. -/
import Derived.Test.YtcldheidokdcpaaCopyStr
import Derived.Test.YtcldheidokdcpaaSpecDistinct
namespace Go.Proofs.Ytcldheidokdcpaa
open Go Go.RowKit

theorem own_strs {w : World} {B g : Nat} {xs : List ByteArray} (h : w.ownsRow B 9 1 (.slice (some ⟨g, 0, none⟩) xs.length xs.length) xs.length (xs.map Value.string)) : Strs w (some ⟨g, 0, none⟩) xs ∧ g < w.heap.size := by
  have hl := (h.lt g rfl).2
  refine ⟨fun i x hx => ⟨_, rfl, ?_, hl⟩, hl⟩
  exact h.cells (g := g) rfl i _ (by rw [List.getElem?_map, hx]; rfl)
theorem tot_mem : ∀ (l : List ByteArray) (x : ByteArray), x ∈ l → x.size ≤ tot l := by
  intro l
  induction l with
  | nil => intro x h; cases h
  | cons y r ih =>
    intro x h
    have e : tot (y :: r) = y.size + tot r := by simp [tot]
    rcases List.mem_cons.1 h with rfl | h
    · omega
    · have := ih x h; omega
def TrueEndE (w : World) (e : Ending) (w' : World) : Prop := e = .returned (.bool true) ∧ Below w.heap.size w w'
theorem below_drewE {w w' : World} {B : Nat} (h : Below B w w') (n : Nat) : Below B w (w'.drewN n) := h.trans ⟨rfl, rfl, rfl, Nat.le_refl _, fun _ _ => rfl⟩

set_option maxHeartbeats 400000 in
theorem lawisname_long (s : ByteArray) (w : World) (hs : 1048576 < (s.size : Int)) : Calls Try.prog 3 #[.string s] w (TrueEndE w) := by
  go_enter Try.func3, Try.ntmps3
  go_wp2_with fail
  go_ret
  exact ⟨rfl, Below.refl _ _⟩
set_option maxHeartbeats 400000 in
theorem lawisname_short (s : ByteArray) (w : World) (hs : s.size ≤ 1048576)
    (hO : ∀ W : World, Calls Try.prog 9 #[.string s] W (fun e w' => e = .returned (.bool (nameL 97 122 s.data.toList)) ∧ Below W.heap.size W w')) :
    Calls Try.prog 3 #[.string s] w (TrueEndE w) := by
  have HA := Lib.hid (isname_any s w hs)
  have HO := Lib.hid (hO w)
  have hlow : (s.size : Int) ≤ 1048576 := by omega
  clear hO
  generalize nameL 97 122 s.data.toList = b at *
  go_enter Try.func3, Try.ntmps3
  go_wp2_with fail
  go_at_call 8
  refine HA.out.mono ?_
  rintro e w' ⟨rfl, rfl⟩
  go_wp2_with fail
  go_at_call 9
  refine HO.out.mono ?_
  rintro e w' ⟨rfl, hb⟩
  go_wp2_with fail
  go_ret
  exact ⟨rfl, hb⟩

set_option maxHeartbeats 400000 in
theorem lawiscon_long (s : ByteArray) (w : World) (hs : 1048576 < (s.size : Int)) : Calls Try.prog 4 #[.string s] w (TrueEndE w) := by
  go_enter Try.func4, Try.ntmps4
  go_wp2_with fail
  go_ret
  exact ⟨rfl, Below.refl _ _⟩
set_option maxHeartbeats 400000 in
theorem lawiscon_short (s : ByteArray) (w : World) (hs : s.size ≤ 1048576)
    (hO : ∀ W : World, Calls Try.prog 11 #[.string s] W (fun e w' => e = .returned (.bool (nameL 65 90 s.data.toList)) ∧ Below W.heap.size W w')) :
    Calls Try.prog 4 #[.string s] w (TrueEndE w) := by
  have HA := Lib.hid (iscon_any s w hs)
  have HO := Lib.hid (hO w)
  have hlow : (s.size : Int) ≤ 1048576 := by omega
  clear hO
  generalize nameL 65 90 s.data.toList = b at *
  go_enter Try.func4, Try.ntmps4
  go_wp2_with fail
  go_at_call 10
  refine HA.out.mono ?_
  rintro e w' ⟨rfl, rfl⟩
  go_wp2_with fail
  go_at_call 11
  refine HO.out.mono ?_
  rintro e w' ⟨rfl, hb⟩
  go_wp2_with fail
  go_ret
  exact ⟨rfl, hb⟩

set_option maxHeartbeats 1000000 in
theorem lawindex_long (A : Option Addr) (n cap : Nat) (s : ByteArray) (w : World) (hs : 1048576 < (s.size : Int)) :
    Calls Try.prog 5 #[.slice A n cap, .string s] w (TrueEndE w) := by
  go_enter Try.func5, Try.ntmps5
  go_wp2_with fail
  go_ret
  exact ⟨rfl, Below.refl _ _⟩

set_option maxHeartbeats 1000000 in
theorem lawindex_short (A : Option Addr) (xs : List ByteArray) (cap : Nat) (s : ByteArray) (w : World) (hs : Strs w A xs) (hn : xs.length ≤ 8796093022208) (hx : ∀ x ∈ xs, x.size ≤ 9223372036854775807) (hsep : s.size ≤ 1048576)
    (hO : ∀ (g : Nat) (W : World), Strs W (some ⟨g, 0, none⟩) xs → xs.length ≤ 1099511627776 → Calls Try.prog 15 #[.slice (some ⟨g, 0, none⟩) xs.length xs.length, .string s] W (fun e w' => e = .returned (.int .i64 (idx xs s)) ∧ Below W.heap.size W w')) :
    Calls Try.prog 5 #[.slice A xs.length cap, .string s] w (TrueEndE w) := by
  have HZ := Lib.hid (sz_any A xs cap w hs (by omega) hx)
  have HC := Lib.hid (fun (W : World) (hb : Below w.heap.size w W) => copy_any A xs cap W (hs.below hb) hn)
  have HI := fun (g : Nat) (W : World) (h : Strs W (some ⟨g, 0, none⟩) xs) (h2 : xs.length ≤ 140737488355328) => idx_any (some ⟨g, 0, none⟩) xs xs.length s W h h2
  have hn2 : xs.length ≤ 9223372036854775807 := by omega
  have hlow : (s.size : Int) ≤ 1048576 := by omega
  generalize idx xs s = r at *
  have HO := Lib.hid hO
  have HJ := Lib.hid HI
  clear hs hn hx hsep hO HI
  go_enter Try.func5, Try.ntmps5
  go_wp2_with (go_at_call 12; refine HZ.out.mono ?_; rintro e w' ⟨r, rfl, rfl, hr⟩; rcases hr with rfl | ⟨h0, ht⟩)
  · go_ret
    exact ⟨rfl, Below.refl _ _⟩
  have HT := Lib.hid ht
  clear ht
  go_wp2_with (go_at_call 14; refine (HC.out _ (Below.refl _ _)).mono ?_; rintro e w1 ⟨g1, rfl, ho1, hb1⟩)
  obtain ⟨hs1, -⟩ := own_strs ho1
  have HJ1 := Lib.hid (HJ.out g1 w1 hs1 (by have := HT.out; omega))
  clear ho1 hs1
  go_wp2_with (go_at_call 13; refine HJ1.out.mono ?_; rintro e w2 ⟨rfl, rfl⟩)
  go_wp2_with (go_at_call 14; refine (HC.out _ hb1).mono ?_; rintro e w3 ⟨g3, rfl, ho3, hb3⟩)
  obtain ⟨hs3, hg3⟩ := own_strs ho3
  have HJ3 := Lib.hid (HO.out g3 w3 hs3 (by have := HT.out; omega))
  have hB3 := hb1.trans (hb3.mono hb1.size)
  clear ho3 hg3 hb3 hb1
  go_wp2_with (go_at_call 15; refine HJ3.out.mono ?_; rintro e w4 ⟨rfl, hb4⟩)
  have hs4 := hs3.below hb4
  have hB4 := hB3.trans (hb4.mono hB3.size)
  clear hs3 hb4 hB3
  go_wp2_with (go_at_call 14; refine (HC.out _ hB4).mono ?_; rintro e w5 ⟨g5, rfl, ho5, hb5⟩)
  obtain ⟨hs5, -⟩ := own_strs ho5
  have HE := Lib.hid (eq_same (some ⟨g3, 0, none⟩) (some ⟨g5, 0, none⟩) xs xs.length xs.length w5 (hs4.below hb5) hs5 (by have := HT.out; omega))
  have hB5 := hB4.trans (hb5.mono hB4.size)
  clear hs4 hb5 hB4 ho5 hs5
  go_wp2_with (go_at_call 16; refine HE.out.mono ?_; rintro e w6 ⟨rfl, q, rfl⟩)
  go_ret
  exact ⟨rfl, below_drewE hB5 q⟩

set_option maxHeartbeats 1000000 in
theorem lawdistinct (A : Option Addr) (xs : List ByteArray) (cap : Nat) (w : World) (hs : Strs w A xs) (hn : xs.length ≤ 8796093022208) (hx : ∀ x ∈ xs, x.size ≤ 9223372036854775807)
    (hO : ∀ (g : Nat) (W : World), Strs W (some ⟨g, 0, none⟩) xs → xs.length ≤ 1099511627776 → Calls Try.prog 18 #[.slice (some ⟨g, 0, none⟩) xs.length xs.length] W (fun e w' => e = .returned (.bool (distinct xs)) ∧ Below W.heap.size W w')) :
    Calls Try.prog 6 #[.slice A xs.length cap] w (TrueEndE w) := by
  have HZ := Lib.hid (sz_any A xs cap w hs (by omega) hx)
  have HC := Lib.hid (fun (W : World) (hb : Below w.heap.size w W) => copy_any A xs cap W (hs.below hb) hn)
  have HI := fun (g : Nat) (W : World) (h : Strs W (some ⟨g, 0, none⟩) xs) (h2 : xs.length ≤ 1099511627776) => dist_any (some ⟨g, 0, none⟩) xs xs.length W h h2 (Nat.le_refl _) (by omega)
  have hn2 : xs.length ≤ 9223372036854775807 := by omega
  unfold DistPost at HI
  generalize distinct xs = r at *
  have HO := Lib.hid hO
  have HJ := Lib.hid HI
  clear hs hn hx hO HI
  go_enter Try.func6, Try.ntmps6
  go_wp2_with (go_at_call 12; refine HZ.out.mono ?_; rintro e w' ⟨r, rfl, rfl, hr⟩; rcases hr with rfl | ⟨h0, ht⟩)
  · go_ret
    exact ⟨rfl, Below.refl _ _⟩
  have HT := Lib.hid ht
  clear ht
  go_wp2_with (go_at_call 14; refine (HC.out _ (Below.refl _ _)).mono ?_; rintro e w1 ⟨g1, rfl, ho1, hb1⟩)
  obtain ⟨hs1, -⟩ := own_strs ho1
  have HJ1 := Lib.hid (HJ.out g1 w1 hs1 (by have := HT.out; omega))
  clear ho1 hs1
  go_wp2_with (go_at_call 17; refine HJ1.out.mono ?_; rintro e _ ⟨rfl, q1, rfl⟩)
  have hb2 := below_drewE hb1 q1
  clear hb1 HJ1
  generalize w1.drewN q1 = w2 at *
  go_wp2_with (go_at_call 14; refine (HC.out _ hb2).mono ?_; rintro e w3 ⟨g3, rfl, ho3, hb3⟩)
  obtain ⟨hs3, hg3⟩ := own_strs ho3
  have HJ3 := Lib.hid (HO.out g3 w3 hs3 (by have := HT.out; omega))
  have hB3 := hb2.trans (hb3.mono hb2.size)
  clear ho3 hg3 hb3 hb2
  go_wp2_with (go_at_call 18; refine HJ3.out.mono ?_; rintro e w4 ⟨rfl, hb4⟩)
  have hs4 := hs3.below hb4
  have hB4 := hB3.trans (hb4.mono hB3.size)
  clear hs3 hb4 hB3
  go_wp2_with (go_at_call 14; refine (HC.out _ hB4).mono ?_; rintro e w5 ⟨g5, rfl, ho5, hb5⟩)
  obtain ⟨hs5, -⟩ := own_strs ho5
  have HE := Lib.hid (eq_same (some ⟨g3, 0, none⟩) (some ⟨g5, 0, none⟩) xs xs.length xs.length w5 (hs4.below hb5) hs5 (by have := HT.out; omega))
  have hB5 := hB4.trans (hb5.mono hB4.size)
  clear hs4 hb5 hB4 ho5 hs5
  go_wp2_with (go_at_call 16; refine HE.out.mono ?_; rintro e w6 ⟨rfl, q, rfl⟩)
  go_ret
  exact ⟨rfl, below_drewE hB5 q⟩
end Go.Proofs.Ytcldheidokdcpaa
