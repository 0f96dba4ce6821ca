/- The law FnExactSplitByte as a walk: the program's SplitByte gives the same parts as its model, in new memory that a further call leaves alone. Condition: the library's variable MaxLen holds an int. -/
import Derived.Test.YtlkfifnkdmmhnaaDoorWalkU
import Derived.WalkSmall
namespace Go.Proofs.YtlkfifnkdmmhnaaDoor
open Go Go.RowKit

def TrueEndS (w : World) (e : Ending) (w' : World) : Prop := e = .returned (.bool true) ∧ Below w.heap.size w w'
theorem drewN_below (w : World) (q : Nat) : Below w.heap.size w (w.drewN q) := ⟨rfl, rfl, rfl, Nat.le_refl _, fun _ _ => rfl⟩
theorem below_go {a b c : World} {B : Nat} (h : Below B a b) (k : Below b.heap.size b c) (hB : B ≤ b.heap.size) : Below B a c := h.trans (k.mono hB)
/-- Only the row g has turned: what lies in another block reads as before. -/
theorem Strs.other {w w' : World} {g g' : Nat} {xs : List ByteArray} (h : Strs w (some ⟨g, 0, none⟩) xs) (hg : w.grownBy w' (some g')) (hne : g ≠ g') : Strs w' (some ⟨g, 0, none⟩) xs := fun i x hx => by
  obtain ⟨a, e, hc, hl⟩ := h i x hx
  obtain rfl := Option.some.inj e
  refine ⟨_, rfl, ?_, Nat.lt_of_lt_of_le hl hg.size⟩
  rw [← hc]
  exact World.cell?_of_block (hg.block _ (by rw [block_add]; exact hl) (fun e2 => by rw [block_add] at e2; exact hne (Option.some.inj e2)))
theorem marks_strs {w : World} {B g n cap : Nat} (h : w.ownsRow B 9 1 (.slice (some ⟨g, 0, none⟩) n cap) n ((mlist n).map Value.string)) : Strs w (some ⟨g, 0, none⟩) (mlist n) := fun i x hx =>
  ⟨_, rfl, h.cells (g := g) rfl i _ (by rw [List.getElem?_map, hx]; rfl), (h.lt g rfl).2⟩
theorem mark_below {w0 w w' : World} {g : Nat} (h : Below w0.heap.size w0 w) (hg : w.grownBy w' (some g)) (hB : w0.heap.size ≤ g) : Below w0.heap.size w0 w' :=
  h.grown hg h.size (fun k hk => by obtain rfl := Option.some.inj hk; exact hB)

set_option maxHeartbeats 1000000 in
theorem law_split_long (s : ByteArray) (c : Int) (hs : 1048576 < (s.size : Int)) (w : World) : Calls Tryd.prog 8 #[.string s, .int .u8 c] w (TrueEndS w) := by
  go_enter Tryd.func8, Tryd.ntmps8
  go_wp2_with fail
  go_ret
  exact ⟨rfl, Below.refl _ _⟩

set_option maxHeartbeats 2000000 in
theorem law_split (s : ByteArray) (c : Int) (hc0 : 0 ≤ c) (hc1 : c ≤ 255) (hs : s.size ≤ 1048576) (w : World) (hm : MaxLenIs w) :
    Calls Tryd.prog 8 #[.string s, .int .u8 c] w (TrueEndS w) := by
  have HA := Lib.hid (spec_split s c hc0 hc1 hs w)
  have HI := Lib.hid (fun (W : World) (hb : Below w.heap.size w W) => impl_split s c hs W (hm.below hb))
  have hle := pieces_le s (UInt8.ofNat c.toNat)
  obtain ⟨n, hn⟩ : ∃ n, n = (pieces s (UInt8.ofNat c.toNat)).length := ⟨_, rfl⟩
  have hn1 : n ≤ 1048577 := by omega
  have hlow : (s.size : Int) ≤ 1048576 := by omega
  have HN := Lib.hid hn
  clear hm hs hle hn hc0 hc1
  go_enter Tryd.func8, Tryd.ntmps8
  go_wp2_with (go_at_call 20; refine HA.out.mono ?_; rintro e w1 ⟨v0, rfl, ho0, hb1⟩)
  obtain ⟨g0, cap0, rfl, hg0, hl0, hs0⟩ := own_shape ho0
  rw [← HN.out]
  clear ho0 hg0
  go_wp2_with (go_at_call 18; refine (HI.out _ hb1).mono ?_; rintro e w2 ⟨v1, rfl, ho1, hb2⟩)
  obtain ⟨g1, cap1, rfl, hg1, hl1, hs1⟩ := own_shape ho1
  have hne : g0 ≠ g1 := by omega
  have hB2 := below_go hb1 hb2 hb1.size
  have hw1 := hb1.size
  have hwg1 : w.heap.size ≤ g1 := by omega
  have HE1 := Lib.hid (eq_same (some ⟨g1, 0, none⟩) (some ⟨g0, 0, none⟩) (pieces s (UInt8.ofNat c.toNat)) cap1 cap0 w2 hs1 (hs0.below hb2) (by rw [← HN.out]; omega))
  have hs02 := hs0.below hb2
  unfold OwnsStrs at ho1
  rw [← HN.out] at ho1
  have HO1 := Lib.hid ho1
  rw [← HN.out]
  rw [← HN.out] at HE1
  clear ho1 hs1 hs0 hl0 hl1 hg1 hb1 hb2 hw1
  go_wp2_with (go_at_call 22; refine HE1.out.mono ?_; rintro e w3 ⟨rfl, q3, rfl⟩)
  have HM := Lib.hid (mark_any w1.heap.size g1 n cap1 _ (w2.drewN q3) (own_below HO1.out (drewN_below w2 q3)) (by omega))
  have hs03 := hs02.below (drewN_below w2 q3)
  have hB3 := below_go hB2 (drewN_below w2 q3) hB2.size
  clear HO1 HE1 hs02 hB2
  go_wp2_with (go_at_call 23; refine HM.out.mono ?_; rintro e w4 ⟨rfl, ho4, hg4⟩)
  have hs4 := marks_strs ho4
  have hs04 := hs03.other hg4 hne
  have hB4 := mark_below hB3 hg4 hwg1
  have HH4 := Lib.hid (held_any g1 n cap1 w4 hs4 (by omega))
  clear HM ho4 hg4 hs03 hB3
  go_wp2_with (go_at_call 24; refine HH4.out.mono ?_; rintro e w5 ⟨rfl, hb5⟩)
  have hB5 := below_go hB4 hb5 hB4.size
  have hs5 := hs4.below hb5
  have hs05 := hs04.below hb5
  clear HH4 hb5 hB4 hs4 hs04
  go_wp2_with (go_at_call 18; refine (HI.out _ hB5).mono ?_; rintro e w6 ⟨v2, rfl, ho2, hb6⟩)
  obtain ⟨g2, cap2, rfl, hg2, hl2, hs2⟩ := own_shape ho2
  have hB6 := below_go hB5 hb6 hB5.size
  have hs6 := hs5.below hb6
  have HE2 := Lib.hid (eq_same (some ⟨g2, 0, none⟩) (some ⟨g0, 0, none⟩) (pieces s (UInt8.ofNat c.toNat)) cap2 cap0 w6 hs2 (hs05.below hb6) (by rw [← HN.out]; omega))
  rw [← HN.out]
  rw [← HN.out] at HE2
  clear ho2 hg2 hl2 hs2 hB5 hs5 hs05 hb6
  go_wp2_with (go_at_call 22; refine HE2.out.mono ?_; rintro e w7 ⟨rfl, q7, rfl⟩)
  have hB7 := below_go hB6 (drewN_below w6 q7) hB6.size
  have HH7 := Lib.hid (held_any g1 n cap1 (w6.drewN q7) (hs6.below (drewN_below w6 q7)) (by omega))
  clear HE2 hB6 hs6
  go_wp2_with (go_at_call 24; refine HH7.out.mono ?_; rintro e w8 ⟨rfl, hb8⟩)
  go_ret
  exact ⟨rfl, below_go hB7 hb8 hB7.size⟩
end Go.Proofs.YtlkfifnkdmmhnaaDoor
