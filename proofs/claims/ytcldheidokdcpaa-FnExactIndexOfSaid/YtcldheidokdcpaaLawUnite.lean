/- FnExactUniteNames as a walk, from a contract of the program's own UniteNames. Conditions: that contract; the slices read as strings, each of a size that an int holds. -/
import Derived.Test.YtcldheidokdcpaaUniteKit
namespace Go.Proofs.Ytcldheidokdcpaa
open Go Go.RowKit

theorem own_read {w : World} {B cap : Nat} {A : Option Addr} {xs : List ByteArray} (h : w.ownsRow B 9 1 (.slice A xs.length cap) xs.length (xs.map Value.string)) : Strs w A xs := by
  obtain ⟨A', c', e, hs⟩ := OwnsL.shape (show OwnsL B w (.slice A xs.length cap) xs from h)
  cases e; exact hs
theorem shape_of {B : Nat} {w : World} {v : Value} {xs : List ByteArray} (h : OwnsL B w v xs) : ∃ A cap, v = .slice A xs.length cap := by
  obtain ⟨A, c, e, -⟩ := h.shape
  exact ⟨A, c, e⟩
theorem copy_own {w : World} {B g : Nat} {xs : List ByteArray} (h : w.ownsRow B 9 1 (.slice (some ⟨g, 0, none⟩) xs.length xs.length) xs.length (xs.map Value.string)) : B ≤ g ∧ g < w.heap.size := h.lt g rfl
theorem unite_len2 (a b : List ByteArray) : (unite a b).length ≤ a.length + b.length := by
  have h1 := unite_len a []
  have h2 := unite_len b (uniteFrom [] a)
  unfold unite
  simp only [List.length_nil] at h1
  omega

set_option maxHeartbeats 4000000 in
theorem lawunite (A B : Option Addr) (xs ys : List ByteArray) (cap cap2 : Nat) (w : World) (hs : Strs w A xs) (hs2 : Strs w B ys) (hn : xs.length ≤ 8796093022208) (hm : ys.length ≤ 8796093022208) (hx : ∀ x ∈ xs, x.size ≤ 9223372036854775807) (hy : ∀ x ∈ ys, x.size ≤ 9223372036854775807)
    (hO : ∀ (g g2 : Nat) (W : World), Strs W (some ⟨g, 0, none⟩) xs → Strs W (some ⟨g2, 0, none⟩) ys → xs.length ≤ 1099511627776 → ys.length ≤ 1099511627776 → Calls Try.prog 20 #[.slice (some ⟨g, 0, none⟩) xs.length xs.length, .slice (some ⟨g2, 0, none⟩) ys.length ys.length] W (UnitePost xs ys W)) :
    Calls Try.prog 7 #[.slice A xs.length cap, .slice B ys.length cap2] w (TrueEndE w) := by
  have HZ := Lib.hid (sz_from 1048576 (by omega) (by omega) A xs cap w hs (by omega) hx)
  have HZ2 := Lib.hid (fun (r : Int) (h0 : 0 ≤ r) (h1 : r ≤ 1048576) => sz_from r h0 h1 B ys cap2 w hs2 (by omega) hy)
  have HC := Lib.hid (fun (W : World) (hb : Below w.heap.size w W) => copy_any A xs cap W (hs.below hb) hn)
  have HC2 := Lib.hid (fun (W : World) (hb : Below w.heap.size w W) => copy_any B ys cap2 W (hs2.below hb) hm)
  have HO := Lib.hid hO
  clear hs hs2 hn hm hx hy hO
  go_enter Try.func7, Try.ntmps7
  go_wp2_with fail
  go_at_call 12
  refine HZ.out.mono ?_
  rintro e w' ⟨r, rfl, rfl, hr⟩
  rcases hr with rfl | ⟨h0, hr⟩
  · go_wp2_with fail
    go_ret
    exact ⟨rfl, Below.refl _ _⟩
  have h1 : r ≤ 1048576 := by omega
  have HR := Lib.hid hr
  clear hr HZ
  go_wp2_with fail
  go_at_call 12
  refine (HZ2.out r h0 h1).mono ?_
  rintro e w' ⟨r2, rfl, rfl, hr2⟩
  rcases hr2 with rfl | ⟨h2, hr2⟩
  · go_wp2_with fail
    go_ret
    exact ⟨rfl, Below.refl _ _⟩
  have HT := Lib.hid (show xs.length + ys.length ≤ 1048576 by have := HR.out; omega)
  have HU := Lib.hid (show (unite xs ys).length ≤ 1048576 by have := HT.out; have := unite_len2 xs ys; omega)
  clear hr2 HR HZ2 h1
  have HB := Lib.hid (Below.refl w.heap.size w)
  go_wp2_with fail
  go_at_call 14
  refine (HC.out _ HB.out).mono ?_
  rintro e w1 ⟨g1, rfl, ho_g1, hb_g1⟩
  have HQ_g1 := Lib.hid (copy_own ho_g1)
  have HS_g1 := Lib.hid hb_g1.size
  have HB_1 := Lib.hid (Below.trans HB.out (hb_g1.mono HB.out.size))
  clear hb_g1 HB
  have HT_g1 := Lib.hid ho_g1
  clear ho_g1
  go_wp2_with fail
  go_at_call 14
  refine (HC2.out _ HB_1.out).mono ?_
  rintro e w2 ⟨g2, rfl, ho_g2, hb_g2⟩
  have HQ_g2 := Lib.hid (copy_own ho_g2)
  have HS_g2 := Lib.hid hb_g2.size
  have HB_2 := Lib.hid (Below.trans HB_1.out (hb_g2.mono HB_1.out.size))
  have HT_g1_2 := Lib.hid (own_below HT_g1.out hb_g2)
  clear hb_g2 HB_1 HT_g1
  have HT_g2 := Lib.hid ho_g2
  clear ho_g2
  go_wp2_with fail
  go_at_call 19
  refine (unite_any (some ⟨g1, 0, none⟩) (some ⟨g2, 0, none⟩) xs ys xs.length ys.length w2 (own_read HT_g1_2.out) (own_read HT_g2.out) (by have := HT.out; omega) (by have := HT.out; omega)).mono ?_
  rintro e w3 ⟨_, rfl, hv0, hb_3⟩
  obtain ⟨A0, c0, rfl⟩ := shape_of hv0
  clear HT_g1_2
  clear HT_g2
  have HSW3 := Lib.hid hb_3.size
  have HD0 := Lib.hid (fun (k : Nat) (h : Value.ownBlock (.slice A0 (unite xs ys).length c0) = some k) => (World.ownsRow.lt hv0 k h).2)
  have HB_3 := Lib.hid (Below.trans HB_2.out (hb_3.mono HB_2.out.size))
  clear hb_3 HB_2
  have H0 := Lib.hid (show w3.ownsRow w2.heap.size 9 1 (.slice A0 (unite xs ys).length c0) (unite xs ys).length ((unite xs ys).map Value.string) from hv0)
  clear hv0
  go_wp2_with fail
  go_at_call 14
  refine (HC.out _ HB_3.out).mono ?_
  rintro e w4 ⟨g3, rfl, ho_g3, hb_g3⟩
  have HQ_g3 := Lib.hid (copy_own ho_g3)
  have HS_g3 := Lib.hid hb_g3.size
  have HB_4 := Lib.hid (Below.trans HB_3.out (hb_g3.mono HB_3.out.size))
  have H0_4 := Lib.hid (own_below H0.out hb_g3)
  clear hb_g3 HB_3 H0
  have HX0 := Lib.hid ho_g3
  clear ho_g3
  go_wp2_with fail
  go_at_call 14
  refine (HC2.out _ HB_4.out).mono ?_
  rintro e w5 ⟨g4, rfl, ho_g4, hb_g4⟩
  have HQ_g4 := Lib.hid (copy_own ho_g4)
  have HS_g4 := Lib.hid hb_g4.size
  have HB_5 := Lib.hid (Below.trans HB_4.out (hb_g4.mono HB_4.out.size))
  have H0_5 := Lib.hid (own_below H0_4.out hb_g4)
  have HX0_5 := Lib.hid (own_below HX0.out hb_g4)
  clear hb_g4 HB_4 H0_4 HX0
  have HX1 := Lib.hid ho_g4
  clear ho_g4
  have HBW5 := Lib.hid HB_5.out.size
  go_wp2_with fail
  go_at_call 20
  refine (HO.out g3 g4 w5 (own_read HX0_5.out) (own_read HX1.out) (by have := HT.out; omega) (by have := HT.out; omega)).mono ?_
  rintro e w6 ⟨_, rfl, hv1, hb_6⟩
  obtain ⟨A1, c1, rfl⟩ := shape_of hv1
  have HD1 := Lib.hid (fun (k : Nat) (h : Value.ownBlock (.slice A1 (unite xs ys).length c1) = some k) => (World.ownsRow.lt hv1 k h).1)
  have HB_6 := Lib.hid (Below.trans HB_5.out (hb_6.mono HB_5.out.size))
  have H0_6 := Lib.hid (own_below H0_5.out hb_6)
  have HX0_6 := Lib.hid (own_below HX0_5.out hb_6)
  have HX1_6 := Lib.hid (own_below HX1.out hb_6)
  clear hb_6 HB_5 H0_5 HX0_5 HX1
  have H1 := Lib.hid (show w6.ownsRow w5.heap.size 9 1 (.slice A1 (unite xs ys).length c1) (unite xs ys).length ((unite xs ys).map Value.string) from hv1)
  clear hv1
  have HEq1 := Lib.hid (eq_same A1 A0 (unite xs ys) c1 c0 _ (own_read H1.out) (own_read H0_6.out) (by have := HU.out; omega))
  go_wp2_with fail
  go_at_call 16
  refine HEq1.out.mono ?_
  rintro e _ ⟨rfl, q1, rfl⟩
  clear HEq1
  have hb_q1 := drewN_below w6 q1
  have HB_7 := Lib.hid (Below.trans HB_6.out (hb_q1.mono HB_6.out.size))
  have H0_7 := Lib.hid (own_below H0_6.out hb_q1)
  have HX0_7 := Lib.hid (own_below HX0_6.out hb_q1)
  have HX1_7 := Lib.hid (own_below HX1_6.out hb_q1)
  have H1_7 := Lib.hid (own_below H1.out hb_q1)
  clear hb_q1 HB_6 H0_6 HX0_6 HX1_6 H1
  generalize w6.drewN q1 = w7 at *
  go_wp2_with fail
  go_at_call 14
  refine (HC.out _ HB_7.out).mono ?_
  rintro e w8 ⟨g5, rfl, ho_g5, hb_g5⟩
  have HQ_g5 := Lib.hid (copy_own ho_g5)
  have HS_g5 := Lib.hid hb_g5.size
  have HB_8 := Lib.hid (Below.trans HB_7.out (hb_g5.mono HB_7.out.size))
  have H0_8 := Lib.hid (own_below H0_7.out hb_g5)
  have HX0_8 := Lib.hid (own_below HX0_7.out hb_g5)
  have HX1_8 := Lib.hid (own_below HX1_7.out hb_g5)
  have H1_8 := Lib.hid (own_below H1_7.out hb_g5)
  clear hb_g5 HB_7 H0_7 HX0_7 HX1_7 H1_7
  have HT_g5 := Lib.hid ho_g5
  clear ho_g5
  have HEq2 := Lib.hid (eq_same (some ⟨g3, 0, none⟩) (some ⟨g5, 0, none⟩) xs xs.length xs.length _ (own_read HX0_8.out) (own_read HT_g5.out) (by have := HT.out; omega))
  go_wp2_with fail
  go_at_call 16
  refine HEq2.out.mono ?_
  rintro e _ ⟨rfl, q2, rfl⟩
  clear HEq2
  have hb_q2 := drewN_below w8 q2
  have HB_9 := Lib.hid (Below.trans HB_8.out (hb_q2.mono HB_8.out.size))
  have H0_9 := Lib.hid (own_below H0_8.out hb_q2)
  have HX0_9 := Lib.hid (own_below HX0_8.out hb_q2)
  have HX1_9 := Lib.hid (own_below HX1_8.out hb_q2)
  have H1_9 := Lib.hid (own_below H1_8.out hb_q2)
  have HT_g5_9 := Lib.hid (own_below HT_g5.out hb_q2)
  clear hb_q2 HB_8 H0_8 HX0_8 HX1_8 H1_8 HT_g5
  generalize w8.drewN q2 = w9 at *
  clear HT_g5_9
  go_wp2_with fail
  go_at_call 14
  refine (HC2.out _ HB_9.out).mono ?_
  rintro e w10 ⟨g6, rfl, ho_g6, hb_g6⟩
  have HQ_g6 := Lib.hid (copy_own ho_g6)
  have HS_g6 := Lib.hid hb_g6.size
  have HB_10 := Lib.hid (Below.trans HB_9.out (hb_g6.mono HB_9.out.size))
  have H0_10 := Lib.hid (own_below H0_9.out hb_g6)
  have HX0_10 := Lib.hid (own_below HX0_9.out hb_g6)
  have HX1_10 := Lib.hid (own_below HX1_9.out hb_g6)
  have H1_10 := Lib.hid (own_below H1_9.out hb_g6)
  clear hb_g6 HB_9 H0_9 HX0_9 HX1_9 H1_9
  have HT_g6 := Lib.hid ho_g6
  clear ho_g6
  have HEq3 := Lib.hid (eq_same (some ⟨g4, 0, none⟩) (some ⟨g6, 0, none⟩) ys ys.length ys.length _ (own_read HX1_10.out) (own_read HT_g6.out) (by have := HT.out; omega))
  go_wp2_with fail
  go_at_call 16
  refine HEq3.out.mono ?_
  rintro e _ ⟨rfl, q3, rfl⟩
  clear HEq3
  have hb_q3 := drewN_below w10 q3
  have HB_11 := Lib.hid (Below.trans HB_10.out (hb_q3.mono HB_10.out.size))
  have H0_11 := Lib.hid (own_below H0_10.out hb_q3)
  have HX0_11 := Lib.hid (own_below HX0_10.out hb_q3)
  have HX1_11 := Lib.hid (own_below HX1_10.out hb_q3)
  have H1_11 := Lib.hid (own_below H1_10.out hb_q3)
  have HT_g6_11 := Lib.hid (own_below HT_g6.out hb_q3)
  clear hb_q3 HB_10 H0_10 HX0_10 HX1_10 H1_10 HT_g6
  generalize w10.drewN q3 = w11 at *
  clear HT_g6_11
  go_wp2_with fail
  go_at_call 21
  refine (mark_val 1 (by omega) (by omega) _ xs.length (.slice (some ⟨g3, 0, none⟩) xs.length xs.length) _ _ HX0_11.out (by have := HT.out; omega)).mono ?_
  clear HX0_11
  rintro e w12 ⟨rfl, -, hg_12⟩
  have HN3 := Lib.hid (show (∀ k, Value.ownBlock (.slice A0 (unite xs ys).length c0) = some k → some g3 ≠ some k) ∧ (∀ k, Value.ownBlock (.slice A1 (unite xs ys).length c1) = some k → some g3 ≠ some k) ∧ (∀ k, some g4 = some k → some g3 ≠ some k) ∧ (∀ k, some g3 = some k → w.heap.size ≤ k) from ⟨fun k h h2 => by have := HD0.out k h; have := HQ_g3.out; cases h2; omega, fun k h h2 => by have := HD1.out k h; have := HQ_g3.out; have := HS_g4.out; cases h2; omega, fun k h h2 => by have := HQ_g3.out; have := HQ_g4.out; cases h; cases h2; omega, fun k h => by have := HQ_g3.out; have := HS_g1.out; have := HS_g2.out; have := HSW3.out; cases h; omega⟩)
  have HB_12 := Lib.hid (below_grown HB_11.out hg_12 HN3.out.2.2.2)
  have H0_12 := Lib.hid (kept_ne H0_11.out hg_12 HN3.out.1)
  have HX1_12 := Lib.hid (kept_ne HX1_11.out hg_12 HN3.out.2.2.1)
  have H1_12 := Lib.hid (kept_ne H1_11.out hg_12 HN3.out.2.1)
  clear hg_12 HB_11 H0_11 HX1_11 H1_11
  go_wp2_with fail
  go_at_call 21
  refine (mark_val (1 + (xs.length : Int)) (by omega) (by have := HT.out; omega) _ ys.length (.slice (some ⟨g4, 0, none⟩) ys.length ys.length) _ _ HX1_12.out (by have := HT.out; omega)).mono ?_
  clear HX1_12
  rintro e w13 ⟨rfl, -, hg_13⟩
  have HN4 := Lib.hid (show (∀ k, Value.ownBlock (.slice A0 (unite xs ys).length c0) = some k → some g4 ≠ some k) ∧ (∀ k, Value.ownBlock (.slice A1 (unite xs ys).length c1) = some k → some g4 ≠ some k) ∧ (∀ k, some g4 = some k → w.heap.size ≤ k) from ⟨fun k h h2 => by have := HD0.out k h; have := HQ_g3.out; have := HQ_g4.out; cases h2; omega, fun k h h2 => by have := HD1.out k h; have := HQ_g4.out; cases h2; omega, fun k h => by have := HQ_g3.out; have := HQ_g4.out; have := HS_g1.out; have := HS_g2.out; have := HSW3.out; cases h; omega⟩)
  have HB_13 := Lib.hid (below_grown HB_12.out hg_13 HN4.out.2.2)
  have H0_13 := Lib.hid (kept_ne H0_12.out hg_13 HN4.out.1)
  have H1_13 := Lib.hid (kept_ne H1_12.out hg_13 HN4.out.2.1)
  clear hg_13 HB_12 H0_12 H1_12
  have hk0 : 0 ≤ 1 + (xs.length : Int) + (ys.length : Int) := by omega
  have hk1 : (xs.length : Int) + (ys.length : Int) ≤ 1048576 := by have := HT.out; omega
  have HEq4 := Lib.hid (eq_same A1 A0 (unite xs ys) c1 c0 _ (own_read H1_13.out) (own_read H0_13.out) (by have := HU.out; omega))
  go_wp2_with fail
  go_at_call 16
  refine HEq4.out.mono ?_
  rintro e _ ⟨rfl, q4, rfl⟩
  clear HEq4
  have hb_q4 := drewN_below w13 q4
  have HB_14 := Lib.hid (Below.trans HB_13.out (hb_q4.mono HB_13.out.size))
  have H0_14 := Lib.hid (own_below H0_13.out hb_q4)
  have H1_14 := Lib.hid (own_below H1_13.out hb_q4)
  clear hb_q4 HB_13 H0_13 H1_13
  generalize w13.drewN q4 = w14 at *
  go_wp2_with fail
  go_at_call 21
  refine (mark_val 1 (by omega) (by omega) _ (unite xs ys).length (.slice A1 (unite xs ys).length c1) _ _ H1_14.out (by have := HU.out; omega)).mono ?_
  clear H1_14
  rintro e w15 ⟨rfl, hm_15, hg_15⟩
  have HN5 := Lib.hid (show (∀ k, Value.ownBlock (.slice A0 (unite xs ys).length c0) = some k → Value.ownBlock (.slice A1 (unite xs ys).length c1) ≠ some k) ∧ (∀ k, Value.ownBlock (.slice A1 (unite xs ys).length c1) = some k → w.heap.size ≤ k) from ⟨fun k h h2 => by have := HD0.out k h; have := HD1.out k h2; have := HS_g3.out; have := HS_g4.out; omega, fun k h => by have := HD1.out k h; have := HBW5.out; omega⟩)
  have HB_15 := Lib.hid (below_grown HB_14.out hg_15 HN5.out.2)
  have H0_15 := Lib.hid (kept_ne H0_14.out hg_15 HN5.out.1)
  clear hg_15 HB_14 H0_14
  have HM := Lib.hid hm_15
  clear hm_15
  have hu0 : ((unite xs ys).length : Int) ≤ 1048576 := by have := HU.out; omega
  go_wp2_with fail
  go_at_call 22
  refine (held_val 1 (by omega) (by omega) _ (unite xs ys).length (.slice A1 (unite xs ys).length c1) _ HM.out (by have := HU.out; omega)).mono ?_
  rintro e w16 ⟨rfl, hb_h16⟩
  have HB_16 := Lib.hid (Below.trans HB_15.out (hb_h16.mono HB_15.out.size))
  have H0_16 := Lib.hid (own_below H0_15.out hb_h16)
  have HM_16 := Lib.hid (own_below HM.out hb_h16)
  clear hb_h16 HB_15 H0_15 HM
  go_wp2_with fail
  go_at_call 14
  refine (HC.out _ HB_16.out).mono ?_
  rintro e w17 ⟨g7, rfl, ho_g7, hb_g7⟩
  have HQ_g7 := Lib.hid (copy_own ho_g7)
  have HS_g7 := Lib.hid hb_g7.size
  have HB_17 := Lib.hid (Below.trans HB_16.out (hb_g7.mono HB_16.out.size))
  have H0_17 := Lib.hid (own_below H0_16.out hb_g7)
  have HM_17 := Lib.hid (own_below HM_16.out hb_g7)
  clear hb_g7 HB_16 H0_16 HM_16
  have HT_g7 := Lib.hid ho_g7
  clear ho_g7
  go_wp2_with fail
  go_at_call 14
  refine (HC2.out _ HB_17.out).mono ?_
  rintro e w18 ⟨g8, rfl, ho_g8, hb_g8⟩
  have HQ_g8 := Lib.hid (copy_own ho_g8)
  have HS_g8 := Lib.hid hb_g8.size
  have HB_18 := Lib.hid (Below.trans HB_17.out (hb_g8.mono HB_17.out.size))
  have H0_18 := Lib.hid (own_below H0_17.out hb_g8)
  have HM_18 := Lib.hid (own_below HM_17.out hb_g8)
  have HT_g7_18 := Lib.hid (own_below HT_g7.out hb_g8)
  clear hb_g8 HB_17 H0_17 HM_17 HT_g7
  have HT_g8 := Lib.hid ho_g8
  clear ho_g8
  go_wp2_with fail
  go_at_call 20
  refine (HO.out g7 g8 w18 (own_read HT_g7_18.out) (own_read HT_g8.out) (by have := HT.out; omega) (by have := HT.out; omega)).mono ?_
  clear HT_g7_18
  clear HT_g8
  rintro e w19 ⟨_, rfl, hv2, hb_19⟩
  obtain ⟨A2, c2, rfl⟩ := shape_of hv2
  have HB_19 := Lib.hid (Below.trans HB_18.out (hb_19.mono HB_18.out.size))
  have H0_19 := Lib.hid (own_below H0_18.out hb_19)
  have HM_19 := Lib.hid (own_below HM_18.out hb_19)
  clear hb_19 HB_18 H0_18 HM_18
  have H2 := Lib.hid (show w19.ownsRow w18.heap.size 9 1 (.slice A2 (unite xs ys).length c2) (unite xs ys).length ((unite xs ys).map Value.string) from hv2)
  clear hv2
  have HEq5 := Lib.hid (eq_same A2 A0 (unite xs ys) c2 c0 _ (own_read H2.out) (own_read H0_19.out) (by have := HU.out; omega))
  go_wp2_with fail
  go_at_call 16
  refine HEq5.out.mono ?_
  rintro e _ ⟨rfl, q5, rfl⟩
  clear HEq5
  have hb_q5 := drewN_below w19 q5
  have HB_20 := Lib.hid (Below.trans HB_19.out (hb_q5.mono HB_19.out.size))
  have H0_20 := Lib.hid (own_below H0_19.out hb_q5)
  have HM_20 := Lib.hid (own_below HM_19.out hb_q5)
  have H2_20 := Lib.hid (own_below H2.out hb_q5)
  clear hb_q5 HB_19 H0_19 HM_19 H2
  generalize w19.drewN q5 = w20 at *
  clear H2_20
  clear H0_20
  go_wp2_with fail
  go_at_call 22
  refine (held_val 1 (by omega) (by omega) _ (unite xs ys).length (.slice A1 (unite xs ys).length c1) _ HM_20.out (by have := HU.out; omega)).mono ?_
  rintro e w21 ⟨rfl, hb_h21⟩
  have HB_21 := Lib.hid (Below.trans HB_20.out (hb_h21.mono HB_20.out.size))
  have HM_21 := Lib.hid (own_below HM_20.out hb_h21)
  clear hb_h21 HB_20 HM_20
  go_wp2_with fail
  go_ret
  exact ⟨rfl, HB_21.out⟩
end Go.Proofs.Ytcldheidokdcpaa
