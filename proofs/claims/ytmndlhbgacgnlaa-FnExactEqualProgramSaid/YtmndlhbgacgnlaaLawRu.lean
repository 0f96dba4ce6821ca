/- The walks of the exact laws of chapter 5 over one program: each from a contract of the program's own function. Conditions: those contracts; the argument lies in memory. -/
import Derived.Test.YtmndlhbgacgnlaaRuFits
import Derived.Test.YtmndlhbgacgnlaaRuCopy
import Derived.Test.YtmndlhbgacgnlaaRuEq
import Derived.Test.YtmndlhbgacgnlaaLawSizes
namespace Go.Proofs.Ytmndlhbgacgnlaa
open Go Go.RowKit

theorem lbox {w W : World} {u : Value} (hb : Below (w.alloc (.cells #[u] 48)).heap.size (w.alloc (.cells #[u] 48)) W) : W.cell? ⟨w.heap.size, 0, none⟩ = some u := by
  have h : W.heap[w.heap.size]? = some (.cells #[u] 48 (0, 0)) := (hb.block _ (by simp)).trans (by show (w.heap.push _)[w.heap.size]? = _; simp)
  rw [World.cell?, h]; rfl
theorem kept2_step {wr X w2 : World} {a1 a2 : Addr} {v1 v2 : Value} (hl : Hid (a1.block < wr.heap.size ∧ a2.block < wr.heap.size)) (hb : Below X.heap.size X w2)
    (h : X.cell? a1 = some v1 ∧ X.cell? a2 = some v2 ∧ Hid (Below wr.heap.size wr X)) : w2.cell? a1 = some v1 ∧ w2.cell? a2 = some v2 ∧ Hid (Below wr.heap.size wr w2) := by
  obtain ⟨c1, c2, HB⟩ := h
  obtain ⟨l1, l2⟩ := hl.out
  have hs := HB.out.size
  exact ⟨(hb.cell (p := a1) (Nat.lt_of_lt_of_le l1 hs)).trans c1, (hb.cell (p := a2) (Nat.lt_of_lt_of_le l2 hs)).trans c2, Lib.hid (HB.out.trans (hb.mono hs))⟩
theorem kept2_start {wr : World} {a1 a2 : Addr} {v1 v2 : Value} (h : Hid (wr.cell? a1 = some v1 ∧ wr.cell? a2 = some v2)) : wr.drew.cell? a1 = some v1 ∧ wr.drew.cell? a2 = some v2 ∧ Hid (Below wr.heap.size wr wr.drew) :=
  ⟨h.out.1, h.out.2, Lib.hid (Below.refl _ _).drew⟩

set_option maxRecDepth 100000 in
set_option maxHeartbeats 4000000 in
theorem lawcon (l : List Ru) (v : Value) (bs : List Nat) (s : ByteArray) (w : World) (hv : PrIs w v l bs)
    (hO : ∀ (v2 : Value) (b2 : List Nat) (W : World), PrIs W v2 l b2 → rusTot l ≤ 1048576 → Calls Try.prog 40 #[v2, .string s] W (RetPost (.int .i64 (conR s l)) W)) :
    Calls Try.prog 6 #[v, .string s] w (TrueX w) := by
  have HZ := Lib.hid (fun (W : World) (hb : Below w.heap.size w W) => sz_prog l v bs W 1048576 (hv.below hb) (by omega) (by omega))
  have HC := Lib.hid (fun (ht : rusTot l ≤ 1048576) (W : World) (hb : Below w.heap.size w W) => copy_prog l v bs W (hv.below hb) ht)
  have HO := Lib.hid hO
  have HP := Lib.hid (fun (ht : rusTot l ≤ 1048576) (v2 : Value) (b2 : List Nat) (W : World) (h : PrIs W v2 l b2) => show Calls Try.prog 38 #[v2, .string s] W (RetPost (.int .i64 (conR s l)) W) from conr_any l v2 b2 s W h ht)
  clear hO
  obtain ⟨u, rfl, hu⟩ := hv
  obtain ⟨A, c, rfl, -⟩ := id hu
  clear hu
  have HQ := Lib.hid (fun (v6 : Value) (b6 b4 : List Nat) (v4 : Value) (W : World) (ht : rusTot l ≤ 1048576) (h4 : PrIs W v4 l b4) (h6 : PrIs W v6 l b6) => eq_prog l v4 v6 b4 b6 W h4 h6 ht)
  generalize conR s l = R at *
  obtain ⟨n, hn⟩ : ∃ n, n = l.length := ⟨_, rfl⟩
  have HB0 := Lib.hid ((Below.refl w.heap.size w).alloc (Nat.le_refl _) (.cells #[.slice A n c] 48))
  have HBX := Lib.hid (fun (W : World) (h : Below (w.alloc (.cells #[.slice A n c] 48)).heap.size (w.alloc (.cells #[.slice A n c] 48)) W) => lbox h)
  rw [← hn] at HZ HC ⊢
  have HNN := Lib.hid hn
  clear hn
  by_cases hs : (1048576 : Int) < (s.size : Int)
  · go_enter Try.func6, Try.ntmps6
    go_wp2_with fail
    go_ret
    exact ⟨rfl, HB0.out⟩
  have hs2 : (s.size : Int) ≤ 1048576 := by omega
  clear hs
  go_enter Try.func6, Try.ntmps6
  go_wp2_with fail
  go_at_call 37
  refine (HZ.out _ HB0.out).mono ?_
  rintro r w1 ⟨z, rfl, hb1, hz⟩
  have HB1 := Lib.hid hb1
  clear hb1 HZ
  rcases hz with ⟨rfl, -⟩ | ⟨hz0, hz⟩
  · go_wp2_with fail
    go_ret
    exact ⟨rfl, box_low HB1.out⟩
  have hsz : rusTot l ≤ 1048576 := by omega
  have HSZ := Lib.hid hsz
  clear hz hsz
  have x0 := HBX.out w1 HB1.out
  go_wp2_with fail
  go_at_call 39
  refine (HC.out HSZ.out w1 (box_low HB1.out)).mono ?_
  rintro r w2 ⟨v2, b2, rfl, hs2, -, hb2⟩
  have HB2 := Lib.hid (HB1.out.trans (hb2.mono HB1.out.size))
  have HS2 := Lib.hid hs2
  clear hs2 hb2 x0
  go_wp2_with fail
  go_at_call 38
  refine (HP.out HSZ.out _ b2 w2 HS2.out).mono ?_
  rintro r w3 ⟨rfl, hb3⟩
  have HB3 := Lib.hid (HB2.out.trans (hb3.mono HB2.out.size))
  clear hb3 HS2
  have x0 := HBX.out w3 HB3.out
  go_wp2_with fail
  go_at_call 39
  refine (HC.out HSZ.out w3 (box_low HB3.out)).mono ?_
  rintro r w4 ⟨v4, b4, rfl, hs4, -, hb4⟩
  obtain ⟨u4, rfl, hu4⟩ := id hs4
  obtain ⟨A4, c4, rfl, -⟩ := id hu4
  rw [← HNN.out]
  have hs4' := hs4.below ((Below.refl w4.heap.size w4).alloc (Nat.le_refl _) (.cells #[.slice A4 n c4] 53))
  rw [← HNN.out] at hs4'
  have HS4 := Lib.hid hs4'
  have HB4 := Lib.hid (HB3.out.trans (hb4.mono HB3.out.size))
  clear hs4 hs4' hu4 hb4 x0
  go_wp2_with fail
  go_at_call 40
  refine (HO.out _ b4 _ HS4.out HSZ.out).mono ?_
  rintro r w5 ⟨rfl, hb5⟩
  have y0 := pbox hb5
  have hl5 : w4.heap.size < w5.heap.size := by have := hb5.size; simp at this; omega
  have HB5 := Lib.hid (HB4.out.trans ((box_low hb5).mono HB4.out.size))
  have HS5 := Lib.hid (HS4.out.below hb5)
  clear hb5 HS4
  have x0 := HBX.out w5 HB5.out
  have H2 := Lib.hid (And.intro x0 y0)
  have HLT := Lib.hid (show (⟨w.heap.size, 0, none⟩ : Addr).block < w5.heap.size ∧ (⟨w4.heap.size, 0, none⟩ : Addr).block < w5.heap.size from ⟨by have := HB5.out.size; simp at this; show w.heap.size < _; omega, hl5⟩)
  have HC5 := Lib.hid (fun (W : World) (h : Below w5.heap.size w5 W) => HC.out HSZ.out W (box_low (HB5.out.trans (h.mono HB5.out.size))))
  have HE5 := Lib.hid (fun (v6 : Value) (b6 : List Nat) (W : World) (h : Below w5.heap.size w5 W) (h6 : PrIs W v6 l b6) => HQ.out v6 b6 b4 _ W HSZ.out (HS5.out.below h) h6)
  skip
  all_goals
    go_wp2_with fail
    go_region_held3 (fun X => X.cell? ⟨w.heap.size, 0, none⟩ = some (.slice A n c) ∧ X.cell? ⟨w4.heap.size, 0, none⟩ = some (.slice A4 n c4) ∧ Hid (Below w5.heap.size w5 X))
      (first | exact kept2_start H2 | exact kept2_step HLT hb6 (by assumption) | exact kept2_step HLT hb7 (by assumption))
      (first
        | (go_at_call 39; have hh := (‹_ ∧ _ ∧ Hid (Below w5.heap.size w5 _)›).2.2.out; refine (HC5.out _ hh).mono ?_; rintro r w6 ⟨v6, b6, rfl, hs6, -, hb6⟩; clear hh)
        | (go_at_call 41; have hh := (‹_ ∧ _ ∧ Hid (Below w5.heap.size w5 w6)›).2.2.out; refine (HE5.out _ b6 _ hh hs6).mono ?_; clear hh; rintro r w7 ⟨rfl, hb7⟩))
    all_goals
      have hx := (‹_ ∧ _ ∧ Hid (Below w5.heap.size w5 w7)›).2.2.out
      have HX7 := Lib.hid (box_low (HB5.out.trans (hx.mono HB5.out.size)))
      clear hx
      go_wp2_with fail
      go_ret
      exact ⟨rfl, HX7.out⟩

end Go.Proofs.Ytmndlhbgacgnlaa
