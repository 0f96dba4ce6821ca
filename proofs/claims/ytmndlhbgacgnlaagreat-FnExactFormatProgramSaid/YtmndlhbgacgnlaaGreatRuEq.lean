/- The contract of the laws' comparison of two equal programs. Condition: both lie in memory. -/
import Derived.Test.YtmndlhbgacgnlaaGreatRuSz
import Derived.Test.YtmndlhbgacgnlaaGreatExEq
namespace Go.Proofs.YtmndlhbgacgnlaaGreat
open Go Go.RowKit

theorem eq_strs (xs : List ByteArray) (v v' : Value) (bs bs' : List Nat) (w : World) (h : SsIs w v xs bs) (h' : SsIs w v' xs bs') (hn : xs.length ≤ 140737488355328) : Calls Tryz.prog 114 #[v, v'] w (EqEnd w) := by
  obtain ⟨A, c, rfl⟩ := h.slice
  obtain ⟨A', c', rfl⟩ := h'.slice
  refine (eq_same A A' xs c c' w h.strs.2.2.2.1 h'.strs.2.2.2.1 hn).mono ?_
  rintro e w' ⟨rfl, q, rfl⟩
  exact ⟨rfl, rfl, rfl, rfl, Nat.le_refl _, fun _ _ => rfl⟩

set_option maxRecDepth 100000 in
set_option maxHeartbeats 4000000 in
theorem eq_rule (r : Ru) (v v' : Value) (bs bs' : List Nat) (w : World) (hv : RuIs w v r bs) (hv' : RuIs w v' r bs') (hn1 : r.vars.length ≤ 140737488355328) (hn2 : r.params.length ≤ 140737488355328) :
    Calls Tryz.prog 84 #[v, v'] w (EqEnd w) := by
  obtain ⟨v1, v2, u, b1, b2, b3, rfl, -, -, -, h1, h2, h3⟩ := hv
  obtain ⟨z1, z2, y, e1, e2, e3, rfl, -, -, -, g1, g2, g3⟩ := hv'
  have H1 := Lib.hid (fun (W : World) (hb : Below w.heap.size w W) => eq_strs r.vars v1 z1 b1 e1 W (h1.below hb) (g1.below hb) hn1)
  have H2 := Lib.hid (fun (W : World) (hb : Below w.heap.size w W) => eq_strs r.params v2 z2 b2 e2 W (h2.below hb) (g2.below hb) hn2)
  have H3 := Lib.hid (fun (W : World) (hb : Below w.heap.size w W) => eq_expr r.body _ _ b3 e3 W (h3.below hb) (g3.below hb))
  clear h1 h2 h3 g1 g2 g3 hn1 hn2
  generalize r.name = N at *
  generalize r.con = C at *
  generalize r.body.kind = K at *
  generalize r.body.name = S at *
  have HBX := Lib.hid (fun (W : World) (h : Below ((w.alloc (.cells #[.string N, .string C, v1, v2, .int .i64 K, .string S, u] 34)).alloc (.cells #[.string N, .string C, z1, z2, .int .i64 K, .string S, y] 34)).heap.size ((w.alloc (.cells #[.string N, .string C, v1, v2, .int .i64 K, .string S, u] 34)).alloc (.cells #[.string N, .string C, z1, z2, .int .i64 K, .string S, y] 34)) W) =>
    show Box7 W w.heap.size 34 (.string N) (.string C) v1 v2 (.int .i64 K) (.string S) u ∧ Box7 W (w.heap.size + 1) 34 (.string N) (.string C) z1 z2 (.int .i64 K) (.string S) y ∧ Below w.heap.size w W by
      have h2 := box_low h
      refine ⟨box7_new h2, ?_, box_low h2⟩
      have h3 := box7_new h
      simp only [World.size_alloc] at h3
      exact h3)
  go_enter Tryz.func84, Tryz.ntmps84
  go_wp2_with fail
  go_at_call 114
  have HB0 := Lib.hid (((Below.refl w.heap.size w).alloc (Nat.le_refl _) (.cells #[.string N, .string C, v1, v2, .int .i64 K, .string S, u] 34)).alloc (by simp) (.cells #[.string N, .string C, z1, z2, .int .i64 K, .string S, y] 34))
  refine (H1.out _ HB0.out).mono ?_
  rintro e x1 ⟨rfl, hb1⟩
  have HB1 := Lib.hid hb1
  obtain ⟨p1, p2, p3⟩ := HBX.out x1 hb1
  obtain ⟨-, -, -, a3, a4, a5, a6⟩ := p1.cells
  obtain ⟨-, -, -, b3, b4, b5, b6⟩ := p2.cells
  have HL1 := Lib.hid p3
  clear hb1 p1 p2 p3
  go_wp2_with fail
  go_at_call 114
  refine (H2.out _ HL1.out).mono ?_
  rintro e x2 ⟨rfl, hb2⟩
  have HB2 := Lib.hid (HB1.out.trans (hb2.mono HB1.out.size))
  obtain ⟨p1, p2, p3⟩ := HBX.out x2 HB2.out
  obtain ⟨-, -, -, -, a4', a5', a6'⟩ := p1.cells
  obtain ⟨-, -, -, -, b4', b5', b6'⟩ := p2.cells
  have HL2 := Lib.hid p3
  clear hb2 p1 p2 p3
  go_wp2_with fail
  go_at_call 115
  refine (H3.out _ HL2.out).mono ?_
  rintro e x3 ⟨rfl, hb3⟩
  have HL3 := Lib.hid (HL2.out.trans (hb3.mono HL2.out.size))
  clear hb3
  go_wp2_with fail
  go_ret
  exact ⟨rfl, HL3.out⟩

theorem two7_start {wr : World} {g o h p k : Nat} {x0 x1 x2 x3 x4 x5 x6 y0 y1 y2 y3 y4 y5 y6 : Value} (c : Cells7 wr g (o + k * 7) x0 x1 x2 x3 x4 x5 x6) (d : Cells7 wr h (p + k * 7) y0 y1 y2 y3 y4 y5 y6) :
    wr.drew.cell? ⟨g, o + k * 7, none⟩ = some x0 ∧ wr.drew.cell? ⟨g, o + k * 7 + 1, none⟩ = some x1 ∧ wr.drew.cell? ⟨g, o + k * 7 + 2, none⟩ = some x2 ∧ wr.drew.cell? ⟨g, o + k * 7 + 3, none⟩ = some x3 ∧ wr.drew.cell? ⟨g, o + k * 7 + 4, none⟩ = some x4 ∧ wr.drew.cell? ⟨g, o + k * 7 + 5, none⟩ = some x5 ∧ wr.drew.cell? ⟨g, o + k * 7 + 6, none⟩ = some x6 ∧ wr.drew.cell? ⟨h, p + k * 7, none⟩ = some y0 ∧ wr.drew.cell? ⟨h, p + k * 7 + 1, none⟩ = some y1 ∧ wr.drew.cell? ⟨h, p + k * 7 + 2, none⟩ = some y2 ∧ wr.drew.cell? ⟨h, p + k * 7 + 3, none⟩ = some y3 ∧ wr.drew.cell? ⟨h, p + k * 7 + 4, none⟩ = some y4 ∧ wr.drew.cell? ⟨h, p + k * 7 + 5, none⟩ = some y5 ∧ wr.drew.cell? ⟨h, p + k * 7 + 6, none⟩ = some y6 ∧ Hid (Below wr.heap.size wr wr.drew) :=
  ⟨c.c0, c.c1, c.c2, c.c3, c.c4, c.c5, c.c6, d.c0, d.c1, d.c2, d.c3, d.c4, d.c5, d.c6, Lib.hid (Below.refl _ _).drew⟩
theorem two7_step {wr X w2 : World} {g o h p k : Nat} {x0 x1 x2 x3 x4 x5 x6 y0 y1 y2 y3 y4 y5 y6 : Value} (hg : g < wr.heap.size) (hh : h < wr.heap.size) (hb : Below X.heap.size X w2) (hX : X.cell? ⟨g, o + k * 7, none⟩ = some x0 ∧ X.cell? ⟨g, o + k * 7 + 1, none⟩ = some x1 ∧ X.cell? ⟨g, o + k * 7 + 2, none⟩ = some x2 ∧ X.cell? ⟨g, o + k * 7 + 3, none⟩ = some x3 ∧ X.cell? ⟨g, o + k * 7 + 4, none⟩ = some x4 ∧ X.cell? ⟨g, o + k * 7 + 5, none⟩ = some x5 ∧ X.cell? ⟨g, o + k * 7 + 6, none⟩ = some x6 ∧ X.cell? ⟨h, p + k * 7, none⟩ = some y0 ∧ X.cell? ⟨h, p + k * 7 + 1, none⟩ = some y1 ∧ X.cell? ⟨h, p + k * 7 + 2, none⟩ = some y2 ∧ X.cell? ⟨h, p + k * 7 + 3, none⟩ = some y3 ∧ X.cell? ⟨h, p + k * 7 + 4, none⟩ = some y4 ∧ X.cell? ⟨h, p + k * 7 + 5, none⟩ = some y5 ∧ X.cell? ⟨h, p + k * 7 + 6, none⟩ = some y6 ∧ Hid (Below wr.heap.size wr X)) :
    w2.cell? ⟨g, o + k * 7, none⟩ = some x0 ∧ w2.cell? ⟨g, o + k * 7 + 1, none⟩ = some x1 ∧ w2.cell? ⟨g, o + k * 7 + 2, none⟩ = some x2 ∧ w2.cell? ⟨g, o + k * 7 + 3, none⟩ = some x3 ∧ w2.cell? ⟨g, o + k * 7 + 4, none⟩ = some x4 ∧ w2.cell? ⟨g, o + k * 7 + 5, none⟩ = some x5 ∧ w2.cell? ⟨g, o + k * 7 + 6, none⟩ = some x6 ∧ w2.cell? ⟨h, p + k * 7, none⟩ = some y0 ∧ w2.cell? ⟨h, p + k * 7 + 1, none⟩ = some y1 ∧ w2.cell? ⟨h, p + k * 7 + 2, none⟩ = some y2 ∧ w2.cell? ⟨h, p + k * 7 + 3, none⟩ = some y3 ∧ w2.cell? ⟨h, p + k * 7 + 4, none⟩ = some y4 ∧ w2.cell? ⟨h, p + k * 7 + 5, none⟩ = some y5 ∧ w2.cell? ⟨h, p + k * 7 + 6, none⟩ = some y6 ∧ Hid (Below wr.heap.size wr w2) := by
  obtain ⟨c0, c1, c2, c3, c4, c5, c6, d0, d1, d2, d3, d4, d5, d6, HB⟩ := hX
  have hs := HB.out.size
  have a : ∀ m, w2.cell? ⟨g, m, none⟩ = X.cell? ⟨g, m, none⟩ := fun m => hb.cell (p := ⟨g, m, none⟩) (Nat.lt_of_lt_of_le hg hs)
  have b : ∀ m, w2.cell? ⟨h, m, none⟩ = X.cell? ⟨h, m, none⟩ := fun m => hb.cell (p := ⟨h, m, none⟩) (Nat.lt_of_lt_of_le hh hs)
  exact ⟨(a _).trans c0, (a _).trans c1, (a _).trans c2, (a _).trans c3, (a _).trans c4, (a _).trans c5, (a _).trans c6, (b _).trans d0, (b _).trans d1, (b _).trans d2, (b _).trans d3, (b _).trans d4, (b _).trans d5, (b _).trans d6, Lib.hid (HB.out.trans (hb.mono hs))⟩

set_option maxRecDepth 100000 in
set_option maxHeartbeats 8000000 in
theorem eq_rules (l : List Ru) (v v' : Value) (bs bs' : List Nat) (w : World) (hv : RsIs w v l bs) (hv' : RsIs w v' l bs') (hb : ∀ r ∈ l, ruTot r ≤ 1048576) :
    Calls Tryz.prog 56 #[v, v'] w (EqEnd w) := by
  obtain ⟨A, c, rfl, hc1, hc2, -⟩ := id hv
  obtain ⟨A', c', rfl, hc1', hc2', -⟩ := id hv'
  have HU := Lib.hid hv
  have HV := Lib.hid hv'
  obtain ⟨m, hm⟩ : ∃ m, m = l.length := ⟨_, rfl⟩
  rw [← hm] at hc1 hc1' HU HV ⊢
  have HM := Lib.hid hm
  have HBD := Lib.hid hb
  clear hm hv hv' hb
  go_enter Tryz.func56, Tryz.ntmps56
  go_wp2_with fail
  go_loopw [5] (fun i wr => ∃ (k : Nat), k ≤ m ∧ i = .int .i64 (k : Int) ∧ Hid (Below w.heap.size w wr)) (fun i _ => m - (intOf i).toNat)
  case atStart => exact ⟨0, Nat.zero_le _, rfl, Lib.hid (Below.refl _ _)⟩
  case round =>
    obtain ⟨k, hk, rfl, HB⟩ := hrel
    by_cases hlt : k < m
    · obtain ⟨g, o, r, v1, v2, u, b1, hA⟩ := (HU.out.below HB.out).get k (by rw [← HM.out]; exact hlt)
      obtain ⟨h, p, r2, z1, z2, y, b2, hA2⟩ := (HV.out.below HB.out).get k (by rw [← HM.out]; exact hlt)
      obtain rfl := hA.eq
      obtain rfl := hA2.eq
      obtain rfl : r = r2 := Option.some.inj (hA.get.symm.trans hA2.get)
      have HCALL := Lib.hid (fun (W : World) (hb : Hid (Below wr.heap.size wr W)) => eq_rule r _ _ b1 b2 W (hA.is.below hb.out) (hA2.is.below hb.out) (by have := HBD.out r hA.mem; unfold ruTot ssTot at this; omega) (by have := HBD.out r hA.mem; unfold ruTot ssTot at this; omega))
      have HC1 := Lib.hid hA.cells
      have HC2 := Lib.hid hA2.cells
      have hbl := hA.lt
      have hbl' := hA2.lt
      clear hA hA2
      have hk0 : 0 ≤ (k : Int) := by omega
      have hkm : (k : Int) < (m : Int) := by omega
      generalize r.name = N at *
      generalize r.con = C at *
      generalize r.body.kind = K at *
      generalize r.body.name = S at *
      have HDR := Lib.hid (Below.drew (Below.refl wr.heap.size wr))
      go_wp2_with fail
      go_region_held3 (fun W => W.cell? ⟨g, o + k * 7, none⟩ = some (.string N) ∧ W.cell? ⟨g, o + k * 7 + 1, none⟩ = some (.string C) ∧ W.cell? ⟨g, o + k * 7 + 2, none⟩ = some v1 ∧ W.cell? ⟨g, o + k * 7 + 3, none⟩ = some v2 ∧ W.cell? ⟨g, o + k * 7 + 4, none⟩ = some (.int .i64 K) ∧ W.cell? ⟨g, o + k * 7 + 5, none⟩ = some (.string S) ∧ W.cell? ⟨g, o + k * 7 + 6, none⟩ = some u ∧ W.cell? ⟨h, p + k * 7, none⟩ = some (.string N) ∧ W.cell? ⟨h, p + k * 7 + 1, none⟩ = some (.string C) ∧ W.cell? ⟨h, p + k * 7 + 2, none⟩ = some z1 ∧ W.cell? ⟨h, p + k * 7 + 3, none⟩ = some z2 ∧ W.cell? ⟨h, p + k * 7 + 4, none⟩ = some (.int .i64 K) ∧ W.cell? ⟨h, p + k * 7 + 5, none⟩ = some (.string S) ∧ W.cell? ⟨h, p + k * 7 + 6, none⟩ = some y ∧ Hid (Below wr.heap.size wr W))
        (first | exact two7_start HC1.out HC2.out | exact two7_step hbl hbl' hb2 (by assumption))
        (first | (go_at_call 84; refine (HCALL.out _ (‹_ ∧ _ ∧ _ ∧ _ ∧ _ ∧ _ ∧ _ ∧ _ ∧ _ ∧ _ ∧ _ ∧ _ ∧ _ ∧ _ ∧ Hid (Below wr.heap.size wr _)›).2.2.2.2.2.2.2.2.2.2.2.2.2.2).mono ?_; rintro e w2 ⟨rfl, hb2⟩))
      all_goals
        have hx := ‹_ ∧ _ ∧ _ ∧ _ ∧ _ ∧ _ ∧ _ ∧ _ ∧ _ ∧ _ ∧ _ ∧ _ ∧ _ ∧ _ ∧ Hid (Below wr.heap.size wr w2)›
        have HX := Lib.hid (HB.out.trans (hx.2.2.2.2.2.2.2.2.2.2.2.2.2.2.out.mono HB.out.size))
        clear hx
        go_wp2_with fail
        go_roundw
        case rel => exact ⟨k + 1, by omega, by go_num, HX⟩
        case measure => simp [intOf]; omega
    · go_wp2_with fail
      go_ret
      exact ⟨rfl, HB.out⟩

set_option maxHeartbeats 1000000 in
theorem eq_prog (l : List Ru) (v v' : Value) (bs bs' : List Nat) (w : World) (hv : PrIs w v l bs) (hv' : PrIs w v' l bs') (hb : rusTot l ≤ 1048576) :
    Calls Tryz.prog 26 #[v, v'] w (EqEnd w) := by
  obtain ⟨u, rfl, hu⟩ := hv
  obtain ⟨u', rfl, hu'⟩ := hv'
  have HC := Lib.hid (fun (W : World) (hb2 : Below w.heap.size w W) => eq_rules l u u' bs bs' W (hu.below hb2) (hu'.below hb2) (fun r hr => by have := rusTot_mem hr; omega))
  clear hu hu'
  go_enter Tryz.func26, Tryz.ntmps26
  go_wp2_with (go_at_call 56; refine (HC.out _ (((Below.refl w.heap.size w).alloc (Nat.le_refl _) _).alloc (by simp) _)).mono ?_; rintro r w1 ⟨rfl, hb1⟩; have HB1 := Lib.hid (box_low (box_low hb1)); clear hb1)
  go_ret
  exact ⟨rfl, HB1.out⟩
end Go.Proofs.YtmndlhbgacgnlaaGreat
