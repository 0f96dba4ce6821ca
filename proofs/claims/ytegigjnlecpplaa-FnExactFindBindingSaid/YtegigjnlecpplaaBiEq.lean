/- The contracts of the laws' comparison of equal bindings. No condition. -/
import Derived.Test.YtegigjnlecpplaaExEq
import Derived.Test.YtegigjnlecpplaaBiSz
namespace Go.Proofs.Ytegigjnlecpplaa
open Go Go.RowKit

set_option maxRecDepth 100000 in
set_option maxHeartbeats 4000000 in
theorem eq_bind (r : Bi) (v v' : Value) (bs bs' : List Nat) (w : World) (hv : BiIs w v r bs) (hv' : BiIs w v' r bs') :
    Calls Try.prog 65 #[v, v'] w (EqEnd w) := by
  obtain ⟨u, rfl, -, h3⟩ := hv
  obtain ⟨y, rfl, -, g3⟩ := hv'
  have H3 := Lib.hid (fun (W : World) (hb : Below w.heap.size w W) => eq_expr r.val _ _ bs bs' W (h3.below hb) (g3.below hb))
  clear h3 g3
  generalize r.name = N at *
  generalize r.val.kind = K at *
  generalize r.val.name = S at *
  have HB0 := Lib.hid (((Below.refl w.heap.size w).alloc (Nat.le_refl _) (.cells #[.string N, .int .i64 K, .string S, u] 69)).alloc (by simp) (.cells #[.string N, .int .i64 K, .string S, y] 69))
  go_enter Try.func65, Try.ntmps65
  go_wp2_with fail
  go_at_call 28
  refine (H3.out _ HB0.out).mono ?_
  rintro e x3 ⟨rfl, hb3⟩
  have HL3 := Lib.hid (HB0.out.trans (hb3.mono HB0.out.size))
  clear hb3
  go_wp2_with fail
  go_ret
  exact ⟨rfl, HL3.out⟩

theorem two4_start {wr : World} {g o h p k : Nat} {x0 x1 x2 x3 y0 y1 y2 y3 : Value} (c : Cells4 wr g (o + k * 4) x0 x1 x2 x3) (d : Cells4 wr h (p + k * 4) y0 y1 y2 y3) : wr.drew.cell? ⟨g, o + k * 4, none⟩ = some (x0) ∧ wr.drew.cell? ⟨g, o + k * 4 + 1, none⟩ = some (x1) ∧ wr.drew.cell? ⟨g, o + k * 4 + 2, none⟩ = some (x2) ∧ wr.drew.cell? ⟨g, o + k * 4 + 3, none⟩ = some (x3) ∧ wr.drew.cell? ⟨h, p + k * 4, none⟩ = some (y0) ∧ wr.drew.cell? ⟨h, p + k * 4 + 1, none⟩ = some (y1) ∧ wr.drew.cell? ⟨h, p + k * 4 + 2, none⟩ = some (y2) ∧ wr.drew.cell? ⟨h, p + k * 4 + 3, none⟩ = some (y3) ∧ Hid (Below wr.heap.size wr wr.drew) :=
  ⟨c.c0, c.c1, c.c2, c.c3, d.c0, d.c1, d.c2, d.c3, Lib.hid (Below.refl _ _).drew⟩
theorem two4_step {wr X w2 : World} {g o h p k : Nat} {x0 x1 x2 x3 y0 y1 y2 y3 : Value} (hg : g < wr.heap.size) (hh : h < wr.heap.size) (hb : Below X.heap.size X w2) (hX : X.cell? ⟨g, o + k * 4, none⟩ = some (x0) ∧ X.cell? ⟨g, o + k * 4 + 1, none⟩ = some (x1) ∧ X.cell? ⟨g, o + k * 4 + 2, none⟩ = some (x2) ∧ X.cell? ⟨g, o + k * 4 + 3, none⟩ = some (x3) ∧ X.cell? ⟨h, p + k * 4, none⟩ = some (y0) ∧ X.cell? ⟨h, p + k * 4 + 1, none⟩ = some (y1) ∧ X.cell? ⟨h, p + k * 4 + 2, none⟩ = some (y2) ∧ X.cell? ⟨h, p + k * 4 + 3, none⟩ = some (y3) ∧ Hid (Below wr.heap.size wr X)) : w2.cell? ⟨g, o + k * 4, none⟩ = some (x0) ∧ w2.cell? ⟨g, o + k * 4 + 1, none⟩ = some (x1) ∧ w2.cell? ⟨g, o + k * 4 + 2, none⟩ = some (x2) ∧ w2.cell? ⟨g, o + k * 4 + 3, none⟩ = some (x3) ∧ w2.cell? ⟨h, p + k * 4, none⟩ = some (y0) ∧ w2.cell? ⟨h, p + k * 4 + 1, none⟩ = some (y1) ∧ w2.cell? ⟨h, p + k * 4 + 2, none⟩ = some (y2) ∧ w2.cell? ⟨h, p + k * 4 + 3, none⟩ = some (y3) ∧ Hid (Below wr.heap.size wr w2) := by
  obtain ⟨c0, c1, c2, c3, d0, d1, d2, d3, HB⟩ := hX
  have hs := HB.out.size
  have a : ∀ m, w2.cell? ⟨g, m, none⟩ = X.cell? ⟨g, m, none⟩ := fun m => hb.cell (p := ⟨g, m, none⟩) (Nat.lt_of_lt_of_le hg hs)
  have b : ∀ m, w2.cell? ⟨h, m, none⟩ = X.cell? ⟨h, m, none⟩ := fun m => hb.cell (p := ⟨h, m, none⟩) (Nat.lt_of_lt_of_le hh hs)
  exact ⟨(a _).trans c0, (a _).trans c1, (a _).trans c2, (a _).trans c3, (b _).trans d0, (b _).trans d1, (b _).trans d2, (b _).trans d3, Lib.hid (HB.out.trans (hb.mono hs))⟩

set_option maxRecDepth 100000 in
set_option maxHeartbeats 8000000 in
theorem eq_binds (l : List Bi) (v v' : Value) (bs bs' : List Nat) (w : World) (hv : BlIs w v l bs) (hv' : BlIs w v' l bs') :
    Calls Try.prog 29 #[v, v'] w (EqEnd w) := by
  obtain ⟨A, c, rfl, hc1, hc2, -⟩ := id hv
  obtain ⟨A', c', rfl, hc1', hc2', -⟩ := id hv'
  have HU := Lib.hid hv
  have HV := Lib.hid hv'
  obtain ⟨m, hm⟩ : ∃ m, m = l.length := ⟨_, rfl⟩
  rw [← hm] at hc1 hc1' HU HV ⊢
  have HM := Lib.hid hm
  clear hm hv hv'
  go_enter Try.func29, Try.ntmps29
  go_wp2_with fail
  go_loopw [5] (fun i wr => ∃ (k : Nat), k ≤ m ∧ i = .int .i64 (k : Int) ∧ Hid (Below w.heap.size w wr)) (fun i _ => m - (intOf i).toNat)
  case atStart => exact ⟨0, Nat.zero_le _, rfl, Lib.hid (Below.refl _ _)⟩
  case round =>
    obtain ⟨k, hk, rfl, HB⟩ := hrel
    by_cases hlt : k < m
    · obtain ⟨g, o, r, u, b1, hA⟩ := (HU.out.below HB.out).get k (by rw [← HM.out]; exact hlt)
      obtain ⟨h, p, r2, y, b2, hA2⟩ := (HV.out.below HB.out).get k (by rw [← HM.out]; exact hlt)
      obtain rfl := hA.eq
      obtain rfl := hA2.eq
      obtain rfl : r = r2 := Option.some.inj (hA.get.symm.trans hA2.get)
      have HCALL := Lib.hid (fun (W : World) (hb : Hid (Below wr.heap.size wr W)) => eq_bind r _ _ b1 b2 W (hA.is.below hb.out) (hA2.is.below hb.out))
      have HC1 := Lib.hid hA.cells
      have HC2 := Lib.hid hA2.cells
      have hbl := hA.lt
      have hbl' := hA2.lt
      clear hA hA2
      have hk0 : 0 ≤ (k : Int) := by omega
      have hkm : (k : Int) < (m : Int) := by omega
      generalize r.name = N at *
      generalize r.val.kind = K at *
      generalize r.val.name = S at *
      have HDR := Lib.hid (Below.drew (Below.refl wr.heap.size wr))
      go_wp2_with fail
      go_region_held3 (fun W => W.cell? ⟨g, o + k * 4, none⟩ = some (.string N) ∧ W.cell? ⟨g, o + k * 4 + 1, none⟩ = some (.int .i64 K) ∧ W.cell? ⟨g, o + k * 4 + 2, none⟩ = some (.string S) ∧ W.cell? ⟨g, o + k * 4 + 3, none⟩ = some (u) ∧ W.cell? ⟨h, p + k * 4, none⟩ = some (.string N) ∧ W.cell? ⟨h, p + k * 4 + 1, none⟩ = some (.int .i64 K) ∧ W.cell? ⟨h, p + k * 4 + 2, none⟩ = some (.string S) ∧ W.cell? ⟨h, p + k * 4 + 3, none⟩ = some (y) ∧ Hid (Below wr.heap.size wr W))
        (first | exact two4_start HC1.out HC2.out | exact two4_step hbl hbl' hb2 (by assumption))
        (first | (go_at_call 65; refine (HCALL.out _ (‹_ ∧ _ ∧ _ ∧ _ ∧ _ ∧ _ ∧ _ ∧ _ ∧ Hid (Below wr.heap.size wr _)›).2.2.2.2.2.2.2.2).mono ?_; rintro e w2 ⟨rfl, hb2⟩))
      all_goals
        have hx := ‹_ ∧ _ ∧ _ ∧ _ ∧ _ ∧ _ ∧ _ ∧ _ ∧ Hid (Below wr.heap.size wr w2)›
        have HX := Lib.hid (HB.out.trans (hx.2.2.2.2.2.2.2.2.out.mono HB.out.size))
        clear hx
        go_wp2_with fail
        go_roundw
        case rel => exact ⟨k + 1, by omega, by go_num, HX⟩
        case measure => simp [intOf]; omega
    · go_wp2_with fail
      go_ret
      exact ⟨rfl, HB.out⟩

end Go.Proofs.Ytegigjnlecpplaa
