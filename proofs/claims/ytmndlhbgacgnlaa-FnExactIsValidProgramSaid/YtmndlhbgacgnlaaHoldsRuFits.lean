/- What lies in memory of its own, shared by no string. No condition. The walk of the law FnExactIsExprFor, from a contract of the program's own function. Conditions: that contract; the arguments lie in memory. The laws FnExactIsExprFor, each from a contract of the program's own function. Conditions: those contracts; the reach of the form. -/
import Derived.Test.YtmndlhbgacgnlaaLawRu
import Derived.Test.YtmndlhbgacgnlaaHoldsRu
import Derived.ProofKit
import Derived.SizedLaws
import Derived.OpenShut
namespace Go.Proofs.Ytmndlhbgacgnlaa
open Go Go.RowKit

/-- No string shares the memory of what is at hand. -/
def Thawed (W : World) (bs : List Nat) : Prop := ∀ x ∈ bs, x < W.heap.size ∧ ∀ o, W.frozen? ⟨x, o, none⟩ = false
theorem Thawed.below {W W2 : World} {bs : List Nat} (h : Thawed W bs) (hb : Below W.heap.size W W2) : Thawed W2 bs := fun x hx => ⟨Nat.lt_of_lt_of_le (h x hx).1 hb.size, fun o => (hb.frozen (p := ⟨x, o, none⟩) (h x hx).1).trans ((h x hx).2 o)⟩

theorem mine_thawed {W : World} {B : Nat} {b2 : List Nat} (h2 : Mine W B b2) : Thawed W b2 := fun x h => ⟨(h2.range x h).2, h2.free x h⟩
theorem thawed_both {W : World} {B C : Nat} {b2 b3 : List Nat} (h2 : Mine W B b2) (h3 : Mine W C b3) : Thawed W (b2 ++ b3) := fun x hx => (List.mem_append.1 hx).elim (fun h => ⟨(h2.range x h).2, h2.free x h⟩) (fun h => ⟨(h3.range x h).2, h3.free x h⟩)
end Go.Proofs.Ytmndlhbgacgnlaa

namespace Go.Proofs.Ytmndlhbgacgnlaa
open Go Go.RowKit
theorem lbox3 {w W : World} {K : Int} {S : ByteArray} {u : Value} (hb : Below (w.alloc (.cells #[.int .i64 K, .string S, u] 42)).heap.size (w.alloc (.cells #[.int .i64 K, .string S, u] 42)) W) : W.cell? ⟨w.heap.size, 0, none⟩ = some (.int .i64 K) ∧ W.cell? ⟨w.heap.size, 1, none⟩ = some (.string S) ∧ W.cell? ⟨w.heap.size, 2, none⟩ = some u := by
  have h : W.heap[w.heap.size]? = some (.cells #[.int .i64 K, .string S, u] 42 (0, 0)) := (hb.block _ (by simp)).trans (by show (w.heap.push _)[w.heap.size]? = _; simp)
  refine ⟨?_, ?_, ?_⟩ <;> (rw [World.cell?, h]; rfl)
theorem kq2_start {wr : World} {a0 a1 : Addr} {x0 x1 : Value} (h : Hid (wr.cell? a0 = some x0 ∧ wr.cell? a1 = some x1)) : wr.drew.cell? a0 = some x0 ∧ wr.drew.cell? a1 = some x1 ∧ Hid (Below wr.heap.size wr wr.drew) := by
  obtain ⟨h0, h1⟩ := h.out
  exact ⟨h0, h1, Lib.hid (Below.refl _ _).drew⟩
theorem kq2_step {wr X w2 : World} {a0 a1 : Addr} {x0 x1 : Value} (h : Hid (wr.cell? a0 = some x0 ∧ wr.cell? a1 = some x1)) (hb : Below X.heap.size X w2) (hX : X.cell? a0 = some x0 ∧ X.cell? a1 = some x1 ∧ Hid (Below wr.heap.size wr X)) : w2.cell? a0 = some x0 ∧ w2.cell? a1 = some x1 ∧ Hid (Below wr.heap.size wr w2) := by
  have HB := hX.2.2
  have hw := HB.out.trans (hb.mono HB.out.size)
  have k : ∀ {p : Addr} {x : Value}, wr.cell? p = some x → w2.cell? p = some x := fun {p x} hp => (hw.cell (p := p) (World.block_lt_of_cell? wr _ hp)).trans hp
  obtain ⟨h0, h1⟩ := h.out
  exact ⟨k h0, k h1, Lib.hid hw⟩
theorem kq4_start {wr : World} {a0 a1 a2 a3 : Addr} {x0 x1 x2 x3 : Value} (h : Hid (wr.cell? a0 = some x0 ∧ wr.cell? a1 = some x1 ∧ wr.cell? a2 = some x2 ∧ wr.cell? a3 = some x3)) : wr.drew.cell? a0 = some x0 ∧ wr.drew.cell? a1 = some x1 ∧ wr.drew.cell? a2 = some x2 ∧ wr.drew.cell? a3 = some x3 ∧ Hid (Below wr.heap.size wr wr.drew) := by
  obtain ⟨h0, h1, h2, h3⟩ := h.out
  exact ⟨h0, h1, h2, h3, Lib.hid (Below.refl _ _).drew⟩
theorem kq4_step {wr X w2 : World} {a0 a1 a2 a3 : Addr} {x0 x1 x2 x3 : Value} (h : Hid (wr.cell? a0 = some x0 ∧ wr.cell? a1 = some x1 ∧ wr.cell? a2 = some x2 ∧ wr.cell? a3 = some x3)) (hb : Below X.heap.size X w2) (hX : X.cell? a0 = some x0 ∧ X.cell? a1 = some x1 ∧ X.cell? a2 = some x2 ∧ X.cell? a3 = some x3 ∧ Hid (Below wr.heap.size wr X)) : w2.cell? a0 = some x0 ∧ w2.cell? a1 = some x1 ∧ w2.cell? a2 = some x2 ∧ w2.cell? a3 = some x3 ∧ Hid (Below wr.heap.size wr w2) := by
  have HB := hX.2.2.2.2
  have hw := HB.out.trans (hb.mono HB.out.size)
  have k : ∀ {p : Addr} {x : Value}, wr.cell? p = some x → w2.cell? p = some x := fun {p x} hp => (hw.cell (p := p) (World.block_lt_of_cell? wr _ hp)).trans hp
  obtain ⟨h0, h1, h2, h3⟩ := h.out
  exact ⟨k h0, k h1, k h2, k h3, Lib.hid hw⟩
theorem kq6_start {wr : World} {a0 a1 a2 a3 a4 a5 : Addr} {x0 x1 x2 x3 x4 x5 : Value} (h : Hid (wr.cell? a0 = some x0 ∧ wr.cell? a1 = some x1 ∧ wr.cell? a2 = some x2 ∧ wr.cell? a3 = some x3 ∧ wr.cell? a4 = some x4 ∧ wr.cell? a5 = some x5)) : wr.drew.cell? a0 = some x0 ∧ wr.drew.cell? a1 = some x1 ∧ wr.drew.cell? a2 = some x2 ∧ wr.drew.cell? a3 = some x3 ∧ wr.drew.cell? a4 = some x4 ∧ wr.drew.cell? a5 = some x5 ∧ Hid (Below wr.heap.size wr wr.drew) := by
  obtain ⟨h0, h1, h2, h3, h4, h5⟩ := h.out
  exact ⟨h0, h1, h2, h3, h4, h5, Lib.hid (Below.refl _ _).drew⟩
theorem kq6_step {wr X w2 : World} {a0 a1 a2 a3 a4 a5 : Addr} {x0 x1 x2 x3 x4 x5 : Value} (h : Hid (wr.cell? a0 = some x0 ∧ wr.cell? a1 = some x1 ∧ wr.cell? a2 = some x2 ∧ wr.cell? a3 = some x3 ∧ wr.cell? a4 = some x4 ∧ wr.cell? a5 = some x5)) (hb : Below X.heap.size X w2) (hX : X.cell? a0 = some x0 ∧ X.cell? a1 = some x1 ∧ X.cell? a2 = some x2 ∧ X.cell? a3 = some x3 ∧ X.cell? a4 = some x4 ∧ X.cell? a5 = some x5 ∧ Hid (Below wr.heap.size wr X)) : w2.cell? a0 = some x0 ∧ w2.cell? a1 = some x1 ∧ w2.cell? a2 = some x2 ∧ w2.cell? a3 = some x3 ∧ w2.cell? a4 = some x4 ∧ w2.cell? a5 = some x5 ∧ Hid (Below wr.heap.size wr w2) := by
  have HB := hX.2.2.2.2.2.2
  have hw := HB.out.trans (hb.mono HB.out.size)
  have k : ∀ {p : Addr} {x : Value}, wr.cell? p = some x → w2.cell? p = some x := fun {p x} hp => (hw.cell (p := p) (World.block_lt_of_cell? wr _ hp)).trans hp
  obtain ⟨h0, h1, h2, h3, h4, h5⟩ := h.out
  exact ⟨k h0, k h1, k h2, k h3, k h4, k h5, Lib.hid hw⟩

set_option maxRecDepth 100000 in
set_option maxHeartbeats 8000000 in
theorem lawfits (l : List Ru) (e : Ex) (vp vq : Value) (bsp bsq : List Nat) (w : World) (hp : PrIs w vp l bsp) (hq : ExIs w vq e bsq)
    (hO : ∀ (v2 v3 : Value) (b2 b3 : List Nat) (W : World), PrIs W v2 l b2 → ExIs W v3 e b3 → Thawed W (b2 ++ b3) → rusTot l ≤ 1048576 → exTot e ≤ 1048576 → Calls Try.prog 43 #[v2, v3] W (RetPost (.bool (exFor l e)) W)) :
    Calls Try.prog 7 #[vp, vq] w (TrueX w) := by
  have HZ := Lib.hid (fun (W : World) (hb : Below w.heap.size w W) => sz_prog l vp bsp W 1048576 (hp.below hb) (by omega) (by omega))
  have HZ' := Lib.hid (fun (L : Int) (h0 : 0 ≤ L) (h1 : L ≤ 1048576) (W : World) (hb : Below w.heap.size w W) => sz_expr e vq bsq W L (hq.below hb) h0 h1)
  have HC := Lib.hid (fun (ht : rusTot l ≤ 1048576) (W : World) (hb : Below w.heap.size w W) => copy_prog l vp bsp W (hp.below hb) ht)
  have HC' := Lib.hid (fun (ht : exTot e ≤ 1048576) (W : World) (hb : Below w.heap.size w W) => copy_expr e vq bsq W (hq.below hb) (tot_small ht))
  have HO := Lib.hid hO
  have HP := Lib.hid (fun (hta : rusTot l ≤ 1048576) (htb : exTot e ≤ 1048576) (v2 v3 : Value) (b2 b3 : List Nat) (W : World) (h : PrIs W v2 l b2) (h' : ExIs W v3 e b3) => show Calls Try.prog 42 #[v2, v3] W (RetPost (.bool (exFor l e)) W) from exfor_any l e v2 v3 b2 b3 W h h' hta htb)
  clear hO
  obtain ⟨up, rfl, hup⟩ := hp
  obtain ⟨Ap, cp, rfl, -⟩ := id hup
  obtain ⟨uq, rfl, -, huq⟩ := hq
  obtain ⟨Aq, cq, rfl, -⟩ := id huq
  clear hup huq
  generalize exFor l e = R at *
  have HBX := Lib.hid (fun (W : World) (h : Below ((w.alloc (.cells #[.slice Ap l.length cp] 48)).alloc (.cells #[.int .i64 e.kind, .string e.name, .slice Aq e.args.length cq] 42)).heap.size ((w.alloc (.cells #[.slice Ap l.length cp] 48)).alloc (.cells #[.int .i64 e.kind, .string e.name, .slice Aq e.args.length cq] 42)) W) => show W.cell? ⟨w.heap.size, 0, none⟩ = some (.slice Ap l.length cp) ∧ W.cell? ⟨w.heap.size + 1, 0, none⟩ = some (.int .i64 e.kind) ∧ W.cell? ⟨w.heap.size + 1, 1, none⟩ = some (.string e.name) ∧ W.cell? ⟨w.heap.size + 1, 2, none⟩ = some (.slice Aq e.args.length cq) by
    have e1 := lbox (box_low h)
    have e2 := lbox3 h
    simp only [World.size_alloc] at e2
    exact ⟨e1, e2⟩)
  have HB0 := Lib.hid (((Below.refl w.heap.size w).alloc (Nat.le_refl _) (.cells #[.slice Ap l.length cp] 48)).alloc (by simp) (.cells #[.int .i64 e.kind, .string e.name, .slice Aq e.args.length cq] 42))
  have UP := Lib.hid (fun (W : World) (h : Below ((w.alloc (.cells #[.slice Ap l.length cp] 48)).alloc (.cells #[.int .i64 e.kind, .string e.name, .slice Aq e.args.length cq] 42)).heap.size ((w.alloc (.cells #[.slice Ap l.length cp] 48)).alloc (.cells #[.int .i64 e.kind, .string e.name, .slice Aq e.args.length cq] 42)) W) => box_low (box_low h))
  go_enter Try.func7, Try.ntmps7
  go_wp2_with fail
  go_at_call 37
  refine (HZ.out _ HB0.out).mono ?_
  rintro r w1 ⟨z, rfl, hb1, hz⟩
  have HW1 := Lib.hid hb1
  clear hb1 HZ
  rcases hz with ⟨rfl, -⟩ | ⟨hz0, hz⟩
  · go_wp2_with fail
    go_ret
    exact ⟨rfl, UP.out _ HW1.out⟩
  have hta : rusTot l ≤ 1048576 := by omega
  have hz1 : z ≤ 1048576 := by omega
  have HTA := Lib.hid hta
  clear hz hta
  obtain ⟨x0, x1, x2, x3⟩ := HBX.out w1 HW1.out
  go_wp2_with fail
  go_at_call 34
  refine (HZ'.out z hz0 hz1 _ (UP.out _ HW1.out)).mono ?_
  rintro r w2 ⟨z2, rfl, hb2, hz⟩
  have HW2 := Lib.hid (HW1.out.trans (hb2.mono HW1.out.size))
  clear hb2 HZ' x0 x1 x2 x3 HW1
  rcases hz with ⟨rfl, -⟩ | ⟨hz20, hz⟩
  · go_wp2_with fail
    go_ret
    exact ⟨rfl, UP.out _ HW2.out⟩
  have HTB := Lib.hid (show exTot e ≤ 1048576 by omega)
  clear hz
  have HCA := Lib.hid (fun (W : World) (hb : Below ((w.alloc (.cells #[.slice Ap l.length cp] 48)).alloc (.cells #[.int .i64 e.kind, .string e.name, .slice Aq e.args.length cq] 42)).heap.size ((w.alloc (.cells #[.slice Ap l.length cp] 48)).alloc (.cells #[.int .i64 e.kind, .string e.name, .slice Aq e.args.length cq] 42)) W) => HC.out HTA.out W (UP.out _ hb))
  have HCB := Lib.hid (fun (W : World) (hb : Below ((w.alloc (.cells #[.slice Ap l.length cp] 48)).alloc (.cells #[.int .i64 e.kind, .string e.name, .slice Aq e.args.length cq] 42)).heap.size ((w.alloc (.cells #[.slice Ap l.length cp] 48)).alloc (.cells #[.int .i64 e.kind, .string e.name, .slice Aq e.args.length cq] 42)) W) => HC'.out HTB.out W (UP.out _ hb))
  clear HC HC'
  have H6 := Lib.hid (HBX.out w2 HW2.out)
  obtain ⟨x0, x1, x2, x3⟩ := HBX.out w2 HW2.out
  have HDR := Lib.hid (Below.drew (Below.refl w2.heap.size w2))
  have HA2 := Lib.hid (fun (W : World) (h : Hid (Below w2.heap.size w2 W)) => HCA.out W (HW2.out.trans (h.out.mono HW2.out.size)))
  have HB2 := Lib.hid (fun (W : World) (h : Hid (Below w2.heap.size w2 W)) => HCB.out W (HW2.out.trans (h.out.mono HW2.out.size)))
  go_wp2_with fail
  go_region_held3 (fun X => X.cell? ⟨w.heap.size, 0, none⟩ = some (.slice Ap l.length cp) ∧ X.cell? ⟨w.heap.size + 1, 0, none⟩ = some (.int .i64 e.kind) ∧ X.cell? ⟨w.heap.size + 1, 1, none⟩ = some (.string e.name) ∧ X.cell? ⟨w.heap.size + 1, 2, none⟩ = some (.slice Aq e.args.length cq) ∧ Hid (Below w2.heap.size w2 X))
    (first | exact kq4_start H6 | exact kq4_step H6 hb6 (by assumption) | exact kq4_step H6 hb7 (by assumption) | exact kq4_step H6 hb8 (by assumption))
    (first
      | (go_at_call 39; (with_reducible refine (HA2.out w2.drew HDR).mono ?_); rintro r w6 ⟨v6, b6, rfl, hs6, -, hb6⟩)
      | (go_at_call 35; (with_reducible refine (HB2.out w2.drew HDR).mono ?_); rintro r w7 ⟨v7, b7, rfl, hs7, -, hb7⟩)
      | (go_at_call 39; have hh := ‹_ ∧ _ ∧ _ ∧ _ ∧ Hid (Below w2.heap.size w2 w7)›; (with_reducible refine (HA2.out w7 hh.2.2.2.2).mono ?_); clear hh; rintro r w6 ⟨v6, b6, rfl, hs6, -, hb6⟩)
      | (go_at_call 35; have hh := ‹_ ∧ _ ∧ _ ∧ _ ∧ Hid (Below w2.heap.size w2 w6)›; (with_reducible refine (HB2.out w6 hh.2.2.2.2).mono ?_); clear hh; rintro r w7 ⟨v7, b7, rfl, hs7, -, hb7⟩)
      | (go_at_call 42; (with_reducible refine (HP.out HTA.out HTB.out _ _ b6 b7 w7 (hs6.below hb7) hs7).mono ?_); rintro r w8 ⟨rfl, hb8⟩)
      | (go_at_call 42; (with_reducible refine (HP.out HTA.out HTB.out _ _ b6 b7 w6 hs6 (hs7.below hb6)).mono ?_); rintro r w8 ⟨rfl, hb8⟩))
  all_goals
    have hx := ‹_ ∧ _ ∧ _ ∧ _ ∧ Hid (Below w2.heap.size w2 w8)›
    have HW8 := Lib.hid (HW2.out.trans (hx.2.2.2.2.out.mono HW2.out.size))
    clear hx x0 x1 x2 x3 hs6 hs7 hb6 hb7 hb8 H6
    obtain ⟨x0, x1, x2, x3⟩ := HBX.out w8 HW8.out
    go_wp2_with fail
    go_at_call 39
    refine (HCA.out w8 HW8.out).mono ?_
    rintro r w9 ⟨v9, b9, rfl, hs9, hm9, hb9⟩
    obtain ⟨u9, rfl, hu9⟩ := id hs9
    obtain ⟨A9, c9, rfl, -⟩ := id hu9
    have HK9 := Lib.hid (hs9.below ((Below.refl w9.heap.size w9).alloc (Nat.le_refl _) (.cells #[.slice A9 l.length c9] 53)))
    have HV9 := Lib.hid (HW8.out.trans (hb9.mono HW8.out.size))
    have HW9 := Lib.hid (HV9.out.alloc HV9.out.size (.cells #[.slice A9 l.length c9] 53))
    have HM9 := Lib.hid (hm9.keeps (keeps_below ((Below.refl w9.heap.size w9).alloc (Nat.le_refl _) (.cells #[.slice A9 l.length c9] 53)) _))
    clear hs9 hu9 hb9 hm9 x0 x1 x2 x3
    have HB9 := Lib.hid (fun (W : World) (h : Below (w9.alloc (.cells #[.slice A9 l.length c9] 53)).heap.size (w9.alloc (.cells #[.slice A9 l.length c9] 53)) W) => pbox h)
    obtain ⟨x0, x1, x2, x3⟩ := HBX.out _ HW9.out
    go_wp2_with fail
    go_at_call 35
    refine (HCB.out _ HW9.out).mono ?_
    rintro r w10 ⟨v10, b10, rfl, hs10, hm10, hb10⟩
    obtain ⟨u10, rfl, -, hu10⟩ := id hs10
    obtain ⟨A10, c10, rfl, -⟩ := id hu10
    have hl10 : w9.heap.size + 1 ≤ w10.heap.size := by have := hb10.size; simpa using this
    have HY10 := Lib.hid (hb10.trans ((Below.refl w10.heap.size w10 |>.alloc (Nat.le_refl _) (.cells #[.int .i64 e.kind, .string e.name, .slice A10 e.args.length c10] 26)).mono (by have := hb10.size; exact this)))
    have HK10 := Lib.hid (hs10.below ((Below.refl w10.heap.size w10).alloc (Nat.le_refl _) (.cells #[.int .i64 e.kind, .string e.name, .slice A10 e.args.length c10] 26)))
    have HJ10 := Lib.hid (HK9.out.below HY10.out)
    have HW10 := Lib.hid (HW9.out.trans (HY10.out.mono HW9.out.size))
    have HM10 := Lib.hid (thawed_both (HM9.out.keeps (keeps_below HY10.out _)) (hm10.keeps (keeps_below ((Below.refl w10.heap.size w10).alloc (Nat.le_refl _) (.cells #[.int .i64 e.kind, .string e.name, .slice A10 e.args.length c10] 26)) _)))
    clear hs10 hu10 hb10 hm10 HM9 x0 x1 x2 x3 HK9 HW9
    have hy9 := HB9.out _ HY10.out
    have y0 := hy9
    clear hy9
    go_wp2_with fail
    go_at_call 43
    refine (HO.out _ _ b9 b10 _ HJ10.out HK10.out HM10.out HTA.out HTB.out).mono ?_
    rintro r w11 ⟨rfl, hb11⟩
    have HX11 := Lib.hid (HB9.out w11 (HY10.out.trans (hb11.mono (by simp; omega))))
    have HV11 := Lib.hid (box_cells2 w10 e.kind e.name (.slice A10 e.args.length c10) w11 hb11)
    have HJ11 := Lib.hid (HJ10.out.below hb11)
    have HK11 := Lib.hid (HK10.out.below hb11)
    have HW11 := Lib.hid (HW10.out.trans (hb11.mono HW10.out.size))
    clear hb11 y0 HY10 HJ10 HK10 HW10
    obtain ⟨x0, x1, x2, x3⟩ := HBX.out w11 HW11.out
    have hxx := HX11.out
    have y0 := hxx
    have HSIX := Lib.hid (show w11.cell? ⟨w.heap.size, 0, none⟩ = some (.slice Ap l.length cp) ∧ w11.cell? ⟨w9.heap.size, 0, none⟩ = some (.slice A9 l.length c9) from ⟨x0, y0⟩)
    have HDR2 := Lib.hid (Below.drew (Below.refl w11.heap.size w11))
    have HA11 := Lib.hid (fun (W : World) (h : Hid (Below w11.heap.size w11 W)) => HCA.out W (HW11.out.trans (h.out.mono HW11.out.size)))
    have HE11 := Lib.hid (fun (v6 : Value) (b6 : List Nat) (W : World) (h : Hid (Below w11.heap.size w11 W)) (h6 : PrIs W v6 l b6) => eq_prog l _ v6 b9 b6 W (HJ11.out.below h.out) h6 HTA.out)
    cases R
    all_goals
      go_wp2_with fail
      go_region_held3 (fun X => X.cell? ⟨w.heap.size, 0, none⟩ = some (.slice Ap l.length cp) ∧ X.cell? ⟨w9.heap.size, 0, none⟩ = some (.slice A9 l.length c9) ∧ Hid (Below w11.heap.size w11 X))
        (first | exact kq2_start HSIX | exact kq2_step HSIX hb12 (by assumption) | exact kq2_step HSIX hb13 (by assumption))
        (first
          | (go_at_call 39; refine (HA11.out _ (by assumption)).mono ?_; rintro r w12 ⟨v12, b12, rfl, hs12, -, hb12⟩)
          | (go_at_call 41; have hh := ‹_ ∧ _ ∧ Hid (Below w11.heap.size w11 w12)›; refine (HE11.out _ b12 _ hh.2.2 hs12).mono ?_; clear hh; rintro r w13 ⟨rfl, hb13⟩))
      all_goals
        have hx := ‹_ ∧ _ ∧ Hid (Below w11.heap.size w11 w13)›
        have HT13 := Lib.hid hx.2.2.out
        have HW13 := Lib.hid (HW11.out.trans (HT13.out.mono HW11.out.size))
        have HK13 := Lib.hid (HK11.out.below HT13.out)
        clear hx hs12 hb12 hb13
        have HQ13 := Lib.hid (HBX.out w13 HW13.out)
        have HU13 := Lib.hid (And.intro ((HT13.out.cell (p := ⟨w10.heap.size, 0, none⟩) (World.block_lt_of_cell? w11 _ HV11.out.1)).trans HV11.out.1) (And.intro ((HT13.out.cell (p := ⟨w10.heap.size, 1, none⟩) (World.block_lt_of_cell? w11 _ HV11.out.2.1)).trans HV11.out.2.1) ((HT13.out.cell (p := ⟨w10.heap.size, 2, none⟩) (World.block_lt_of_cell? w11 _ HV11.out.2.2)).trans HV11.out.2.2)))
        clear x0 x1 x2 x3 y0
        obtain ⟨x0, x1, x2, x3⟩ := HQ13.out
        have huu := HU13.out
        obtain ⟨y0, y1, y2⟩ := huu
        have HSIX3 := Lib.hid (show w13.cell? ⟨w.heap.size + 1, 0, none⟩ = some (.int .i64 e.kind) ∧ w13.cell? ⟨w.heap.size + 1, 1, none⟩ = some (.string e.name) ∧ w13.cell? ⟨w.heap.size + 1, 2, none⟩ = some (.slice Aq e.args.length cq) ∧ w13.cell? ⟨w10.heap.size, 0, none⟩ = some (.int .i64 e.kind) ∧ w13.cell? ⟨w10.heap.size, 1, none⟩ = some (.string e.name) ∧ w13.cell? ⟨w10.heap.size, 2, none⟩ = some (.slice A10 e.args.length c10) from ⟨x1, x2, x3, y0, y1, y2⟩)
        have HDR3 := Lib.hid (Below.drew (Below.refl w13.heap.size w13))
        have HA13 := Lib.hid (fun (W : World) (h : Hid (Below w13.heap.size w13 W)) => HCB.out W (HW13.out.trans (h.out.mono HW13.out.size)))
        have HE13 := Lib.hid (fun (v6 : Value) (b6 : List Nat) (W : World) (h : Hid (Below w13.heap.size w13 W)) (h6 : ExIs W v6 e b6) => eq_expr e _ v6 b10 b6 W (HK13.out.below h.out) h6)
        go_wp2_with fail
        go_region_held3 (fun X => X.cell? ⟨w.heap.size + 1, 0, none⟩ = some (.int .i64 e.kind) ∧ X.cell? ⟨w.heap.size + 1, 1, none⟩ = some (.string e.name) ∧ X.cell? ⟨w.heap.size + 1, 2, none⟩ = some (.slice Aq e.args.length cq) ∧ X.cell? ⟨w10.heap.size, 0, none⟩ = some (.int .i64 e.kind) ∧ X.cell? ⟨w10.heap.size, 1, none⟩ = some (.string e.name) ∧ X.cell? ⟨w10.heap.size, 2, none⟩ = some (.slice A10 e.args.length c10) ∧ Hid (Below w13.heap.size w13 X))
          (first | exact kq6_start HSIX3 | exact kq6_step HSIX3 hb14 (by assumption) | exact kq6_step HSIX3 hb15 (by assumption))
          (first
            | (go_at_call 35; refine (HA13.out _ (by assumption)).mono ?_; rintro r w14 ⟨v14, b14, rfl, hs14, -, hb14⟩)
            | (go_at_call 36; have hh := ‹_ ∧ _ ∧ _ ∧ _ ∧ _ ∧ _ ∧ Hid (Below w13.heap.size w13 w14)›; refine (HE13.out _ b14 _ hh.2.2.2.2.2.2 hs14).mono ?_; clear hh; rintro r w15 ⟨rfl, hb15⟩))
        all_goals
          have hx := ‹_ ∧ _ ∧ _ ∧ _ ∧ _ ∧ _ ∧ Hid (Below w13.heap.size w13 w15)›
          have HW15 := Lib.hid (HW13.out.trans (hx.2.2.2.2.2.2.out.mono HW13.out.size))
          clear hx
          go_wp2_with fail
          go_ret
          exact ⟨rfl, UP.out _ HW15.out⟩
end Go.Proofs.Ytmndlhbgacgnlaa

namespace Go.Proofs.Ytmndlhbgacgnlaa
open Go Go.ChangeShapes Go.WideShapes Go.ChangeAt Go.RowKit
open Go.ChangeMaps (open_string shut_string)

/-- What the program's own IsExprFor gives. -/
def OwnIsExprFor : Prop := ∀ (l : List Ru) (e : Ex) (v v2 : Value) (bs b2 : List Nat) (W : World), PrIs W v l bs → ExIs W v2 e b2 → Thawed W (bs ++ b2) → rusTot l ≤ 1048576 → exTot e ≤ 1048576 → Calls Try.prog 43 #[v, v2] W (RetPost (.bool (exFor l e)) W)
set_option maxRecDepth 100000 in
theorem liftedIsExprFor (hO : OwnIsExprFor) (os : Os) (started : os.Started) (H : Type) (enc : TypeId × Value → H) :
    ReturnsInHanded {} Try.checked os 7 .any (Rows.fnExactIsExprForSpec.pre6 enc Try.prog Try.f7 Rows.fnExactIsExprForRow.domain false) (Rows.fnExactIsExprForSpec.post enc Try.prog Try.f7 false true false false) := by
  refine returnsInHanded_of_change_sized (C := Try.checked) own started (by kernel_rfl) Try.func7
    (ChangeSpec.witness6 (enc := enc) (C := Try.checked) false ⟨#[], #[.agg #[.slice none 0 0], .agg #[.int .i64 0, .string ⟨#[]⟩, .slice none 0 0]], []⟩ 8 (by kernel_rfl) (by kernel_rfl) (by kernel_rfl) (by kernel_rfl)) ?_
  intro W base args ds gs before hval0 hW _ hsz0 _
  clear hsz0
  have hval : ∀ (j : Nat) t v, Try.f7.params[j]? = some t → args[j]? = some v → Value.okWide Try.prog W .any base t v := hval0
  have hW' := hW
  obtain ⟨p, q, hA0, hV, rfl, _, _⟩ := hW
  have hA : DataW.TrodAll enc Try.prog W 0 (fun _ => true) true Try.f7.params.toList args.toList ds p := hA0
  rw [Try.params7] at hA hval
  obtain ⟨v0, v1, d0, d1, p0, p1, rfl, rfl, rfl, h0, h1⟩ := trodAll_two hA
  obtain ⟨rfl, rfl⟩ := trodVars_none hV
  clear hA0 hval0
  simp only [List.append_nil] at hW'
  have hlt : ∀ x ∈ p0 ++ p1, x.block < W.heap.size := fun x hx => by simpa using hW'.lt x hx
  have hargs0 : ∀ (W' : World), Below W.heap.size W W' → DataW.Trod enc Try.prog W' 0 (fun b => decide (b < W.heap.size)) true 48 v0 d0 p0 :=
    fun W' hn => Below.trod laidOut (by kernel_rfl) (of_decide_eq_true (by kernel_rfl)) h0 hn (fun x hx => hlt x (by simp [hx]))
  have hargs1 : ∀ (W' : World), Below W.heap.size W W' → DataW.Trod enc Try.prog W' 0 (fun b => decide (b < W.heap.size)) true 42 v1 d1 p1 :=
    fun W' hn => Below.trod laidOut (by kernel_rfl) (of_decide_eq_true (by kernel_rfl)) h1 hn (fun x hx => hlt x (by simp [hx]))
  obtain ⟨l0, bs0, he0⟩ := read_prog (hval 0 48 v0 rfl rfl) h0
  obtain ⟨e1, bs1, he1⟩ := read_ex (hval 1 42 v1 rfl rfl) h1
  have h : Calls Try.prog 7 #[v0, v1] W (TrueX W) := lawfits l0 e1 v0 v1 bs0 bs1 W he0 he1 (fun x y b2 b3 W2 h2 h3 hf ht ht2 => hO l0 e1 x y b2 b3 W2 h2 h3 hf ht ht2)
  refine h.mono fun e W' ⟨he, hnx⟩ => ?_
  subst he
  refine ⟨_, rfl, _, _, _, [], p0 ++ p1, [], hW', ?_, ?_, rfl, hnx.frame _, fun h => by cases h⟩
  · exact trodAll_mk1 (shut_bool Try.underlying4 _)
  · exact trodAll_mk2 (hargs0 _ hnx) (hargs1 _ hnx)

/-- The law FnExactIsExprFor. -/
theorem exactIsExprFor_holds (hO : OwnIsExprFor) : Rows.FnExactIsExprForSaid :=
  OpenClaim.holds_of_wide 7 Try.f7 rfl rfl rfl rfl rfl rfl rfl ⟨rfl, rfl, rfl, rfl, rfl⟩ rfl rfl rfl rfl rfl (by kernel_rfl) Try.func7 (by kernel_rfl)
    (of_decide_eq_true (by kernel_rfl)) (by unfold Func.isWrapper; first | (rw [if_pos (by decide +kernel)]; kernel_rfl) | (rw [if_neg (by decide +kernel)]; exact ⟨rfl, rfl⟩))
    (fun os started H enc _ => liftedIsExprFor hO os started H enc)
end Go.Proofs.Ytmndlhbgacgnlaa
