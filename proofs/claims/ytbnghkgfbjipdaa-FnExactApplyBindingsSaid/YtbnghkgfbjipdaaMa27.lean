/- The walk of the law FnExactApplyBindings, from a contract of the program's own function. Conditions: that contract; the arguments lie in memory. The law FnExactApplyBindings holds, as given: at every expression and every list of bindings of at most 1048576 values and letters together the program's function answers as its model, leaves the arguments alone, and its answer owns its memory. No condition of ours. -/
import Derived.Test.YtbnghkgfbjipdaaMa12
import Derived.Test.YtbnghkgfbjipdaaMa26
import Derived.Test.YtbnghkgfbjipdaaMa01
import Derived.Test.YtbnghkgfbjipdaaMa03
import Derived.ProofKit
import Derived.SizedLaws
import Derived.OpenShut
namespace Go.Proofs.Ytbnghkgfbjipdaa
open Go Go.RowKit

/-- The laws' argument, the model's answer and its box. -/
structure ApA (w wA : World) (R : Ex) (wb : Nat) (u0 : Value) (b0 : List Nat) (W : World) : Prop where
  low : Below (w.heap.size + 1) wA W
  one : w.heap.size + 1 ≤ wb
  box : Bx9 W wb R.kind R.name u0
  ans : ExIs W (.agg #[.int .i64 R.kind, .string R.name, u0]) R b0
  lt : ∀ x ∈ b0, x < wb
theorem ApA.fr {w wA : World} {R : Ex} {wb : Nat} {u0 : Value} {b0 : List Nat} {W W2 : World} {T : List Nat} (h : ApA w wA R wb u0 b0 W) (hf : Fr T W W2) (hT : ∀ x ∈ T, wb < x) : ApA w wA R wb u0 b0 W2 := by
  have hl := h.box.cells.2.2.2
  exact ⟨h.low.trans (hf.below (fun x hx => by have := hT x hx; have := h.one; omega) (by have := h.one; omega)), h.one, h.box.keep hf (fun hx => by have := hT _ hx; omega), h.ans.keeps ⟨hf.size, fun x hx hlt => hf.block x hlt (fun hm => by have := h.lt x hx; have := hT x hm; omega)⟩, h.lt⟩
theorem ApA.below {w wA : World} {R : Ex} {wb : Nat} {u0 : Value} {b0 : List Nat} {W W2 : World} (h : ApA w wA R wb u0 b0 W) (hb : Below W.heap.size W W2) : ApA w wA R wb u0 b0 W2 := h.fr (Fr.of_below (S := []) hb) (by simp)
/-- An expression that owns its memory, and its box. -/
structure ApX (e : Ex) (lo xb : Nat) (u1 : Value) (b1 : List Nat) (W : World) : Prop where
  box : Bx9 W xb e.kind e.name u1
  is : ExIs W (.agg #[.int .i64 e.kind, .string e.name, u1]) e b1
  mine : Mine W 0 b1
  gt : ∀ x ∈ b1, lo ≤ x
  lt : ∀ x ∈ b1, x < xb
theorem ApX.fr {e : Ex} {lo xb : Nat} {u1 : Value} {b1 : List Nat} {W W2 : World} {T : List Nat} (h : ApX e lo xb u1 b1 W) (hf : Fr T W W2) (hT : ∀ x ∈ T, x ≠ xb ∧ x ∉ b1) : ApX e lo xb u1 b1 W2 :=
  ⟨h.box.keep hf (fun hx => (hT _ hx).1 rfl), h.is.keeps ⟨hf.size, fun x hx hlt => hf.block x hlt (fun hm => (hT x hm).2 hx)⟩, mine_far h.mine hf (fun x hx hm => (hT x hm).2 hx), h.gt, h.lt⟩
theorem ApX.below {e : Ex} {lo xb : Nat} {u1 : Value} {b1 : List Nat} {W W2 : World} (h : ApX e lo xb u1 b1 W) (hb : Below W.heap.size W W2) : ApX e lo xb u1 b1 W2 := h.fr (Fr.of_below (S := []) hb) (by simp)
/-- Bindings that own their memory. -/
structure ApL (l : List Bi) (lo hi : Nat) (v : Value) (bs : List Nat) (W : World) : Prop where
  is : BlIs W v l bs
  mine : Mine W 0 bs
  gt : ∀ x ∈ bs, lo < x
  lt : ∀ x ∈ bs, x < hi
theorem ApL.fr {l : List Bi} {lo hi : Nat} {v : Value} {bs : List Nat} {W W2 : World} {T : List Nat} (h : ApL l lo hi v bs W) (hf : Fr T W W2) (hT : ∀ x ∈ T, x ∉ bs) : ApL l lo hi v bs W2 :=
  ⟨h.is.keeps ⟨hf.size, fun x hx hlt => hf.block x hlt (fun hm => hT x hm hx)⟩, mine_far h.mine hf (fun x hx hm => hT x hm hx), h.gt, h.lt⟩
theorem ApL.below {l : List Bi} {lo hi : Nat} {v : Value} {bs : List Nat} {W W2 : World} (h : ApL l lo hi v bs W) (hb : Below W.heap.size W W2) : ApL l lo hi v bs W2 := h.fr (Fr.of_below (S := []) hb) (by simp)

set_option maxRecDepth 100000 in
set_option maxHeartbeats 8000000 in
theorem lawapply (e : Ex) (l : List Bi) (v vp : Value) (bs bsp : List Nat) (w : World) (hv : ExIs w v e bs) (hp : BlIs w vp l bsp)
    (hO : ∀ (v2 v3 : Value) (b2 b3 : List Nat) (W : World), ExIs W v2 e b2 → BlIs W v3 l b3 → Mine W 0 (b2 ++ b3) → exTot e + bisTot l ≤ 1048576 → Calls Try.prog 18 #[v2, v3] W (Fresh (subE (valOf l) e) W)) :
    Calls Try.prog 5 #[v, vp] w (TrueX w) := by
  have HZ := Lib.hid (fun (W : World) (hb : Below w.heap.size w W) => sz_expr e v bs W 1048576 (hv.below hb) (by omega) (by omega))
  have HZ' := Lib.hid (fun (L : Int) (h0 : 0 ≤ L) (h1 : L ≤ 1048576) (W : World) (hb : Below w.heap.size w W) => sz_binds l vp bsp W L (hp.below hb) h0 h1)
  have HC := Lib.hid (fun (ht : exTot e + bisTot l ≤ 1048576) (W : World) (hb : Below w.heap.size w W) => copy_expr e v bs W (hv.below hb) (tot_small (by omega)))
  have HCC := Lib.hid (fun (ht : exTot e + bisTot l ≤ 1048576) (W : World) (hb : Below w.heap.size w W) => copy_binds l vp bsp W (hp.below hb) (bis_small (by omega)).1 (bis_small (by omega)).2)
  have HO := Lib.hid hO
  have HP := Lib.hid (fun (ht : exTot e + bisTot l ≤ 1048576) (v2 v3 : Value) (b2 b3 : List Nat) (W : World) (h : ExIs W v2 e b2) (h' : BlIs W v3 l b3) => applym_any (exSize e) l (bis_small (l := l) (by omega)).2 (bis_small (by omega)).1 e v2 v3 b2 b3 W (Nat.le_refl _) h h' (tot_small (by omega)))
  have HSM := Lib.hid (fun (ht : exTot e + bisTot l ≤ 1048576) => sub_small ht)
  have HTE := Lib.hid (args_totB e)
  clear hO
  generalize subE (valOf l) e = R at *
  obtain ⟨u, rfl, -, hu⟩ := hv
  obtain ⟨A, c, rfl, -⟩ := id hu
  obtain ⟨Ap, cp, rfl⟩ := bl_slice hp
  clear hu hp
  go_enter Try.func5, Try.ntmps5
  have HBX := Lib.hid (box_cells w e.kind e.name (.slice A e.args.length c))
  have HB0 := Lib.hid ((Below.refl w.heap.size w).alloc (Nat.le_refl _) (.cells #[.int .i64 e.kind, .string e.name, .slice A e.args.length c] 47))
  have UP := Lib.hid (fun (W : World) (h : Below (w.heap.size + 1) (w.alloc (.cells #[.int .i64 e.kind, .string e.name, .slice A e.args.length c] 47)) W) => HB0.out.trans (h.mono (show w.heap.size ≤ w.heap.size + 1 by omega)))
  go_wp2_with fail
  go_at_call 37
  refine (HZ.out _ HB0.out).mono ?_
  rintro r w1 ⟨z, rfl, hb1, hz⟩
  have HW1 := Lib.hid (show Below (w.heap.size + 1) (w.alloc (.cells #[.int .i64 e.kind, .string e.name, .slice A e.args.length c] 47)) w1 by simpa using hb1)
  have hl1 : w.heap.size + 1 ≤ w1.heap.size := by have := HW1.out.size; simpa using this
  clear hb1 HZ
  rcases hz with ⟨rfl, -⟩ | ⟨hz0, hz⟩
  · go_wp2_with fail
    go_ret
    exact ⟨rfl, UP.out _ HW1.out⟩
  have hz1 : z ≤ 1048576 := by omega
  have HZE := Lib.hid hz
  clear hz
  go_wp2_with fail
  go_at_call 38
  refine (HZ'.out z hz0 hz1 _ (UP.out _ HW1.out)).mono ?_
  rintro r w2 ⟨z2, rfl, hb2, hz⟩
  have HW2 := Lib.hid (HW1.out.trans (hb2.mono hl1))
  have hl2 := Nat.le_trans hl1 hb2.size
  clear hb2 HZ' HW1
  rcases hz with ⟨rfl, -⟩ | ⟨hz20, hz⟩
  · go_wp2_with fail
    go_ret
    exact ⟨rfl, UP.out _ HW2.out⟩
  have HT := Lib.hid (show exTot e + bisTot l ≤ 1048576 by have := HZE.out; omega)
  clear hz HZE hz0 hz1 hl1
  have HSS := Lib.hid (show exSizes R.args ≤ 1099511627776 by have := HSM.out HT.out; cases R; rw [exSize] at this; exact Nat.le_of_succ_le this)
  have HC2 := Lib.hid (fun (W : World) (h : Below (w.heap.size + 1) (w.alloc (.cells #[.int .i64 e.kind, .string e.name, .slice A e.args.length c] 47)) W) => HC.out HT.out W (UP.out W h))
  have HCC2 := Lib.hid (fun (W : World) (h : Below (w.heap.size + 1) (w.alloc (.cells #[.int .i64 e.kind, .string e.name, .slice A e.args.length c] 47)) W) => HCC.out HT.out W (UP.out W h))
  have HP2 := Lib.hid (HP.out HT.out)
  have HO2 := Lib.hid (fun (v2 v3 : Value) (b2 b3 : List Nat) (W : World) (h2 : ExIs W v2 e b2) (h3 : BlIs W v3 l b3) (hm : Mine W 0 (b2 ++ b3)) => HO.out v2 v3 b2 b3 W h2 h3 hm HT.out)
  clear HC HCC HP HO HSM
  obtain ⟨x0, x1, x2⟩ := HBX.out w2 HW2.out
  go_wp2_with fail
  go_at_call 39
  refine (HC2.out _ HW2.out).mono ?_
  rintro r w3 ⟨v3, b3, rfl, hs3, -, hb3⟩
  obtain ⟨u3, rfl, -, hu3⟩ := id hs3
  obtain ⟨A3, c3, rfl, -⟩ := id hu3
  have HW3 := Lib.hid (HW2.out.trans (hb3.mono hl2))
  have hl3 := Nat.le_trans hl2 hb3.size
  have HS3 := Lib.hid hs3
  clear hs3 hu3 hb3 x0 x1 x2 HW2
  go_wp2_with fail
  go_at_call 40
  refine (HCC2.out _ HW3.out).mono ?_
  rintro r w4 ⟨v4, b4, rfl, hs4, -, hb4⟩
  obtain ⟨A4, c4, rfl⟩ := bl_slice hs4
  have HW4 := Lib.hid (HW3.out.trans (hb4.mono hl3))
  have hl4 := Nat.le_trans hl3 hb4.size
  have HS4 := Lib.hid (HS3.out.below hb4)
  have HL4 := Lib.hid hs4
  clear hs4 hb4 HS3 HW3
  go_wp2_with fail
  go_at_call 27
  refine (HP2.out _ _ b3 b4 w4 HS4.out HL4.out).mono ?_
  rintro r w5 ⟨v0, b0, rfl, hf0, -, hb5⟩
  obtain ⟨⟨u0, rfl, -, hu0⟩, -⟩ := id hf0
  obtain ⟨A0, c0, rfl, -⟩ := id hu0
  have hl5 := Nat.le_trans hl4 hb5.size
  have hAl := (Below.refl w5.heap.size w5).alloc (Nat.le_refl _) (.cells #[.int .i64 R.kind, .string R.name, .slice A0 R.args.length c0] 26)
  have HA5 := Lib.hid (show ApA w (w.alloc (.cells #[.int .i64 e.kind, .string e.name, .slice A e.args.length c] 47)) R w5.heap.size (.slice A0 R.args.length c0) b0 (w5.alloc (.cells #[.int .i64 R.kind, .string R.name, .slice A0 R.args.length c0] 26)) from
    ⟨(HW4.out.trans (hb5.mono hl4)).trans (hAl.mono hl5), hl5, heap_alloc_new _ _, hf0.1.below hAl, fun x hx => hf0.lt x hx⟩)
  obtain ⟨wb, hwb⟩ : ∃ z, z = w5.heap.size := ⟨_, rfl⟩
  rw [← hwb] at HA5
  have HWB := Lib.hid (show wb < (w5.alloc (.cells #[.int .i64 R.kind, .string R.name, .slice A0 R.args.length c0] 26)).heap.size by rw [hwb]; simp)
  clear hf0 hb5 hu0 hAl HS4 HL4 HW4 hl2 hl3 hl4 hl5
  obtain ⟨x0, x1, x2⟩ := HBX.out _ HA5.out.low
  go_wp2_with fail
  rw [← hwb]
  clear hwb
  generalize w5.alloc (.cells #[.int .i64 R.kind, .string R.name, .slice A0 R.args.length c0] 26) = W5 at *
  go_at_call 39
  refine (HC2.out _ HA5.out.low).mono ?_
  rintro r w6 ⟨v6, b6, rfl, hs6, hm6, hb6⟩
  obtain ⟨u6, rfl, -, hu6⟩ := id hs6
  obtain ⟨A6, c6, rfl, -⟩ := id hu6
  have hAl := (Below.refl w6.heap.size w6).alloc (Nat.le_refl _) (.cells #[.int .i64 e.kind, .string e.name, .slice A6 e.args.length c6] 26)
  have hb6a := hb6.trans (hAl.mono hb6.size)
  have HA6 := Lib.hid (HA5.out.below hb6a)
  have hz6 := hb6.size
  have HX6 := Lib.hid (show ApX e (wb + 1) w6.heap.size (.slice A6 e.args.length c6) b6 (w6.alloc (.cells #[.int .i64 e.kind, .string e.name, .slice A6 e.args.length c6] 26)) from
    ⟨heap_alloc_new _ _, hs6.below hAl, (hm6.mono (Nat.zero_le _)).keeps (keeps_below hAl b6), fun x hx => by have := (hm6.range x hx).1; have := HWB.out; omega, fun x hx => (hm6.range x hx).2⟩)
  obtain ⟨xb, hxb⟩ : ∃ z, z = w6.heap.size := ⟨_, rfl⟩
  rw [← hxb] at HX6
  have HXB := Lib.hid (show wb < xb ∧ xb < (w6.alloc (.cells #[.int .i64 e.kind, .string e.name, .slice A6 e.args.length c6] 26)).heap.size by rw [hxb]; simp; have := HWB.out; omega)
  clear hs6 hm6 hb6 hu6 hAl hb6a hz6 HA5 HWB x0 x1 x2
  go_wp2_with fail
  rw [← hxb]
  clear hxb
  generalize w6.alloc (.cells #[.int .i64 e.kind, .string e.name, .slice A6 e.args.length c6] 26) = W6 at *
  go_at_call 40
  refine (HCC2.out _ HA6.out.low).mono ?_
  rintro r w7 ⟨v7, b7, rfl, hs7, hm7, hb7⟩
  obtain ⟨A7, c7, rfl⟩ := bl_slice hs7
  obtain ⟨n7, hn7⟩ : ∃ z, z = w7.heap.size := ⟨_, rfl⟩
  have HL7 := Lib.hid (show ApL l xb n7 (.slice A7 l.length c7) b7 w7 from
    ⟨hs7, hm7.mono (Nat.zero_le _), fun x hx => by have := (hm7.range x hx).1; have := HXB.out; omega, fun x hx => by rw [hn7]; exact (hm7.range x hx).2⟩)
  have HJ7 := Lib.hid (HX6.out.mine.join (Nat.le_refl _) (keeps_below hb7 b6) hm7 (Nat.zero_le _))
  have HA7 := Lib.hid (HA6.out.below hb7)
  have HX7 := Lib.hid (HX6.out.below hb7)
  have HN7 := Lib.hid hn7
  have HXN := Lib.hid (show xb < n7 by have := hb7.size; have := HXB.out; omega)
  clear hs7 hm7 hb7 HA6 HX6 hn7
  obtain ⟨x0, x1, x2, xl⟩ := HX7.out.box.cells
  go_wp2_with fail
  go_at_call 18
  refine (HO2.out _ _ b6 b7 w7 HX7.out.is HL7.out.is HJ7.out).mono ?_
  rintro r w8 ⟨vg, bg, rfl, hsg, hmg, hb8⟩
  obtain ⟨ug, rfl, -, hug⟩ := id hsg
  obtain ⟨aG, cg, rfl, -⟩ := id hug
  have hAl := (Below.refl w8.heap.size w8).alloc (Nat.le_refl _) (.cells #[.int .i64 R.kind, .string R.name, .slice aG R.args.length cg] 26)
  have hb8a := hb8.trans (hAl.mono hb8.size)
  have HA8 := Lib.hid (HA7.out.below hb8a)
  have HX8 := Lib.hid (HX7.out.below hb8a)
  have HL8 := Lib.hid (HL7.out.below hb8a)
  have hz8 := hb8.size
  have HG8 := Lib.hid (show ApX R n7 w8.heap.size (.slice aG R.args.length cg) bg (w8.alloc (.cells #[.int .i64 R.kind, .string R.name, .slice aG R.args.length cg] 26)) from
    ⟨heap_alloc_new _ _, hsg.below hAl, (hmg.mono (Nat.zero_le _)).keeps (keeps_below hAl bg), fun x hx => by rw [HN7.out]; exact (hmg.range x hx).1, fun x hx => (hmg.range x hx).2⟩)
  obtain ⟨gb, hgb⟩ : ∃ z, z = w8.heap.size := ⟨_, rfl⟩
  rw [← hgb] at HG8
  have HGB := Lib.hid (show n7 ≤ gb ∧ gb < (w8.alloc (.cells #[.int .i64 R.kind, .string R.name, .slice aG R.args.length cg] 26)).heap.size by rw [hgb, HN7.out]; simp; exact hz8)
  clear hsg hmg hb8 hug hAl hb8a hz8 HA7 HX7 HL7 HJ7 HN7 x0 x1 x2 xl
  obtain ⟨x0, x1, x2, xl⟩ := HA8.out.box.cells
  go_wp2_with fail
  rw [← hgb]
  clear hgb
  generalize w8.alloc (.cells #[.int .i64 R.kind, .string R.name, .slice aG R.args.length cg] 26) = W8 at *
  go_at_call 41
  refine (eq_expr R _ _ bg b0 _ HG8.out.is HA8.out.ans).mono ?_
  rintro r w9 ⟨rfl, hb9⟩
  have HA9 := Lib.hid (HA8.out.below hb9)
  have HX9 := Lib.hid (HX8.out.below hb9)
  have HL9 := Lib.hid (HL8.out.below hb9)
  have HG9 := Lib.hid (HG8.out.below hb9)
  have hl9 : w.heap.size + 1 ≤ w9.heap.size := by have := HA9.out.one; have := HA9.out.box.cells.2.2.2; omega
  clear hb9 HA8 HX8 HL8 HG8 x0 x1 x2 xl
  have HSIX := Lib.hid (six_of (HBX.out w9 HA9.out.low) (And.intro HX9.out.box.cells.1 (And.intro HX9.out.box.cells.2.1 HX9.out.box.cells.2.2.1)))
  obtain ⟨x0, x1, x2, y0, y1, y2⟩ := HSIX.out
  have HDR := Lib.hid (Below.drew (Below.refl w9.heap.size w9))
  have HC9 := Lib.hid (fun (W : World) (h : Hid (Below w9.heap.size w9 W)) => HC2.out W (HA9.out.low.trans (h.out.mono hl9)))
  have HE9 := Lib.hid (fun (v10 : Value) (b10 : List Nat) (W : World) (h : Hid (Below w9.heap.size w9 W)) (h7 : ExIs W v10 e b10) => eq_expr e _ v10 b6 b10 W (HX9.out.is.below h.out) h7)
  go_wp2_with fail
  go_region_held3 (fun X => X.cell? ⟨w.heap.size, 0, none⟩ = some (.int .i64 e.kind) ∧ X.cell? ⟨w.heap.size, 1, none⟩ = some (.string e.name) ∧ X.cell? ⟨w.heap.size, 2, none⟩ = some (.slice A e.args.length c) ∧
      X.cell? ⟨xb, 0, none⟩ = some (.int .i64 e.kind) ∧ X.cell? ⟨xb, 1, none⟩ = some (.string e.name) ∧ X.cell? ⟨xb, 2, none⟩ = some (.slice A6 e.args.length c6) ∧ Hid (Below w9.heap.size w9 X))
    (first | exact keep6_start HSIX.out | exact keep6_step HSIX hb10 (by assumption) | exact keep6_step HSIX hb11 (by assumption))
    (first
      | (go_at_call 39; refine (HC9.out _ (by assumption)).mono ?_; rintro r w10 ⟨v10, b10, rfl, hs10, -, hb10⟩)
      | (go_at_call 41; have hh := ‹_ ∧ _ ∧ _ ∧ _ ∧ _ ∧ _ ∧ Hid (Below w9.heap.size w9 w10)›; refine (HE9.out _ b10 _ hh.2.2.2.2.2.2 hs10).mono ?_; clear hh; rintro r w11 ⟨rfl, hb11⟩))
  all_goals
    have hx := ‹_ ∧ _ ∧ _ ∧ _ ∧ _ ∧ _ ∧ Hid (Below w9.heap.size w9 w11)›
    have hh11 := hx.2.2.2.2.2.2.out
    have HA11 := Lib.hid (HA9.out.below hh11)
    have HX11 := Lib.hid (HX9.out.below hh11)
    have HL11 := Lib.hid (HL9.out.below hh11)
    have HG11 := Lib.hid (HG9.out.below hh11)
    clear hx hh11 x0 x1 x2 y0 y1 y2 hs10 hb10 hb11 HSIX HA9 HX9 HL9 HG9 HC9 HE9 HDR
    go_wp2_with fail
    go_at_call 40
    refine (HCC2.out _ HA11.out.low).mono ?_
    rintro r w12 ⟨v12, b12, rfl, hs12, -, hb12⟩
    obtain ⟨A12, c12, rfl⟩ := bl_slice hs12
    have HS12 := Lib.hid hs12
    have HA12 := Lib.hid (HA11.out.below hb12)
    have HX12 := Lib.hid (HX11.out.below hb12)
    have HL12 := Lib.hid (HL11.out.below hb12)
    have HG12 := Lib.hid (HG11.out.below hb12)
    clear hs12 hb12 HA11 HX11 HL11 HG11
    go_wp2_with fail
    go_at_call 42
    refine (eq_binds l _ _ b7 b12 w12 HL12.out.is HS12.out).mono ?_
    rintro r w13 ⟨rfl, hb13⟩
    have HA13 := Lib.hid (HA12.out.below hb13)
    have HX13 := Lib.hid (HX12.out.below hb13)
    have HL13 := Lib.hid (HL12.out.below hb13)
    have HG13 := Lib.hid (HG12.out.below hb13)
    clear hb13 HS12 HA12 HX12 HL12 HG12
    obtain ⟨y0, y1, y2, yl⟩ := HX13.out.box.cells
    go_wp2_with fail
    go_at_call 43
    refine (mark_expr e _ b6 w13 1 HX13.out.is HX13.out.mine (by omega) (by have := HTE.out; have := HT.out; omega)).mono ?_
    rintro r w14 ⟨rfl, -, ho14, -⟩
    obtain ⟨k1, hk1⟩ : ∃ z : Int, z = 1 + 2 * (exSizes e.args : Int) := ⟨_, rfl⟩
    rw [← hk1]
    have HK1 := Lib.hid (show 1 ≤ k1 ∧ k1 ≤ 4194304 by have := HTE.out; have := HT.out; omega)
    have HA14 := Lib.hid (HA13.out.fr ho14.fr9 (fun x hx => by have := HX13.out.gt x hx; omega))
    have HL14 := Lib.hid (HL13.out.fr ho14.fr9 (fun x hx hy => by have := HX13.out.lt x hx; have := HL13.out.gt x hy; omega))
    have HG14 := Lib.hid (HG13.out.fr ho14.fr9 (fun x hx => ⟨by have := HX13.out.lt x hx; have := HXN.out; have := HGB.out; omega, fun hy => by have := HX13.out.lt x hx; have := HG13.out.gt x hy; have := HXN.out; omega⟩))
    clear ho14 hk1 HA13 HX13 HL13 HG13 y0 y1 y2 yl
    go_wp2_with fail
    go_at_call 44
    refine (mark_bis l _ b7 w14 k1 HL14.out.is HL14.out.mine HK1.out.1 HK1.out.2 (by have := HT.out; omega)).mono ?_
    rintro r w15 ⟨rfl, -, ho15, -⟩
    obtain ⟨mb, hmb⟩ : ∃ z : Int, z = k1 + (bisW l : Int) := ⟨_, rfl⟩
    rw [← hmb]
    have hmb0 : 0 ≤ mb := by have := HK1.out.1; omega
    have hmbd : decide (mb < 0) = false := by simp; omega
    have HA15 := Lib.hid (HA14.out.fr ho15.fr9 (fun x hx => by have := HL14.out.gt x hx; have := HXB.out; omega))
    have HG15 := Lib.hid (HG14.out.fr ho15.fr9 (fun x hx => ⟨by have := HL14.out.lt x hx; have := HGB.out; omega, fun hy => by have := HL14.out.lt x hx; have := HG14.out.gt x hy; omega⟩))
    clear ho15 hmb HK1 HA14 HL14 HG14
    obtain ⟨y0, y1, y2, yl⟩ := HG15.out.box.cells
    obtain ⟨x0, x1, x2, xl⟩ := HA15.out.box.cells
    go_wp2_with fail
    go_at_call 41
    refine (eq_expr R _ _ bg b0 _ HG15.out.is HA15.out.ans).mono ?_
    rintro r w16 ⟨rfl, hb16⟩
    have HA16 := Lib.hid (HA15.out.below hb16)
    have HG16 := Lib.hid (HG15.out.below hb16)
    clear hb16 HA15 HG15 x0 x1 x2 xl y0 y1 y2 yl
    obtain ⟨y0, y1, y2, yl⟩ := HG16.out.box.cells
    go_wp2_with fail
    go_at_call 43
    refine (mark_expr R _ bg w16 1 HG16.out.is HG16.out.mine (by omega) (by have := HSS.out; omega)).mono ?_
    rintro r w17 ⟨rfl, hk17, ho17, -⟩
    obtain ⟨mk, hmk⟩ : ∃ mk, mk = 1 + 2 * (exSizes R.args : Int) := ⟨_, rfl⟩
    rw [← hmk]
    have hmk0 : 0 ≤ mk := by omega
    have hmkd : decide (mk < 0) = false := by simp; omega
    have HMK := Lib.hid hmk
    have HA17 := Lib.hid (HA16.out.fr ho17.fr9 (fun x hx => by have := HG16.out.gt x hx; have := HXN.out; have := HXB.out; omega))
    have HG17 := Lib.hid (HG16.out.box.keep ho17.fr9 (fun hx => by have := HG16.out.lt _ hx; omega))
    have HK17 := Lib.hid hk17
    clear hk17 ho17 hmk HA16 HG16 y0 y1 y2 yl
    obtain ⟨y0, y1, y2, yl⟩ := HG17.out.cells
    go_wp2_with fail
    go_at_call 45
    refine (held_expr R R.kind R.name _ bg w17 1 HK17.out (by omega) (by have := HSS.out; omega)).mono ?_
    rintro r w18 ⟨rfl, hb18⟩
    rw [← HMK.out]
    have HA18 := Lib.hid (HA17.out.below hb18)
    have HG18 := Lib.hid (HG17.out.keep (Fr.of_below (S := []) hb18) (by simp))
    have HK18 := Lib.hid (HK17.out.below hb18)
    clear hb18 HA17 HG17 HK17 y0 y1 y2 yl
    obtain ⟨x0, x1, x2⟩ := HBX.out _ HA18.out.low
    go_wp2_with fail
    go_at_call 39
    refine (HC2.out _ HA18.out.low).mono ?_
    rintro r w19 ⟨v19, b19, rfl, hs19, hm19, hb19⟩
    obtain ⟨u19, rfl, -, hu19⟩ := id hs19
    obtain ⟨A19, c19, rfl, -⟩ := id hu19
    have HS19 := Lib.hid hs19
    have HM19 := Lib.hid (hm19.mono (Nat.zero_le _))
    have HA19 := Lib.hid (HA18.out.below hb19)
    have HG19 := Lib.hid (HG18.out.keep (Fr.of_below (S := []) hb19) (by simp))
    have HK19 := Lib.hid (HK18.out.below hb19)
    clear hs19 hm19 hu19 hb19 HA18 HG18 HK18 x0 x1 x2
    go_wp2_with fail
    go_at_call 40
    refine (HCC2.out _ HA19.out.low).mono ?_
    rintro r w20 ⟨v20, b20, rfl, hs20, hm20, hb20⟩
    obtain ⟨A20, c20, rfl⟩ := bl_slice hs20
    have HS20 := Lib.hid (HS19.out.below hb20)
    have HL20 := Lib.hid hs20
    have HJ20 := Lib.hid (HM19.out.join (Nat.le_refl _) (keeps_below hb20 b19) hm20 (Nat.zero_le _))
    have HA20 := Lib.hid (HA19.out.below hb20)
    have HG20 := Lib.hid (HG19.out.keep (Fr.of_below (S := []) hb20) (by simp))
    have HK20 := Lib.hid (HK19.out.below hb20)
    clear hs20 hm20 hb20 HS19 HM19 HA19 HG19 HK19
    go_wp2_with fail
    go_at_call 18
    refine (HO2.out _ _ b19 b20 w20 HS20.out HL20.out HJ20.out).mono ?_
    rintro r w21 ⟨vh, bh, rfl, hsh, -, hb21⟩
    obtain ⟨uh, rfl, -, huh⟩ := id hsh
    obtain ⟨aH, ch, rfl, -⟩ := id huh
    have hAl := (Below.refl w21.heap.size w21).alloc (Nat.le_refl _) (.cells #[.int .i64 R.kind, .string R.name, .slice aH R.args.length ch] 26)
    have hb21a := hb21.trans (hAl.mono hb21.size)
    have HA21 := Lib.hid (HA20.out.below hb21a)
    have HG21 := Lib.hid (HG20.out.keep (Fr.of_below (S := []) hb21a) (by simp))
    have HK21 := Lib.hid (HK20.out.below hb21a)
    have HEQ := Lib.hid (eq_expr R _ _ bh b0 _ (hsh.below hAl) HA21.out.ans)
    clear hsh hb21 huh hAl hb21a HA20 HG20 HK20 HS20 HL20 HJ20
    obtain ⟨x0, x1, x2, xl⟩ := HA21.out.box.cells
    go_wp2_with fail
    go_at_call 41
    refine HEQ.out.mono ?_
    rintro r w22 ⟨rfl, hb22⟩
    have HA22 := Lib.hid (HA21.out.below hb22)
    have HG22 := Lib.hid (HG21.out.keep (Fr.of_below (S := []) hb22) (by simp))
    have HK22 := Lib.hid (HK21.out.below hb22)
    clear hb22 HEQ HA21 HG21 HK21 x0 x1 x2 xl
    obtain ⟨y0, y1, y2, yl⟩ := HG22.out.cells
    go_wp2_with fail
    go_at_call 45
    refine (held_expr R R.kind R.name _ bg w22 1 HK22.out (by omega) (by have := HSS.out; omega)).mono ?_
    rintro r w23 ⟨rfl, hb23⟩
    rw [← HMK.out]
    have HA23 := Lib.hid (HA22.out.below hb23)
    clear hb23
    go_wp2_with fail
    go_ret
    exact ⟨rfl, UP.out _ HA23.out.low⟩
end Go.Proofs.Ytbnghkgfbjipdaa

namespace Go.Proofs.Ytbnghkgfbjipdaa
open Go Go.ChangeShapes Go.WideShapes Go.ChangeAt Go.RowKit

set_option maxRecDepth 100000 in
theorem liftedApplyBindings (os : Os) (started : os.Started) (H : Type) (enc : TypeId × Value → H) :
    ReturnsInHanded {} Try.checked os 5 .any (Rows.fnExactApplyBindingsSpec.pre6 enc Try.prog Try.f5 Rows.fnExactApplyBindingsRow.domain false) (Rows.fnExactApplyBindingsSpec.post enc Try.prog Try.f5 false true false false) := by
  refine returnsInHanded_of_change_sized (C := Try.checked) own started (by kernel_rfl) Try.func5
    (ChangeSpec.witness6 (enc := enc) (C := Try.checked) false ⟨#[], #[.agg #[.int .i64 0, .string ⟨#[]⟩, .slice none 0 0], .slice none 0 0], []⟩ 8 (by kernel_rfl) (by kernel_rfl) (by kernel_rfl) (by kernel_rfl)) ?_
  intro W base args ds gs before hval0 hW _ hsz0 _
  clear hsz0
  have hval : ∀ (j : Nat) t v, Try.f5.params[j]? = some t → args[j]? = some v → Value.okWide Try.prog W .any base t v := hval0
  have hW' := hW
  obtain ⟨p, q, hA0, hV, rfl, _, _⟩ := hW
  have hA : DataW.TrodAll enc Try.prog W 0 (fun _ => true) true Try.f5.params.toList args.toList ds p := hA0
  rw [Try.params5] at hA hval
  obtain ⟨v0, v1, d0, d1, p0, p1, rfl, rfl, rfl, h0, h1⟩ := trodAll_two hA
  obtain ⟨rfl, rfl⟩ := trodVars_none hV
  clear hA0 hval0
  simp only [List.append_nil] at hW'
  have hlt : ∀ x ∈ p0 ++ p1, x.block < W.heap.size := fun x hx => by simpa using hW'.lt x hx
  have hargs0 : ∀ (W' : World), Below W.heap.size W W' → DataW.Trod enc Try.prog W' 0 (fun b => decide (b < W.heap.size)) true 47 v0 d0 p0 :=
    fun W' hn => Below.trod laidOut (by kernel_rfl) (of_decide_eq_true (by kernel_rfl)) h0 hn (fun x hx => hlt x (by simp [hx]))
  have hargs1 : ∀ (W' : World), Below W.heap.size W W' → DataW.Trod enc Try.prog W' 0 (fun b => decide (b < W.heap.size)) true 48 v1 d1 p1 :=
    fun W' hn => Below.trod laidOut (by kernel_rfl) (of_decide_eq_true (by kernel_rfl)) h1 hn (fun x hx => hlt x (by simp [hx]))
  obtain ⟨e0, bs0, he0⟩ := read_ex (hval 0 47 v0 rfl rfl) h0
  obtain ⟨l1, bs1, he1⟩ := read_binds (hval 1 48 v1 rfl rfl) h1
  have h : Calls Try.prog 5 #[v0, v1] W (TrueX W) := lawapply e0 l1 v0 v1 bs0 bs1 W he0 he1 (fun v2 v3 b2 b3 W2 h2 h3 hm ht => apply_mine e0 l1 v2 v3 b2 b3 W2 h2 h3 hm ht)
  refine h.mono fun e W' ⟨he, hnx⟩ => ?_
  subst he
  refine ⟨_, rfl, _, _, _, [], p0 ++ p1, [], hW', ?_, ?_, rfl, hnx.frame _, fun h => by cases h⟩
  · exact trodAll_mk1 (shut_bool Try.underlying4 _)
  · exact trodAll_mk2 (hargs0 _ hnx) (hargs1 _ hnx)

/-- The law FnExactApplyBindings. -/
theorem applybindings_holds : Rows.FnExactApplyBindingsSaid :=
  OpenClaim.holds_of_wide 5 Try.f5 rfl rfl rfl rfl rfl rfl rfl ⟨rfl, rfl, rfl, rfl, rfl⟩ rfl rfl rfl rfl rfl (by kernel_rfl) Try.func5 (by kernel_rfl)
    (of_decide_eq_true (by kernel_rfl)) (by unfold Func.isWrapper; first | (rw [if_pos (by decide +kernel)]; kernel_rfl) | (rw [if_neg (by decide +kernel)]; exact ⟨rfl, rfl⟩))
    (fun os started H enc _ => liftedApplyBindings os started H enc)
end Go.Proofs.Ytbnghkgfbjipdaa
