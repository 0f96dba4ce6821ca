/- FnExactEqualExpr, from a contract of the program's own EqualExpr. Conditions: that contract; both arguments lie in memory as expressions. -/
import Derived.Test.YtmndlhbgacgnlaaLawSizes
import Derived.Test.YtmndlhbgacgnlaaSpecEqual
namespace Go.Proofs.Ytmndlhbgacgnlaa
open Go Go.RowKit

theorem box2_cells (w : World) (K K' : Int) (S S' : ByteArray) (u u' : Value) (W : World) (hb : Below (w.heap.size + 2) ((w.alloc (.cells #[.int .i64 K, .string S, u] 42)).alloc (.cells #[.int .i64 K', .string S', u'] 42)) W) :
    W.cell? ⟨w.heap.size, 0, none⟩ = some (.int .i64 K) ∧ W.cell? ⟨w.heap.size, 1, none⟩ = some (.string S) ∧ W.cell? ⟨w.heap.size, 2, none⟩ = some u ∧
    W.cell? ⟨w.heap.size + 1, 0, none⟩ = some (.int .i64 K') ∧ W.cell? ⟨w.heap.size + 1, 1, none⟩ = some (.string S') ∧ W.cell? ⟨w.heap.size + 1, 2, none⟩ = some u' := by
  have h : ∀ m, W.cell? ⟨w.heap.size, m, none⟩ = _ := fun m => hb.cell (p := ⟨w.heap.size, m, none⟩) (show w.heap.size < w.heap.size + 2 by omega)
  have h' : ∀ m, W.cell? ⟨w.heap.size + 1, m, none⟩ = _ := fun m => hb.cell (p := ⟨w.heap.size + 1, m, none⟩) (show w.heap.size + 1 < w.heap.size + 2 by omega)
  refine ⟨(h 0).trans ?_, (h 1).trans ?_, (h 2).trans ?_, (h' 0).trans ?_, (h' 1).trans ?_, (h' 2).trans ?_⟩ <;> simp [go_sem]

theorem three_keep {w w' : World} {a b c : Addr} {x y z : Value} (h : w.cell? a = some x ∧ w.cell? b = some y ∧ w.cell? c = some z) (hb : Below w.heap.size w w') : w'.cell? a = some x ∧ w'.cell? b = some y ∧ w'.cell? c = some z := by
  have k : ∀ {p : Addr} {x : Value}, w.cell? p = some x → w'.cell? p = some x := fun {p x} hp => (hb.cell (p := p) (World.block_lt_of_cell? w _ hp)).trans hp
  exact ⟨k h.1, k h.2.1, k h.2.2⟩

theorem free_both {W : World} {b2 b3 : List Nat} (h2 : ∀ x ∈ b2, ∀ o, W.frozen? ⟨x, o, none⟩ = false) (h3 : ∀ x ∈ b3, ∀ o, W.frozen? ⟨x, o, none⟩ = false) : ∀ x ∈ b2 ++ b3, ∀ o, W.frozen? ⟨x, o, none⟩ = false := fun x hx => (List.mem_append.1 hx).elim (h2 x) (h3 x)
set_option maxHeartbeats 8000000 in
theorem lawequal (ea eb : Ex) (v v' : Value) (bs bs' : List Nat) (w : World) (hv : ExIs w v ea bs) (hv' : ExIs w v' eb bs')
    (hO : ∀ (v2 v3 : Value) (b2 b3 : List Nat) (W : World), ExIs W v2 ea b2 → ExIs W v3 eb b3 → (∀ x ∈ b2 ++ b3, ∀ o, W.frozen? ⟨x, o, none⟩ = false) → exTot ea ≤ 1048576 → exTot eb ≤ 1048576 → Calls Try.prog 26 #[v2, v3] W (RetPost (.bool (exEq ea eb)) W)) :
    Calls Try.prog 5 #[v, v'] w (TrueX w) := by
  have HZ := Lib.hid (fun (W : World) (hb : Below w.heap.size w W) => sz_expr ea v bs W 1048576 (hv.below hb) (by omega) (by omega))
  have HZ' := Lib.hid (fun (L : Int) (h0 : 0 ≤ L) (h1 : L ≤ 1048576) (W : World) (hb : Below w.heap.size w W) => sz_expr eb v' bs' W L (hv'.below hb) h0 h1)
  have HC := Lib.hid (fun (ht : exTot ea ≤ 1048576) (W : World) (hb : Below w.heap.size w W) => copy_expr ea v bs W (hv.below hb) (tot_small ht))
  have HC' := Lib.hid (fun (ht : exTot eb ≤ 1048576) (W : World) (hb : Below w.heap.size w W) => copy_expr eb v' bs' W (hv'.below hb) (tot_small ht))
  have HO := Lib.hid hO
  have HP := Lib.hid (fun (v2 v3 : Value) (b2 b3 : List Nat) (W : World) (h : ExIs W v2 ea b2) (h' : ExIs W v3 eb b3) => equal_any (exSize ea) ea eb v2 v3 b2 b3 W (Nat.le_refl _) h h')
  clear hO
  obtain ⟨u, rfl, -, hu⟩ := hv
  obtain ⟨A, c, rfl, -⟩ := id hu
  obtain ⟨u', rfl, -, hu'⟩ := hv'
  obtain ⟨A', c', rfl, -⟩ := id hu'
  clear hu hu'
  generalize exEq ea eb = R at *
  go_enter Try.func5, Try.ntmps5
  have HBX := Lib.hid (box2_cells w ea.kind eb.kind ea.name eb.name (.slice A ea.args.length c) (.slice A' eb.args.length c'))
  have HB0 := Lib.hid (((Below.refl w.heap.size w).alloc (Nat.le_refl _) (.cells #[.int .i64 ea.kind, .string ea.name, .slice A ea.args.length c] 42)).alloc (by simp) (.cells #[.int .i64 eb.kind, .string eb.name, .slice A' eb.args.length c'] 42))
  go_wp2_with fail
  go_at_call 34
  refine (HZ.out _ HB0.out).mono ?_
  rintro r w1 ⟨z, rfl, hb1, hz⟩
  have HW1 := Lib.hid (show Below (w.heap.size + 2) ((w.alloc (.cells #[.int .i64 ea.kind, .string ea.name, .slice A ea.args.length c] 42)).alloc (.cells #[.int .i64 eb.kind, .string eb.name, .slice A' eb.args.length c'] 42)) w1 by simpa using hb1)
  have hl1 : w.heap.size + 2 ≤ w1.heap.size := by have := HW1.out.size; simpa using this
  clear hb1 HZ
  have up := fun (W : World) (h : Below (w.heap.size + 2) ((w.alloc (.cells #[.int .i64 ea.kind, .string ea.name, .slice A ea.args.length c] 42)).alloc (.cells #[.int .i64 eb.kind, .string eb.name, .slice A' eb.args.length c'] 42)) W) => HB0.out.trans (h.mono (show w.heap.size ≤ w.heap.size + 2 by omega))
  have UP := Lib.hid up
  clear up
  rcases hz with ⟨rfl, -⟩ | ⟨hz0, hz⟩
  · go_wp2_with fail
    go_ret
    exact ⟨rfl, UP.out _ HW1.out⟩
  have hta : exTot ea ≤ 1048576 := by omega
  have hz1 : z ≤ 1048576 := by omega
  have HTA := Lib.hid hta
  clear hz hta
  obtain ⟨x0, x1, x2, x3, x4, x5⟩ := HBX.out w1 HW1.out
  go_wp2_with fail
  go_at_call 34
  refine (HZ'.out z hz0 hz1 _ (UP.out _ HW1.out)).mono ?_
  rintro r w2 ⟨z2, rfl, hb2, hz⟩
  have HW2 := Lib.hid (HW1.out.trans (hb2.mono hl1))
  have hl2 := Nat.le_trans hl1 hb2.size
  clear hb2 HZ' x0 x1 x2 x3 x4 x5 HW1
  rcases hz with ⟨rfl, -⟩ | ⟨hz20, hz⟩
  · go_wp2_with fail
    go_ret
    exact ⟨rfl, UP.out _ HW2.out⟩
  have HTB := Lib.hid (show exTot eb ≤ 1048576 by omega)
  clear hz
  have HCA := Lib.hid (fun (W : World) (hb : Below (w.heap.size + 2) ((w.alloc (.cells #[.int .i64 ea.kind, .string ea.name, .slice A ea.args.length c] 42)).alloc (.cells #[.int .i64 eb.kind, .string eb.name, .slice A' eb.args.length c'] 42)) W) => HC.out HTA.out W (UP.out _ hb))
  have HCB := Lib.hid (fun (W : World) (hb : Below (w.heap.size + 2) ((w.alloc (.cells #[.int .i64 ea.kind, .string ea.name, .slice A ea.args.length c] 42)).alloc (.cells #[.int .i64 eb.kind, .string eb.name, .slice A' eb.args.length c'] 42)) W) => HC'.out HTB.out W (UP.out _ hb))
  clear HC HC'
  have H6 := Lib.hid (HBX.out w2 HW2.out)
  obtain ⟨x0, x1, x2, x3, x4, x5⟩ := HBX.out w2 HW2.out
  have HDR := Lib.hid (Below.drew (Below.refl w2.heap.size w2))
  have HA2 := Lib.hid (fun (W : World) (h : Hid (Below w2.heap.size w2 W)) => HCA.out W (HW2.out.trans (h.out.mono hl2)))
  have HB2 := Lib.hid (fun (W : World) (h : Hid (Below w2.heap.size w2 W)) => HCB.out W (HW2.out.trans (h.out.mono hl2)))
  go_wp2_with fail
  go_region_held3 (fun X => X.cell? ⟨w.heap.size, 0, none⟩ = some (.int .i64 ea.kind) ∧ X.cell? ⟨w.heap.size, 1, none⟩ = some (.string ea.name) ∧ X.cell? ⟨w.heap.size, 2, none⟩ = some (.slice A ea.args.length c) ∧ X.cell? ⟨w.heap.size + 1, 0, none⟩ = some (.int .i64 eb.kind) ∧ X.cell? ⟨w.heap.size + 1, 1, none⟩ = some (.string eb.name) ∧ X.cell? ⟨w.heap.size + 1, 2, none⟩ = some (.slice A' eb.args.length c') ∧ Hid (Below w2.heap.size w2 X))
    (first | exact keep6_start H6.out | exact keep6_step H6 hb6 (by assumption) | exact keep6_step H6 hb7 (by assumption) | exact keep6_step H6 hb8 (by assumption))
    (first
      | (go_at_call 35; (with_reducible refine (HA2.out w2.drew HDR).mono ?_); rintro r w6 ⟨v6, b6, rfl, hs6, -, hb6⟩)
      | (go_at_call 35; (with_reducible refine (HB2.out w2.drew HDR).mono ?_); rintro r w7 ⟨v7, b7, rfl, hs7, -, hb7⟩)
      | (go_at_call 35; have hh := ‹_ ∧ _ ∧ _ ∧ _ ∧ _ ∧ _ ∧ Hid (Below w2.heap.size w2 w7)›; (with_reducible refine (HA2.out w7 hh.2.2.2.2.2.2).mono ?_); clear hh; rintro r w6 ⟨v6, b6, rfl, hs6, -, hb6⟩)
      | (go_at_call 35; have hh := ‹_ ∧ _ ∧ _ ∧ _ ∧ _ ∧ _ ∧ Hid (Below w2.heap.size w2 w6)›; (with_reducible refine (HB2.out w6 hh.2.2.2.2.2.2).mono ?_); clear hh; rintro r w7 ⟨v7, b7, rfl, hs7, -, hb7⟩)
      | (go_at_call 27; (with_reducible refine (HP.out _ _ b6 b7 w7 (hs6.below hb7) hs7).mono ?_); rintro r w8 ⟨rfl, hb8⟩)
      | (go_at_call 27; (with_reducible refine (HP.out _ _ b6 b7 w6 hs6 (hs7.below hb6)).mono ?_); rintro r w8 ⟨rfl, hb8⟩))
  all_goals
    have hx := ‹_ ∧ _ ∧ _ ∧ _ ∧ _ ∧ _ ∧ Hid (Below w2.heap.size w2 w8)›
    have HW8 := Lib.hid (HW2.out.trans (hx.2.2.2.2.2.2.out.mono hl2))
    have hl8 := Nat.le_trans hl2 hx.2.2.2.2.2.2.out.size
    clear hx x0 x1 x2 x3 x4 x5 hs6 hs7 hb6 hb7 hb8 H6
    obtain ⟨x0, x1, x2, x3, x4, x5⟩ := HBX.out w8 HW8.out
    go_wp2_with fail
    go_at_call 35
    refine (HCA.out w8 HW8.out).mono ?_
    rintro r w9 ⟨v9, b9, rfl, hs9, hm9, hb9⟩
    obtain ⟨u9, rfl, -, hu9⟩ := id hs9
    obtain ⟨A9, c9, rfl, -⟩ := id hu9
    have HK9 := Lib.hid (hs9.below ((Below.refl w9.heap.size w9).alloc (Nat.le_refl _) (.cells #[.int .i64 ea.kind, .string ea.name, .slice A9 ea.args.length c9] 26)))
    have HM9 := Lib.hid (hm9.keeps (keeps_below ((Below.refl w9.heap.size w9).alloc (Nat.le_refl _) (.cells #[.int .i64 ea.kind, .string ea.name, .slice A9 ea.args.length c9] 26)) _))
    have HW9 := Lib.hid ((HW8.out.trans (hb9.mono hl8)).alloc (Nat.le_trans hl8 hb9.size) (.cells #[.int .i64 ea.kind, .string ea.name, .slice A9 ea.args.length c9] 26))
    have hl9 : w.heap.size + 2 ≤ w9.heap.size := Nat.le_trans hl8 hb9.size
    clear hs9 hu9 hb9 hm9 x0 x1 x2 x3 x4 x5
    have HB9 := Lib.hid (box_cells2 w9 ea.kind ea.name (.slice A9 ea.args.length c9))
    obtain ⟨x0, x1, x2, x3, x4, x5⟩ := HBX.out _ HW9.out
    go_wp2_with fail
    go_at_call 35
    refine (HCB.out _ HW9.out).mono ?_
    rintro r w10 ⟨v10, b10, rfl, hs10, hm10, hb10⟩
    obtain ⟨u10, rfl, -, hu10⟩ := id hs10
    obtain ⟨A10, c10, rfl, -⟩ := id hu10
    have hl10 : w9.heap.size + 1 ≤ w10.heap.size := by have := hb10.size; simpa using this
    have HY10 := Lib.hid (hb10.trans ((Below.refl w10.heap.size w10 |>.alloc (Nat.le_refl _) (.cells #[.int .i64 eb.kind, .string eb.name, .slice A10 eb.args.length c10] 26)).mono (by have := hb10.size; exact this)))
    have HK10 := Lib.hid (hs10.below ((Below.refl w10.heap.size w10).alloc (Nat.le_refl _) (.cells #[.int .i64 eb.kind, .string eb.name, .slice A10 eb.args.length c10] 26)))
    have HJ10 := Lib.hid (HK9.out.below HY10.out)
    have HM10 := Lib.hid (free_both ((HM9.out.keeps (keeps_below HY10.out _)).free) ((hm10.keeps (keeps_below ((Below.refl w10.heap.size w10).alloc (Nat.le_refl _) (.cells #[.int .i64 eb.kind, .string eb.name, .slice A10 eb.args.length c10] 26)) _)).free))
    have HW10 := Lib.hid (HW9.out.trans (HY10.out.mono (by simp; omega)))
    clear hs10 hu10 hb10 hm10 HM9 x0 x1 x2 x3 x4 x5 HK9 HW9
    obtain ⟨y0, y1, y2⟩ := HB9.out _ HY10.out
    go_wp2_with fail
    go_at_call 26
    refine (HO.out _ _ b9 b10 _ HJ10.out HK10.out HM10.out HTA.out HTB.out).mono ?_
    rintro r w11 ⟨rfl, hb11⟩
    have HX11 := Lib.hid (HB9.out w11 (HY10.out.trans (hb11.mono (by simp; omega))))
    have HV11 := Lib.hid (box_cells2 w10 eb.kind eb.name (.slice A10 eb.args.length c10) w11 hb11)
    have HJ11 := Lib.hid (HJ10.out.below hb11)
    have HK11 := Lib.hid (HK10.out.below hb11)
    have HW11 := Lib.hid (HW10.out.trans (hb11.mono (by simp; omega)))
    have hl11 : w.heap.size + 2 ≤ w11.heap.size := by have := hb11.size; simp at this; omega
    clear hb11 y0 y1 y2 HY10 HJ10 HK10 HW10
    have HSIX := Lib.hid (six_of (And.intro (HBX.out w11 HW11.out).1 (And.intro (HBX.out w11 HW11.out).2.1 (HBX.out w11 HW11.out).2.2.1)) HX11.out)
    obtain ⟨x0, x1, x2, y0, y1, y2⟩ := HSIX.out
    have HDR2 := Lib.hid (Below.drew (Below.refl w11.heap.size w11))
    have HA11 := Lib.hid (fun (W : World) (h : Hid (Below w11.heap.size w11 W)) => HCA.out W (HW11.out.trans (h.out.mono hl11)))
    have HE11 := Lib.hid (fun (v6 : Value) (b6 : List Nat) (W : World) (h : Hid (Below w11.heap.size w11 W)) (h6 : ExIs W v6 ea b6) => eq_expr ea _ v6 b9 b6 W (HJ11.out.below h.out) h6)
    go_wp2_with fail
    go_region_held3 (fun X => X.cell? ⟨w.heap.size, 0, none⟩ = some (.int .i64 ea.kind) ∧ X.cell? ⟨w.heap.size, 1, none⟩ = some (.string ea.name) ∧ X.cell? ⟨w.heap.size, 2, none⟩ = some (.slice A ea.args.length c) ∧ X.cell? ⟨w9.heap.size, 0, none⟩ = some (.int .i64 ea.kind) ∧ X.cell? ⟨w9.heap.size, 1, none⟩ = some (.string ea.name) ∧ X.cell? ⟨w9.heap.size, 2, none⟩ = some (.slice A9 ea.args.length c9) ∧ Hid (Below w11.heap.size w11 X))
      (first | exact keep6_start HSIX.out | exact keep6_step HSIX hb12 (by assumption) | exact keep6_step HSIX hb13 (by assumption))
      (first
        | (go_at_call 35; refine (HA11.out _ (by assumption)).mono ?_; rintro r w12 ⟨v12, b12, rfl, hs12, -, hb12⟩)
        | (go_at_call 36; have hh := ‹_ ∧ _ ∧ _ ∧ _ ∧ _ ∧ _ ∧ Hid (Below w11.heap.size w11 w12)›; refine (HE11.out _ b12 _ hh.2.2.2.2.2.2 hs12).mono ?_; clear hh; rintro r w13 ⟨rfl, hb13⟩))
    all_goals
      have hx := ‹_ ∧ _ ∧ _ ∧ _ ∧ _ ∧ _ ∧ Hid (Below w11.heap.size w11 w13)›
      have HT13 := Lib.hid hx.2.2.2.2.2.2.out
      have HW13 := Lib.hid (HW11.out.trans (HT13.out.mono hl11))
      have hl13 := Nat.le_trans hl11 HT13.out.size
      have HK13 := Lib.hid (HK11.out.below HT13.out)
      have HV13 := Lib.hid (three_keep HV11.out HT13.out)
      clear hx x0 x1 x2 y0 y1 y2 hs12 hb12 hb13
      have HSIX3 := Lib.hid (six_of (HBX.out w13 HW13.out).2.2.2 HV13.out)
      obtain ⟨x0, x1, x2, y0, y1, y2⟩ := HSIX3.out
      have HDR3 := Lib.hid (Below.drew (Below.refl w13.heap.size w13))
      have HA13 := Lib.hid (fun (W : World) (h : Hid (Below w13.heap.size w13 W)) => HCB.out W (HW13.out.trans (h.out.mono hl13)))
      have HE13 := Lib.hid (fun (v6 : Value) (b6 : List Nat) (W : World) (h : Hid (Below w13.heap.size w13 W)) (h6 : ExIs W v6 eb b6) => eq_expr eb _ v6 b10 b6 W (HK13.out.below h.out) h6)
      go_wp2_with fail
      go_region_held3 (fun X => X.cell? ⟨w.heap.size + 1, 0, none⟩ = some (.int .i64 eb.kind) ∧ X.cell? ⟨w.heap.size + 1, 1, none⟩ = some (.string eb.name) ∧ X.cell? ⟨w.heap.size + 1, 2, none⟩ = some (.slice A' eb.args.length c') ∧ X.cell? ⟨w10.heap.size, 0, none⟩ = some (.int .i64 eb.kind) ∧ X.cell? ⟨w10.heap.size, 1, none⟩ = some (.string eb.name) ∧ X.cell? ⟨w10.heap.size, 2, none⟩ = some (.slice A10 eb.args.length c10) ∧ Hid (Below w13.heap.size w13 X))
        (first | exact keep6_start HSIX3.out | exact keep6_step HSIX3 hb14 (by assumption) | exact keep6_step HSIX3 hb15 (by assumption))
        (first
          | (go_at_call 35; refine (HA13.out _ (by assumption)).mono ?_; rintro r w14 ⟨v14, b14, rfl, hs14, -, hb14⟩)
          | (go_at_call 36; have hh := ‹_ ∧ _ ∧ _ ∧ _ ∧ _ ∧ _ ∧ Hid (Below w13.heap.size w13 w14)›; refine (HE13.out _ b14 _ hh.2.2.2.2.2.2 hs14).mono ?_; clear hh; rintro r w15 ⟨rfl, hb15⟩))
      all_goals
        have hx := ‹_ ∧ _ ∧ _ ∧ _ ∧ _ ∧ _ ∧ Hid (Below w13.heap.size w13 w15)›
        have HW15 := Lib.hid (HW13.out.trans (hx.2.2.2.2.2.2.out.mono hl13))
        clear hx
        go_wp2_with fail
        go_ret
        exact ⟨rfl, UP.out _ HW15.out⟩
end Go.Proofs.Ytmndlhbgacgnlaa
