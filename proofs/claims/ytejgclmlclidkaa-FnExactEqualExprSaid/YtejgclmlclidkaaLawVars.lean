/- FnExactVarsOf, from a contract of the program's own VarsOf. Conditions: that contract; the argument lies in memory as an expression. -/
import Derived.Test.YtejgclmlclidkaaLawSizes
import Derived.Test.YtejgclmlclidkaaSpecVars
import Derived.Test.YtejgclmlclidkaaExMark
import Derived.Test.YtejgclmlclidkaaMarkKit
namespace Go.Proofs.Ytejgclmlclidkaa
open Go Go.RowKit

theorem own_only {w w' : World} {B n : Nat} {v : Value} {l : List Value} {bs : List Nat} (h : w.ownsRow B 9 1 v n l) (ho : OnlyIn w w' bs) (hn : ∀ k, v.ownBlock = some k → k ∉ bs) : w'.ownsRow B 9 1 v n l := by
  refine ⟨h.1, ?_⟩
  rcases h.2 with h2 | ⟨g, cap, cur, rfl, hb, hg, r⟩
  · exact Or.inl h2
  · exact Or.inr ⟨g, cap, cur, rfl, hb, (ho.block g (Array.getElem?_eq_some_iff.1 hg).1 (hn g rfl)).trans hg, r⟩
theorem only_low {a b c : World} {B : Nat} {bs : List Nat} (h : Below B a b) (ho : OnlyIn b c bs) (hn : ∀ x ∈ bs, B ≤ x) (hB : B ≤ b.heap.size) : Below B a c :=
  h.trans ⟨ho.os, ho.tape, ho.output, ho.size, fun k hk => ho.block k (by omega) (fun hm => by have := hn k hm; omega)⟩
theorem drew_below (w : World) (q : Nat) : Below w.heap.size w (w.drewN q) := ⟨rfl, rfl, rfl, Nat.le_refl _, fun _ _ => rfl⟩
theorem low_grown {a b c : World} {B : Nat} {row : Option Nat} (h : Below B a b) (hg : b.grownBy c row) (hn : ∀ k, row = some k → B ≤ k) (hB : B ≤ b.heap.size) : Below B a c :=
  h.trans ⟨hg.os, hg.tape, hg.output, hg.size, fun k hk => hg.block k (by omega) (fun e => by have := hn k e.symm; omega)⟩

set_option maxHeartbeats 8000000 in
theorem lawvars (e : Ex) (v : Value) (bs : List Nat) (w : World) (hv : ExIs w v e bs)
    (hO : ∀ (v2 : Value) (b2 : List Nat) (W : World), ExIs W v2 e b2 → exTot e ≤ 1048576 → Calls Try.prog 21 #[v2] W (NamesPost (exVars [] e) W)) :
    Calls Try.prog 9 #[v] w (TrueX w) := by
  have HZ := Lib.hid (fun (W : World) (hb : Below w.heap.size w W) => sz_expr e v bs W 1048576 (hv.below hb) (by omega) (by omega))
  have HC := Lib.hid (fun (ht : exTot e ≤ 1048576) (W : World) (hb : Below w.heap.size w W) => copy_expr e v bs W (hv.below hb) (tot_small ht))
  have HO := Lib.hid hO
  have HP := Lib.hid (fun (ht : exTot e ≤ 1048576) (v2 : Value) (b2 : List Nat) (W : World) (h : ExIs W v2 e b2) => vars_any e v2 b2 W h (tot_small ht))
  have HTS := Lib.hid ((tot_size (exSize e)).1 e (Nat.le_refl _))
  have HES := Lib.hid (show exSize e = exSizes e.args + 1 by cases e; rfl)
  have HXL := Lib.hid ((vars_len (exSize e)).1 e [] (Nat.le_refl _))
  clear hO
  obtain ⟨u, rfl, -, hu⟩ := hv
  obtain ⟨A, c, rfl, -⟩ := id hu
  clear hu
  generalize exVars [] e = xs at *
  go_enter Try.func9, Try.ntmps9
  have HBX := Lib.hid (box_cells w e.kind e.name (.slice A e.args.length c))
  have HB0 := Lib.hid ((Below.refl w.heap.size w).alloc (Nat.le_refl _) (.cells #[.int .i64 e.kind, .string e.name, .slice A e.args.length c] 42))
  have UP := Lib.hid (fun (W : World) (h : Below (w.heap.size + 1) (w.alloc (.cells #[.int .i64 e.kind, .string e.name, .slice A e.args.length c] 42)) W) => HB0.out.trans (h.mono (show w.heap.size ≤ w.heap.size + 1 by omega)))
  go_wp2_with fail
  go_at_call 37
  refine (HZ.out _ HB0.out).mono ?_
  rintro r w1 ⟨z, rfl, hb1, hz⟩
  have HW1 := Lib.hid (show Below (w.heap.size + 1) (w.alloc (.cells #[.int .i64 e.kind, .string e.name, .slice A e.args.length c] 42)) w1 by simpa using hb1)
  have hl1 : w.heap.size + 1 ≤ w1.heap.size := by have := HW1.out.size; simpa using this
  clear hb1 HZ
  rcases hz with ⟨rfl, -⟩ | ⟨hz0, hz⟩
  · go_wp2_with fail
    go_ret
    exact ⟨rfl, UP.out _ HW1.out⟩
  have HT := Lib.hid (show exTot e ≤ 1048576 by omega)
  have HU := Lib.hid (show xs.length ≤ 1048577 by have := HXL.out; have := HTS.out; have := HT.out; simp at *; omega)
  have HC2 := Lib.hid (fun (W : World) (h : Below (w.heap.size + 1) (w.alloc (.cells #[.int .i64 e.kind, .string e.name, .slice A e.args.length c] 42)) W) => HC.out HT.out W (UP.out W h))
  clear hz HC HXL
  obtain ⟨x0, x1, x2⟩ := HBX.out w1 HW1.out
  go_wp2_with fail
  go_at_call 39
  refine (HC2.out w1 HW1.out).mono ?_
  rintro r w2 ⟨v2, b2, rfl, hs2, -, hb2⟩
  obtain ⟨u2, rfl, -, hu2⟩ := id hs2
  obtain ⟨A2, c2, rfl, -⟩ := id hu2
  have HW2 := Lib.hid (HW1.out.trans (hb2.mono hl1))
  have hl2 := Nat.le_trans hl1 hb2.size
  have HS2 := Lib.hid hs2
  clear hs2 hu2 hb2 x0 x1 x2 HW1
  go_wp2_with fail
  go_at_call 22
  refine (HP.out HT.out _ b2 w2 HS2.out).mono ?_
  rintro r w3 ⟨_, rfl, hv0, hb3⟩
  obtain ⟨A0, c0, rfl⟩ := shape_of hv0
  have HD0 := Lib.hid (fun (k : Nat) (h : Value.ownBlock (.slice A0 xs.length c0) = some k) => World.ownsRow.lt hv0 k h)
  have HW3 := Lib.hid (HW2.out.trans (hb3.mono hl2))
  have hl3 := Nat.le_trans hl2 hb3.size
  have H0 := Lib.hid (show w3.ownsRow w2.heap.size 9 1 (.slice A0 xs.length c0) xs.length (xs.map Value.string) from hv0)
  clear hv0 hb3 HS2 HW2
  obtain ⟨x0, x1, x2⟩ := HBX.out w3 HW3.out
  go_wp2_with fail
  go_at_call 39
  refine (HC2.out w3 HW3.out).mono ?_
  rintro r w4 ⟨v4, b4, rfl, hs4, hm4, hb4⟩
  obtain ⟨u4, rfl, -, hu4⟩ := id hs4
  obtain ⟨A4, c4, rfl, -⟩ := id hu4
  have HR4 := Lib.hid hm4.range
  have hl34 := hb4.size
  have HW4 := Lib.hid ((HW3.out.trans (hb4.mono hl3)).alloc (Nat.le_trans hl3 hb4.size) (.cells #[.int .i64 e.kind, .string e.name, .slice A4 e.args.length c4] 26))
  have hl4 : w.heap.size + 1 ≤ w4.heap.size := Nat.le_trans hl3 hb4.size
  have HK4 := Lib.hid (hs4.below ((Below.refl w4.heap.size w4).alloc (Nat.le_refl _) (.cells #[.int .i64 e.kind, .string e.name, .slice A4 e.args.length c4] 26)))
  have HM4 := Lib.hid ((hm4.mono (Nat.zero_le _)).keeps (keeps_below ((Below.refl w4.heap.size w4).alloc (Nat.le_refl _) (.cells #[.int .i64 e.kind, .string e.name, .slice A4 e.args.length c4] 26)) b4))
  have H04 := Lib.hid (own_below H0.out (hb4.trans (((Below.refl w4.heap.size w4).alloc (Nat.le_refl _) (.cells #[.int .i64 e.kind, .string e.name, .slice A4 e.args.length c4] 26)).mono hb4.size)))
  clear hs4 hu4 hm4 hb4 x0 x1 x2 H0 HW3
  go_wp2_with fail
  go_at_call 21
  refine (HO.out _ b4 _ HK4.out HT.out).mono ?_
  rintro r w5 ⟨_, rfl, hv1, hb5⟩
  obtain ⟨A1, c1, rfl⟩ := shape_of hv1
  have HD1 := Lib.hid (fun (k : Nat) (h : Value.ownBlock (.slice A1 xs.length c1) = some k) => show w4.heap.size < k by have := (World.ownsRow.lt hv1 k h).1; simp at this; omega)
  have HV5 := Lib.hid (box_cells2 w4 e.kind e.name (.slice A4 e.args.length c4) w5 hb5)
  have HW5 := Lib.hid (HW4.out.trans (hb5.mono (by simp; omega)))
  have hl5 : w4.heap.size + 1 ≤ w5.heap.size := by have := hb5.size; simpa using this
  have HK5 := Lib.hid (HK4.out.below hb5)
  have HM5 := Lib.hid (HM4.out.keeps (keeps_below hb5 b4))
  have H05 := Lib.hid (own_below H04.out hb5)
  have H15 := Lib.hid (show w5.ownsRow _ 9 1 (.slice A1 xs.length c1) xs.length (xs.map Value.string) from hv1)
  clear hv1 hb5 HW4 HK4 HM4 H04
  have HEq := Lib.hid (eq_same A1 A0 xs c1 c0 w5 (own_read H15.out) (own_read H05.out) (by have := HU.out; omega))
  go_wp2_with fail
  go_at_call 42
  refine HEq.out.mono ?_
  rintro r _ ⟨rfl, q1, rfl⟩
  clear HEq
  have hq := drew_below w5 q1
  have HW6 := Lib.hid (HW5.out.trans (hq.mono (by omega)))
  have HV6 := Lib.hid (HV5.out)
  have HK6 := Lib.hid (HK5.out.below hq)
  have HM6 := Lib.hid (HM5.out.keeps (keeps_below hq b4))
  have H06 := Lib.hid (own_below H05.out hq)
  have H16 := Lib.hid (own_below H15.out hq)
  have HV6 := Lib.hid (show (w5.drewN q1).cell? ⟨w4.heap.size, 0, none⟩ = some (.int .i64 e.kind) ∧ (w5.drewN q1).cell? ⟨w4.heap.size, 1, none⟩ = some (.string e.name) ∧ (w5.drewN q1).cell? ⟨w4.heap.size, 2, none⟩ = some (.slice A4 e.args.length c4) from HV5.out)
  have hl6 : w4.heap.size + 1 ≤ (w5.drewN q1).heap.size := hl5
  clear hq HW5 HV5 HK5 HM5 H05 H15 hl5
  generalize w5.drewN q1 = w6 at *
  have hl6' : w.heap.size + 1 ≤ w6.heap.size := by omega
  have HSIX := Lib.hid (six_of (HBX.out w6 HW6.out) HV6.out)
  obtain ⟨x0, x1, x2, y0, y1, y2⟩ := HSIX.out
  have HDR := Lib.hid (Below.drew (Below.refl w6.heap.size w6))
  have HA6 := Lib.hid (fun (W : World) (h : Hid (Below w6.heap.size w6 W)) => HC2.out W (HW6.out.trans (h.out.mono hl6')))
  have HE6 := Lib.hid (fun (v7 : Value) (b7 : List Nat) (W : World) (h : Hid (Below w6.heap.size w6 W)) (h7 : ExIs W v7 e b7) => eq_expr e _ v7 b4 b7 W (HK6.out.below h.out) h7)
  go_wp2_with fail
  go_region_held3 (fun X => X.cell? ⟨w.heap.size, 0, none⟩ = some (.int .i64 e.kind) ∧ X.cell? ⟨w.heap.size, 1, none⟩ = some (.string e.name) ∧ X.cell? ⟨w.heap.size, 2, none⟩ = some (.slice A e.args.length c) ∧
      X.cell? ⟨w4.heap.size, 0, none⟩ = some (.int .i64 e.kind) ∧ X.cell? ⟨w4.heap.size, 1, none⟩ = some (.string e.name) ∧ X.cell? ⟨w4.heap.size, 2, none⟩ = some (.slice A4 e.args.length c4) ∧ Hid (Below w6.heap.size w6 X))
    (first | exact keep6_start HSIX.out | exact keep6_step HSIX hb7 (by assumption) | exact keep6_step HSIX hb8 (by assumption))
    (first
      | (go_at_call 39; refine (HA6.out _ (by assumption)).mono ?_; rintro r w7 ⟨v7, b7, rfl, hs7, -, hb7⟩)
      | (go_at_call 40; have hh := ‹_ ∧ _ ∧ _ ∧ _ ∧ _ ∧ _ ∧ Hid (Below w6.heap.size w6 w7)›; refine (HE6.out _ b7 _ hh.2.2.2.2.2.2 hs7).mono ?_; clear hh; rintro r w8 ⟨rfl, hb8⟩))
  all_goals
    have hx := ‹_ ∧ _ ∧ _ ∧ _ ∧ _ ∧ _ ∧ Hid (Below w6.heap.size w6 w8)›
    have hh8 := hx.2.2.2.2.2.2.out
    have HW8 := Lib.hid (HW6.out.trans (hh8.mono hl6'))
    have hl8 := Nat.le_trans hl6 hh8.size
    have hl8' : w.heap.size + 1 ≤ w8.heap.size := by omega
    have HK8 := Lib.hid (HK6.out.below hh8)
    have HM8 := Lib.hid (HM6.out.keeps (keeps_below hh8 b4))
    have H08 := Lib.hid (own_below H06.out hh8)
    have H18 := Lib.hid (own_below H16.out hh8)
    have HV8 := Lib.hid (And.intro hx.2.2.2.1 (And.intro hx.2.2.2.2.1 hx.2.2.2.2.2.1))
    clear hx hh8 x0 x1 x2 y0 y1 y2 hs7 hb7 hb8 HSIX HW6 HK6 HM6 H06 H16 HV6 HA6 HE6 HDR
    obtain ⟨y0, y1, y2⟩ := HV8.out
    go_wp2_with fail
    go_at_call 43
    refine (mark_expr e _ b4 w8 1 HK8.out HM8.out (by omega) (by have := HES.out; have := HTS.out; have := HT.out; omega)).mono ?_
    rintro r w9 ⟨rfl, -, ho9, -⟩
    obtain ⟨mk, hmk⟩ : ∃ mk, mk = 1 + 2 * (exSizes e.args : Int) := ⟨_, rfl⟩
    rw [← hmk]
    have hmk0 : 0 ≤ mk := by omega
    have hl9 := Nat.le_trans hl8 ho9.size
    have hl9' : w.heap.size + 1 ≤ w9.heap.size := by omega
    have HW9 := Lib.hid (only_low HW8.out ho9 (fun x hx => by have := (HR4.out x hx).1; omega) hl8')
    have H09 := Lib.hid (own_only H08.out ho9 (fun k hk hm => by have := (HD0.out k hk).2; have := (HR4.out k hm).1; omega))
    have H19 := Lib.hid (own_only H18.out ho9 (fun k hk hm => by have := HD1.out k hk; have := (HR4.out k hm).2; omega))
    clear ho9 y0 y1 y2 hmk HW8 HK8 HM8 H08 H18 HV8
    have HEq := Lib.hid (eq_same A1 A0 xs c1 c0 w9 (own_read H19.out) (own_read H09.out) (by have := HU.out; omega))
    go_wp2_with fail
    go_at_call 42
    refine HEq.out.mono ?_
    rintro r _ ⟨rfl, q2, rfl⟩
    clear HEq
    have hq := drew_below w9 q2
    have HW10 := Lib.hid (HW9.out.trans (hq.mono hl9'))
    have H010 := Lib.hid (own_below H09.out hq)
    have H110 := Lib.hid (own_below H19.out hq)
    have hl10 : w4.heap.size + 1 ≤ (w9.drewN q2).heap.size := hl9
    clear hq HW9 H09 H19
    generalize w9.drewN q2 = w10 at *
    go_wp2_with fail
    go_at_call 44
    refine (mark_val 1 (by omega) (by omega) _ xs.length (.slice A1 xs.length c1) _ w10 H110.out (by have := HU.out; omega)).mono ?_
    rintro r w11 ⟨rfl, hm11, hg11⟩
    have HW11 := Lib.hid (low_grown HW10.out hg11 (fun k hk => by have := HD1.out k hk; omega) (by omega))
    have H011 := Lib.hid (kept_ne H010.out hg11 (fun k hk h2 => by have := (HD0.out k hk).2; have := HD1.out k h2; have := hl3; have := hl4; omega))
    have HMK := Lib.hid hm11
    have hl11 := Nat.le_trans hl10 hg11.size
    clear hm11 hg11 HW10 H010 H110
    have hxl : (xs.length : Int) ≤ 1048577 := by have := HU.out; omega
    go_wp2_with fail
    go_at_call 45
    refine (held_val 1 (by omega) (by omega) _ xs.length (.slice A1 xs.length c1) w11 HMK.out (by have := HU.out; omega)).mono ?_
    rintro r w12 ⟨rfl, hb12⟩
    have HW12 := Lib.hid (HW11.out.trans (hb12.mono (by omega)))
    have H012 := Lib.hid (own_below H011.out hb12)
    have HMK2 := Lib.hid (own_below HMK.out hb12)
    have hl12 := Nat.le_trans hl11 hb12.size
    clear hb12 HW11 H011 HMK
    obtain ⟨x0, x1, x2⟩ := HBX.out w12 HW12.out
    go_wp2_with fail
    go_at_call 39
    refine (HC2.out w12 HW12.out).mono ?_
    rintro r w13 ⟨v13, b13, rfl, hs13, -, hb13⟩
    obtain ⟨u13, rfl, -, hu13⟩ := id hs13
    obtain ⟨A13, c13, rfl, -⟩ := id hu13
    have HW13 := Lib.hid (HW12.out.trans (hb13.mono (by omega)))
    have H013 := Lib.hid (own_below H012.out hb13)
    have HMK3 := Lib.hid (own_below HMK2.out hb13)
    have hl13 := Nat.le_trans hl12 hb13.size
    have HS13 := Lib.hid hs13
    clear hs13 hu13 hb13 x0 x1 x2 HW12 H012 HMK2
    go_wp2_with fail
    go_at_call 21
    refine (HO.out _ b13 _ HS13.out HT.out).mono ?_
    rintro r w14 ⟨_, rfl, hv2, hb14⟩
    obtain ⟨A9, c9, rfl⟩ := shape_of hv2
    have HW14 := Lib.hid (HW13.out.trans (hb14.mono (by omega)))
    have H014 := Lib.hid (own_below H013.out hb14)
    have HMK4 := Lib.hid (own_below HMK3.out hb14)
    have hl14 := Nat.le_trans hl13 hb14.size
    have HEq := Lib.hid (eq_same A9 A0 xs c9 c0 w14 (own_read hv2) (own_read H014.out) (by have := HU.out; omega))
    clear hv2 hb14 HW13 H013 HMK3 HS13
    go_wp2_with fail
    go_at_call 42
    refine HEq.out.mono ?_
    rintro r _ ⟨rfl, q3, rfl⟩
    clear HEq
    have hq := drew_below w14 q3
    have HW15 := Lib.hid (HW14.out.trans (hq.mono (by omega)))
    have HMK5 := Lib.hid (own_below HMK4.out hq)
    have hl15 : w4.heap.size + 1 ≤ (w14.drewN q3).heap.size := hl14
    clear hq HW14 H014 HMK4
    generalize w14.drewN q3 = w15 at *
    go_wp2_with fail
    go_at_call 45
    refine (held_val 1 (by omega) (by omega) _ xs.length (.slice A1 xs.length c1) w15 HMK5.out (by have := HU.out; omega)).mono ?_
    rintro r w16 ⟨rfl, hb16⟩
    have HW16 := Lib.hid (HW15.out.trans (hb16.mono (by omega)))
    clear hb16
    go_wp2_with fail
    go_ret
    exact ⟨rfl, UP.out _ HW16.out⟩
end Go.Proofs.Ytejgclmlclidkaa
