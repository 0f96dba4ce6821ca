/- A part of the proof of the seat's statement: HoldsReadPr. Condition: as each says. -/
import Derived.Test.YthljhiklpopmgaaGreatDoorExHeld
import Derived.Test.YthljhiklpopmgaaGreatDoorOwnRuCon
import Derived.Test.YthljhiklpopmgaaGreatDoorSpecReadPr
import Derived.Test.YthljhiklpopmgaaGreatDoorLineMath
import Derived.Test.YthljhiklpopmgaaGreatDoorRows
import Derived.Test.YthljhiklpopmgaaGreatDoorCards
import Derived.Test.YthljhiklpopmgaaGreatDoorTie
import Derived.Test.YthljhiklpopmgaaGreatDoorMarks
import Derived.ProofKit
import Derived.LaidMore
import Derived.Lay
import Derived.OpenShut
import Derived.LaidHandle
import Derived.Stop.Joined
import Derived.SevenTiedAt
import Derived.Shelf.Vars
set_option maxHeartbeats 8000000
namespace Go.Proofs.YthljhiklpopmgaaGreatDoor
open Go Go.RowKit
def HeldRus (M : Int) (l : List Ru) (w : World) (r : Ending) (w' : World) : Prop := r = .returned (.int .i64 (M + (rusW l : Int))) ∧ Below w.heap.size w w'
theorem cells7_below {wr w2 : World} {g o : Nat} {x0 x1 x2 x3 x4 x5 x6 : Value} (h : Cells7 wr g o x0 x1 x2 x3 x4 x5 x6) (hg : g < wr.heap.size) (hb : Below wr.heap.size wr w2) : Cells7 w2 g o x0 x1 x2 x3 x4 x5 x6 :=
 h.of (fun m _ _ => hb.cell (p := ⟨g, m, none⟩) hg)
set_option maxRecDepth 100000 in
theorem held_rus (l : List Ru) (v : Value) (bs : List Nat) (w : World) (M : Int) (hv : RsIs w v (mkRus M l) bs) (hM0 : 1 ≤ M) (hM1 : M ≤ 1048576) (hb : rusTot l ≤ 1048576) :
 Calls Tryz.prog 16 #[v, .int .i64 M] w (HeldRus M l w) := by
 obtain ⟨A, c, rfl, hc1, hc2, -⟩ := id hv
 rw [mkRus_len] at hc1 hv ⊢
 obtain ⟨m, hm⟩ : ∃ m, m = l.length := ⟨_, rfl⟩
 rw [← hm] at hc1 hv ⊢
 have HM := zH hm
 have HB1 := zH (show M + (rusW l : Int) ≤ 5242880 by have := rusW_le l; omega)
 have hm0 : m ≤ 1048576 := by have := rusTot_ge l; omega
 have HV := zH hv
 clear hm hv hb
 go_enter Tryz.func16, Tryz.ntmps16
 go_wp2_with fail
 go_loopw [1, 5] (fun mm i wr => ∃ (k : Nat) (z : Int), k ≤ m ∧ i = .int .i64 (k : Int) ∧ mm = .int .i64 z ∧ 1 ≤ z ∧ z ≤ 5242880 ∧ Hid (z = M + (rusW (l.take k) : Int)) ∧ Hid (Below w.heap.size w wr)) (fun _ i _ => m - (intOf i).toNat)
 case atStart => exact ⟨0, M, Nat.zero_le _, rfl, rfl, hM0, by have := HB1.out; omega, zH (by simp [rusW]), zH (Below.refl _ _)⟩
 case round =>
  obtain ⟨k, z, hk, rfl, rfl, hz0, hz1, HZ, HB⟩ := hrel
  by_cases hlt : k < m
  · have hkl : k < l.length := by rw [← HM.out]; exact hlt
    obtain ⟨r, hget⟩ : ∃ r, l[k]? = some r := ⟨_, List.getElem?_eq_getElem hkl⟩
    obtain ⟨g, o, r2, v1, v2, u, b, hA⟩ := (HV.out.below HB.out).get k (by rw [mkRus_len]; exact hkl)
    obtain rfl := hA.eq
    have hr2 : r2 = mkRu z r := by
     have h := hA.get
     rw [mkRus_get l M k r hget, ← HZ.out] at h
     exact (Option.some.inj h).symm
    subst hr2
    obtain ⟨b1, b2, b3, -, -, -, hs1, hs2, ⟨u', eu, -, hs3⟩⟩ := hA.is.parts
    obtain rfl : u = u' := by simpa using eu
    have hg := hA.lt
    have hcells := hA.cells
    obtain ⟨z3, hz3⟩ : ∃ z3, z3 = z + 1 + 1 + (r.vars.length : Int) := ⟨_, rfl⟩
    obtain ⟨z4, hz4⟩ : ∃ z4, z4 = z3 + (r.params.length : Int) := ⟨_, rfl⟩
    obtain ⟨z6, hz6⟩ : ∃ z6, z6 = z4 + 1 + 1 + 2 * (exSizes r.body.args : Int) := ⟨_, rfl⟩
    have hmk : mkRu z r = ⟨mt z, mt (z + 1), mlist (z + 1 + 1) r.vars.length, mlist z3 r.params.length, .mk z4 (mt (z4 + 1)) (mkExs (z4 + 1 + 1) r.body.args)⟩ := by
     rw [hz4, hz3]; rfl
    rw [hmk] at hs1 hs2 hs3 hcells
    replace hcells : Cells7 wr g (o + k * 7) (.string (mt z)) (.string (mt (z + 1))) v1 v2 (.int .i64 z4) (.string (mt (z4 + 1))) u := hcells
    have HSN := zH (rusW_snoc l k r hget)
    have HTK := zH (rusW_take l (k + 1))
    have hwr : ruW r = 4 + (r.vars.length + (r.params.length + 2 * exSizes r.body.args)) := rfl
    have HZ6 := zH (show z6 = M + (rusW (l.take (k + 1)) : Int) by
     have h1 := HZ.out
     have h2 := HSN.out
     omega)
    have hz62 : z6 ≤ 5242880 := by
     have h3 := HTK.out
     have h4 := HB1.out
     have h5 := HZ6.out
     omega
    have hz31 : 1 ≤ z3 := by omega
    have hz41 : 1 ≤ z4 := by omega
    have hz61 : 1 ≤ z6 := by omega
    have hz32 : z3 ≤ 5242880 := by omega
    have hz42 : z4 + 2 ≤ 5242880 := by omega
    have hzz : z + 2 ≤ 5242880 := by omega
    have hd3 : decide (z3 < 0) = false := by simp; omega
    have hd4 : decide (z4 < 0) = false := by simp; omega
    have hd6 : decide (z6 < 0) = false := by simp; omega
    have HMT := zH (fun (W : World) (q : Int) (h0 : 1 ≤ q) (h1 : q ≤ 5242880) => mark_text q (by omega) (by omega) W)
    have HV1 := zH (fun (W : World) (hb : Hid (Below wr.heap.size wr W)) => held_ss (z + 1 + 1) r.vars.length v1 b1 W (hs1.below hb.out) (by omega) (by omega) (by omega))
    have HV2 := zH (fun (W : World) (hb : Hid (Below wr.heap.size wr W)) => held_ss z3 r.params.length v2 b2 W (hs2.below hb.out) hz31 (by omega) (by omega))
    have HV3 := zH (fun (W : World) (hb : Hid (Below wr.heap.size wr W)) => held_exs (exSizes r.body.args) r.body.args u b3 W (z4 + 1 + 1) (Nat.le_refl _) (hs3.below hb.out) (by omega) (by omega))
    have HC := zH (fun (W : World) (hb : Hid (Below wr.heap.size wr W)) => cells7_below hcells hg hb.out)
    have HZ3 := zH hz3
    have HZ4 := zH hz4
    have HZ66 := zH hz6
    obtain ⟨x0, -, -, -, -, -, -⟩ := id hcells
    have hk0 : 0 ≤ (k : Int) := by omega
    have hkm : (k : Int) < (m : Int) := by omega
    clear hA hs1 hs2 hs3 hcells hmk hwr hz3 hz4 hz6 eu hget
    go_wp2_with fail
    go_region_held3 (fun X => X.cell? ⟨g, o + k * 7, none⟩ = some (.string (mt z)) ∧ Hid (Below wr.heap.size wr X))
     (first | exact keep_start x0 | exact keep_step (a := ⟨g, o + k * 7, none⟩) hg hb2 (by assumption))
     (first | (go_at_call 31; refine (HMT.out _ z hz0 hz1).mono ?_; rintro e w2 ⟨rfl, hb2⟩))
    all_goals
     have hx := ‹_ ∧ Hid (Below wr.heap.size wr w2)›
     have HX := zH (zH hx.2.out)
     obtain ⟨-, y1, -, -, -, -, -⟩ := HC.out _ HX.out
     clear hx x0
     have hg2 : g < w2.heap.size := Nat.lt_of_lt_of_le hg HX.out.out.size
     go_wp2_with fail
     go_region_held3 (fun X => X.cell? ⟨g, o + k * 7 + 1, none⟩ = some (.string (mt (z + 1))) ∧ Hid (Below w2.heap.size w2 X))
      (first | exact keep_start y1 | exact keep_step (a := ⟨g, o + k * 7 + 1, none⟩) hg2 hb2 (by assumption))
      (first | (go_at_call 31; refine (HMT.out _ (z + 1) (by omega) (by omega)).mono ?_; rintro e w3 ⟨rfl, hb2⟩))
     all_goals
      have hx := ‹_ ∧ Hid (Below w2.heap.size w2 w3)›
      have HX2 := zH (zH (HX.out.out.trans (hx.2.out.mono HX.out.out.size)))
      clear hx y1 hg2
      obtain ⟨-, -, y2, -, -, -, -⟩ := HC.out _ HX2.out
      go_wp2_with fail
      go_at_call 34
      refine (HV1.out _ HX2.out).mono ?_
      rintro e w4 ⟨rfl, hb4⟩
      rw [← HZ3.out]
      have HX4 := zH (zH (HX2.out.out.trans (hb4.mono HX2.out.out.size)))
      obtain ⟨-, -, -, y3, -, -, -⟩ := HC.out _ HX4.out
      clear hb4 y2 HX2 HX
      go_wp2_with fail
      go_at_call 34
      refine (HV2.out _ HX4.out).mono ?_
      rintro e w5 ⟨rfl, hb5⟩
      rw [← HZ4.out]
      have HX5 := zH (zH (HX4.out.out.trans (hb5.mono HX4.out.out.size)))
      obtain ⟨-, -, -, -, y4, y5, -⟩ := HC.out _ HX5.out
      clear hb5 y3 HX4
      have hg2 : g < w5.heap.size := Nat.lt_of_lt_of_le hg HX5.out.out.size
      go_wp2_with fail
      go_region_held3 (fun X => X.cell? ⟨g, o + k * 7 + 5, none⟩ = some (.string (mt (z4 + 1))) ∧ Hid (Below w5.heap.size w5 X))
       (first | exact keep_start y5 | exact keep_step (a := ⟨g, o + k * 7 + 5, none⟩) hg2 hb2 (by assumption))
       (first | (go_at_call 31; refine (HMT.out _ (z4 + 1) (by omega) (by omega)).mono ?_; rintro e w6 ⟨rfl, hb2⟩))
      all_goals
       have hx := ‹_ ∧ Hid (Below w5.heap.size w5 w6)›
       have HX2 := zH (zH (HX5.out.out.trans (hx.2.out.mono HX5.out.out.size)))
       clear hx y5 hg2
       obtain ⟨-, -, -, -, -, -, y6⟩ := HC.out _ HX2.out
       go_wp2_with fail
       go_at_call 35
       refine (HV3.out _ HX2.out).mono ?_
       rintro e w7 ⟨rfl, hb7⟩
       rw [← HZ66.out]
       have HX7 := zH (HB.out.trans ((HX2.out.out.trans (hb7.mono HX2.out.out.size)).mono HB.out.size))
       clear hb7 y6 HX2 HX5
       go_wp2_with fail
       go_roundw
       case rel => exact ⟨k + 1, z6, by omega, by go_num, rfl, hz61, hz62, HZ6, HX7⟩
       case measure => simp [intOf]; omega
  have HE := zH (show l.take k = l from List.take_of_length_le (by rw [← HM.out]; omega))
  have HEND := zH (show z = M + (rusW l : Int) by have := HZ.out; rw [HE.out] at this; exact this)
  go_wp2_with fail
  go_ret
  exact ⟨by rw [← HEND.out]; rfl, HB.out⟩
theorem held_pr (l : List Ru) (v : Value) (bs : List Nat) (w : World) (M : Int) (hv : PrIs w v (mkRus M l) bs) (hM0 : 1 ≤ M) (hM1 : M ≤ 1048576) (hb : rusTot l ≤ 1048576) :
 Calls Tryz.prog 8 #[v, .int .i64 M] w (HeldRus M l w) := by
 obtain ⟨u, rfl, hu⟩ := hv
 obtain ⟨A, c, rfl, -⟩ := id hu
 have HB0 := zH ((Below.refl w.heap.size w).alloc (Nat.le_refl _) (.cells #[.slice A (mkRus M l).length c] 24))
 have HC := zH (held_rus l _ bs _ M (hu.below HB0.out) hM0 hM1 hb)
 obtain ⟨z, hz⟩ : ∃ z, z = M + (rusW l : Int) := ⟨_, rfl⟩
 have HZ := zH hz
 have hz1 : 1 ≤ z := by omega
 have hzd : decide (z < 0) = false := by simp; omega
 generalize (mkRus M l).length = q at *
 clear hu hz
 go_enter Tryz.func8, Tryz.ntmps8
 go_wp2_with fail
 go_at_call 16
 refine HC.out.mono ?_
 rintro r w1 ⟨rfl, hb1⟩
 rw [← HZ.out]
 have HB1 := zH (HB0.out.trans (hb1.mono HB0.out.size))
 clear hb1
 go_wp2_with fail
 go_ret
 exact ⟨by rw [← HZ.out]; rfl, HB1.out⟩
theorem OnlyIn.frR {a b : World} {bs : List Nat} (h : OnlyIn a b bs) : Fr bs a b := ⟨h.os, h.tape, h.output, h.size, h.block⟩
theorem readPr_tot {s : ByteArray} (hs : s.size ≤ 1048576) : rusTot (readPr s).1 ≤ 1048576 := by
 unfold readPr
 cases h : readOn (lineL s) [] with
 | inl k => simp [rusTot]
 | inr l =>
  show rusTot (if prStr l = s then (l, (-1 : Int)) else ([], ((lineL s).length : Int))).1 ≤ 1048576
  by_cases hh : prStr l = s
  · rw [if_pos hh]; exact (read_all h hs).1
  rw [if_neg hh]; simp [rusTot]
theorem boxB {w w2 : World} {B : Nat} {t : TypeId} {v : Value} (h : Boxed w B t v) (hb : Below w.heap.size w w2) : Boxed w2 B t v := box_on h (hb.block B h.lt)
theorem boxO {w w2 : World} {B : Nat} {t : TypeId} {v : Value} {bs : List Nat} (h : Boxed w B t v) (ho : OnlyIn w w2 bs) (hn : B ∉ bs) : Boxed w2 B t v := box_on h (ho.block B h.lt hn)
theorem lawreadpr (s : ByteArray) (w : World)
 (hO : ∀ (W : World), Below w.heap.size w W → s.size ≤ 1048576 → Calls Tryz.prog 5 #[.string s] W (PrPost (readPr s) W)) :
 Calls Tryz.prog 3 #[.string s] w (TrueX w) := by
 by_cases hbig : s.size ≤ 1048576
 · have HO := zH (fun (W : World) (hb : Below w.heap.size w W) => hO W hb hbig)
   have HS := zH (parsepr_any s w hbig)
   have HT := zH (readPr_tot hbig)
   have hbi : (s.size : Int) ≤ 1048576 := by omega
   have hbd : decide (1048576 < (s.size : Int)) = false := by simp; omega
   have hbd2 : decide (1048576 < s.size) = false := by simp; omega
   clear hO hbig
   obtain ⟨l, hl⟩ : ∃ l, l = (readPr s).1 := ⟨_, rfl⟩
   obtain ⟨x, hx⟩ : ∃ x, x = (readPr s).2 := ⟨_, rfl⟩
   unfold PrPost at HO HS
   rw [← hl, ← hx] at HO HS
   rw [← hl] at HT
   clear hl hx
   obtain ⟨n, hn⟩ : ∃ n, n = l.length := ⟨_, rfl⟩
   have HN := zH hn
   clear hn
   have HQ := zH (fun (v6 : Value) (b6 b4 : List Nat) (v4 : Value) (W : World) (h4 : PrIs W v4 l b4) (h6 : PrIs W v6 l b6) => eq_prog l v4 v6 b4 b6 W h4 h6 HT.out)
   go_enter Tryz.func3, Tryz.ntmps3
   go_wp2_with fail
   go_at_call 4
   refine HS.out.mono ?_
   rintro r w1 ⟨v0, b0, rfl, hs0, hm0, hb1⟩
   obtain ⟨u0, rfl, hu0⟩ := id hs0
   obtain ⟨A0, c0, rfl, -⟩ := id hu0
   rw [← HN.out] at hs0 ⊢
   have HB1 := zH (hb1.alloc hb1.size (.cells #[.slice A0 n c0] 24))
   have HX1 := zH (Boxed.new w1 24 (.slice A0 n c0))
   have HS1 := zH (hs0.below ((Below.refl w1.heap.size w1).alloc (Nat.le_refl _) (.cells #[.slice A0 n c0] 24)))
   have HR0 := zH (fun x (hx : x ∈ b0) => (hm0.range x hx).2)
   have hz1 := hb1.size
   clear hs0 hm0 hb1 hu0
   go_wp2_with fail
   go_at_call 5
   refine (HO.out _ HB1.out).mono ?_
   rintro r w2 ⟨vg, bg, rfl, hsg, hmg, hb2⟩
   obtain ⟨ug, rfl, hug⟩ := id hsg
   obtain ⟨Ag, cg, rfl, -⟩ := id hug
   rw [← HN.out] at hsg ⊢
   have hz2 : w1.heap.size + 1 ≤ w2.heap.size := by have := hb2.size; simpa using this
   have hAl := (Below.refl w2.heap.size w2).alloc (Nat.le_refl _) (.cells #[.slice Ag n cg] 24)
   have HB2 := zH ((HB1.out.trans (hb2.mono HB1.out.size)).trans (hAl.mono (by omega)))
   have HX2 := zH (boxB (boxB HX1.out hb2) hAl)
   have HS2 := zH ((HS1.out.below hb2).below hAl)
   have HG2 := zH (Boxed.new w2 24 (.slice Ag n cg))
   have HE2 := zH (hsg.below hAl)
   have HM2 := zH ((hmg.mono (Nat.zero_le _)).keeps (keeps_below hAl bg))
   have HRG := zH (fun x (hx : x ∈ bg) => show w1.heap.size < x ∧ x < w2.heap.size by have := hmg.range x hx; simp at this; omega)
   clear hsg hmg hb2 hug hAl HB1 HX1 HS1
   have x0 := HX2.out.cell
   go_wp2_with fail
   go_at_call 6
   refine (HQ.out _ _ _ _ _ HE2.out HS2.out).mono ?_
   rintro r w3 ⟨rfl, hb3⟩
   have hz3 : w2.heap.size + 1 ≤ w3.heap.size := by have := hb3.size; simpa using this
   have HB3 := zH (HB2.out.trans (hb3.mono HB2.out.size))
   have HX3 := zH (boxB HX2.out hb3)
   have HS3 := zH (HS2.out.below hb3)
   have HG3 := zH (boxB HG2.out hb3)
   have HE3 := zH (HE2.out.below hb3)
   have HM3 := zH (HM2.out.keeps (keeps_below hb3 bg))
   clear hb3 HB2 HX2 HS2 HG2 HE2 HM2 x0
   have x0 := HG3.out.cell
   go_wp2_with fail
   go_at_call 7
   refine (mark_pr l _ bg w3 1 HE3.out HM3.out (by omega) (by omega) HT.out).mono ?_
   rintro r w4 ⟨rfl, hk4, ho4, -⟩
   obtain ⟨mk, hmk⟩ : ∃ mk, mk = 1 + (rusW l : Int) := ⟨_, rfl⟩
   rw [← hmk]
   have hmk0 : 0 ≤ mk := by omega
   have hmkd : decide (mk < 0) = false := by simp; omega
   have HMK := zH hmk
   have hz4 : w2.heap.size + 1 ≤ w4.heap.size := Nat.le_trans hz3 ho4.size
   have HB4 := zH (HB3.out.trans (ho4.frR.below (fun x hx => by have := (HRG.out x hx).1; omega) (by omega)))
   have HX4 := zH (boxO HX3.out ho4 (fun hx => by have := (HRG.out _ hx).1; omega))
   have HS4 := zH (HS3.out.keeps (ho4.keeps (fun x hx hg => by have := HR0.out x hx; have := (HRG.out x hg).1; omega)))
   have HG4 := zH (boxO HG3.out ho4 (fun hx => by have := (HRG.out _ hx).2; omega))
   have HK4 := zH hk4
   clear hk4 ho4 hmk HB3 HX3 HS3 HG3 HE3 HM3 x0
   have x0 := HG4.out.cell
   go_wp2_with fail
   go_at_call 8
   refine (held_pr l _ bg w4 1 HK4.out (by omega) (by omega) HT.out).mono ?_
   rintro r w5 ⟨rfl, hb5⟩
   rw [← HMK.out]
   have hz5 : w2.heap.size + 1 ≤ w5.heap.size := Nat.le_trans hz4 hb5.size
   have HB5 := zH (HB4.out.trans (hb5.mono HB4.out.size))
   have HX5 := zH (boxB HX4.out hb5)
   have HS5 := zH (HS4.out.below hb5)
   have HG5 := zH (boxB HG4.out hb5)
   have HK5 := zH (HK4.out.below hb5)
   clear hb5 HB4 HX4 HS4 HG4 HK4 x0
   go_wp2_with fail
   go_at_call 5
   refine (HO.out _ HB5.out).mono ?_
   rintro r w6 ⟨vh, bh, rfl, hsh, -, hb6⟩
   obtain ⟨uh, rfl, huh⟩ := id hsh
   obtain ⟨Ah, ch, rfl, -⟩ := id huh
   rw [← HN.out] at hsh ⊢
   have hAl := (Below.refl w6.heap.size w6).alloc (Nat.le_refl _) (.cells #[.slice Ah n ch] 24)
   have HB6 := zH ((HB5.out.trans (hb6.mono HB5.out.size)).trans (hAl.mono (by have := hb6.size; have := HB5.out.size; omega)))
   have HX6 := zH (boxB (boxB HX5.out hb6) hAl)
   have HS6 := zH ((HS5.out.below hb6).below hAl)
   have HG6 := zH (boxB (boxB HG5.out hb6) hAl)
   have HK6 := zH ((HK5.out.below hb6).below hAl)
   have HEQ := zH (HQ.out _ _ _ _ _ (hsh.below hAl) HS6.out)
   clear hsh hb6 huh hAl HB5 HX5 HS5 HG5 HK5 HS6
   have x0 := HX6.out.cell
   go_wp2_with fail
   go_at_call 6
   refine HEQ.out.mono ?_
   rintro r w7 ⟨rfl, hb7⟩
   have HB7 := zH (HB6.out.trans (hb7.mono HB6.out.size))
   have HG7 := zH (boxB HG6.out hb7)
   have HK7 := zH (HK6.out.below hb7)
   clear hb7 HEQ HB6 HX6 HG6 HK6 x0
   have x0 := HG7.out.cell
   go_wp2_with fail
   go_at_call 8
   refine (held_pr l _ bg w7 1 HK7.out (by omega) (by omega) HT.out).mono ?_
   rintro r w8 ⟨rfl, hb8⟩
   rw [← HMK.out]
   have HB8 := zH (HB7.out.trans (hb8.mono HB7.out.size))
   clear hb8
   go_wp2_with fail
   go_ret
   exact ⟨rfl, HB8.out⟩
 have hbi : 1048576 < (s.size : Int) := by omega
 have hbn : 1048576 < s.size := by omega
 clear hO
 go_enter Tryz.func3, Tryz.ntmps3
 go_wp2_with fail
 go_ret
 exact ⟨rfl, Below.refl _ _⟩
end Go.Proofs.YthljhiklpopmgaaGreatDoor
namespace Go.Proofs.YthljhiklpopmgaaGreatDoor
open Go Go.ChangeShapes Go.WideShapes Go.ChangeAt Go.WideMaps Go.WideElems Go.RowKit
open Go.ChangeMaps (open_string shut_string)
theorem returns_shaped {H : Type} {enc : TypeId × Value → H} {C : Checked} {os : Os} {f : FuncId} {fn : Func} {s : ChangeSpec} {conds : List PathCond} {apart fresh handsOn again : Bool} {X : World → Array Value → Prop}
 (hX : ∀ (w w' : World) (args : Array Value), w.heap = w'.heap → X w args → X w' args)
 (own : ownKnob C.prog.godebug = none) (started : os.Started) (noInit : C.prog.inits.idxOf? f = none) (hfn : C.prog.funcs[f]? = some fn)
 (witness : ∃ (w : World) (tape : Tape) (i : Input), w.os = os ∧ (w.forCall tape i).Shaped C.prog ∧ i.vars = [] ∧ Input.okWide C.prog (w.forCall tape i) .any w.heap.size f i ∧
  ((s.pre enc C.prog fn conds apart (w.forCall tape i).memory i.args ∧ X (w.forCall tape i).memory i.args) ∧ sizedMet enc C.prog fn (OpenSpec.ofChange s) apart (w.forCall tape i).memory i.args) ∧ ({} : Assume).holds C.prog (lone (Frame.enter C.prog f i.args .normal) [] (w.forCall tape i)))
 (contract : ∀ (W : World) (base : Nat) (args : Array Value) (ds gs : List (DataW H)) (before : List MemPlace),
  (∀ (j : Nat) t v, fn.params[j]? = some t → args[j]? = some v → Value.okWide C.prog W .any base t v) →
  DataW.Whole enc C.prog fn.params.toList s.vars apart W args.toList ds gs before →
  W.ShapedOpen C.prog → X W args →
  Calls C.prog f args W fun e W' => ∃ v, e = .returned v ∧ s.post enc C.prog fn apart fresh handsOn again W args v W') :
 ReturnsInHanded {} C os f .any (fun w args => (s.pre enc C.prog fn conds apart w args ∧ X w args) ∧ sizedMet enc C.prog fn (OpenSpec.ofChange s) apart w args) (s.post enc C.prog fn apart fresh handsOn again) := by
 refine returnsInHanded_of_calls own started noInit witness ?_
 intro w tape i _ hsh _ hok hpre _
 obtain ⟨_, _, _, fn', hfn', _, _, _, _, hval⟩ := hok
 have e : fn' = fn := Option.some.inj (hfn'.symm.trans hfn)
 subst e
 obtain ⟨⟨⟨ds, gs, before, hw, _⟩, hx⟩, _⟩ := hpre
 have hw' := DataW.Whole.of_heap (w' := w.forCall tape i) (by rfl) hw
 refine (contract (w.forCall tape i) w.heap.size i.args ds gs before hval hw' hsh (hX _ _ _ (by rfl) hx)).mono fun e W' ⟨v, he, hp⟩ => ?_
 subst he
 exact ChangeSpec.post_blind hp
theorem ownD : ownKnob Tryz.prog.godebug = none := by kernel_rfl
theorem maxLen_of {W : World} (h : W.ShapedOpen Tryz.prog) : ∃ mx, W.cell? ⟨1, 0, none⟩ = some (.int .i64 mx) :=
 cell_of_shapedOpen_int (P := Tryz.prog) (g := 1) (t := 3) (zero := #[.int .i64 0]) h (of_decide_eq_true (by kernel_rfl)) (by kernel_rfl) rfl (by kernel_rfl) (by kernel_rfl) Tryz.underlying3
theorem gEt : Tryz.prog.globalNamed "errors.errorType" = some 0 := by kernel_rfl
theorem rtNo : (Tryz.prog.cutTypes.find? (·.1 == "internal/reflectlite.rtype")).map (·.2) = some 90 := by kernel_rfl
theorem oneRow : ((List.range Tryz.prog.types.size).filter fun t => Tryz.prog.rowNamed t [101, 114, 114, 111, 114]) = [41] := by kernel_rfl
theorem handle_of_laid {W : World} (h : laidMetH Tryz.prog Rows.fnExactParseProgramRow.laid W) : W.cell? ⟨0, 0, none⟩ = some (.iface 90 (.agg #[.pointer (some ⟨2, 41, none⟩)])) := by
 have h' : laidMet Tryz.prog [] W ∧ handlesMet Tryz.prog Rows.fnExactParseProgramRow.laid W := h
 obtain ⟨name, u, ty, e1, e2, e3, e4, e5⟩ := h'.2 _ (List.mem_singleton.2 rfl)
 have en : name = [101, 114, 114, 111, 114] := (Option.some.inj e1).symm
 subst en
 obtain rfl := Option.some.inj (rtNo.symm.trans e2)
 have hm : ty ∈ (List.range Tryz.prog.types.size).filter fun t => Tryz.prog.rowNamed t [101, 114, 114, 111, 114] := List.mem_filter.2 ⟨List.mem_range.2 e3, e4⟩
 rw [oneRow] at hm
 obtain rfl := List.mem_singleton.1 hm
 have hh : typeHandle Tryz.prog 41 = .pointer (some ⟨2, 41, none⟩) := by kernel_rfl
 rw [hh] at e5
 simpa using World.var?_cell gEt e5 0
theorem door_met (os : Os) (args : Array Value) : laidMetH Tryz.prog Rows.fnExactParseProgramRow.laid ((World.doorLaid Tryz.prog 16 os).forCall (fun _ _ => 0) ⟨#[], args, []⟩).memory :=
 laidMetH_of_parts (laidMet_nil _ _) (by kernel_rfl)
set_option maxRecDepth 100000 in
theorem liftedP (os : Os) (started : os.Started) (H : Type) (enc : TypeId × Value → H) :
 ReturnsInHanded {} Tryz.checked os 3 .any (fun w args => (Rows.fnExactParseProgramSpec.pre enc Tryz.prog Tryz.f3 [] false w args ∧ laidMetH Tryz.prog Rows.fnExactParseProgramRow.laid w) ∧ sizedMet enc Tryz.prog Tryz.f3 (OpenSpec.ofChange Rows.fnExactParseProgramSpec) false w args)
  (Rows.fnExactParseProgramSpec.post enc Tryz.prog Tryz.f3 false true false false) := by
 refine returns_shaped (C := Tryz.checked) (X := fun w _ => laidMetH Tryz.prog Rows.fnExactParseProgramRow.laid w) (fun _ _ _ hh h => h.of_heap hh) ownD started (by kernel_rfl) Tryz.func3
  (ChangeSpec.witness_shaped (enc := enc) (C := Tryz.checked) (os := os) (X := fun w _ => laidMetH Tryz.prog Rows.fnExactParseProgramRow.laid w) false (World.doorLaid Tryz.prog 16 os) #[.string ⟨#[]⟩] 8 rfl
   (World.shaped_of_RefB (by kernel_rfl) (by kernel_rfl)) (by kernel_rfl) (by kernel_rfl) (by kernel_rfl) (door_met os _)) ?_
 intro W base args ds gs before hval0 hW hsh hL
 have hval : ∀ (j : Nat) t v, Tryz.f3.params[j]? = some t → args[j]? = some v → Value.okWide Tryz.prog W .any base t v := hval0
 have hW' := hW
 obtain ⟨p, q, hA0, hV, rfl, hfz, hnd⟩ := hW
 have hA : DataW.TrodAll enc Tryz.prog W 0 (fun _ => true) true Tryz.f3.params.toList args.toList ds p := hA0
 rw [Tryz.params3] at hA hval
 obtain ⟨v0, d0, rfl, rfl, h0⟩ := trodAll_one hA
 obtain ⟨rfl, rfl⟩ := trodVars_none hV
 obtain ⟨s, rfl, rfl, rfl, hs⟩ := open_string Tryz.underlying9 (hval 0 9 v0 rfl rfl) h0
 obtain ⟨mx, hm⟩ := maxLen_of hsh
 have hg := handle_of_laid hL
 clear hA0 hval0
 simp only [List.append_nil] at hW'
 have hl0 : 0 < W.heap.size := World.block_lt_of_cell? W _ hg
 have hl1 : 1 < W.heap.size := World.block_lt_of_cell? W _ hm
 have h : Calls Tryz.prog 3 #[.string s] W (TrueX W) :=
  lawreadpr s W (fun W2 hb h2 => own_readpr s W2 mx ((hb.cell (p := ⟨1, 0, none⟩) hl1).trans hm) ((hb.cell (p := ⟨0, 0, none⟩) hl0).trans hg) h2)
 refine h.mono fun e W' ⟨he, hnx⟩ => ?_
 subst he
 refine ⟨_, rfl, _, _, _, [], [], [], hW', ?_, ?_, rfl, hnx.frame _, fun h => by cases h⟩
 · exact trodAll_mk1 (shut_bool Tryz.underlying4 _)
 exact trodAll_mk1 (shut_string Tryz.underlying9 hs)
theorem rowP_holds : Rows.FnExactParseProgramSaid :=
 OpenClaim.holds_of_wide 3 Tryz.f3 rfl rfl rfl rfl rfl rfl rfl ⟨rfl, rfl, rfl, rfl, rfl⟩ rfl rfl rfl rfl rfl (by kernel_rfl) Tryz.func3 (by kernel_rfl)
  (of_decide_eq_true (by kernel_rfl)) (by unfold Func.isWrapper; first | (rw [if_pos (by decide +kernel)]; kernel_rfl) | (rw [if_neg (by decide +kernel)]; exact ⟨rfl, rfl⟩))
  (fun os started H enc _ => liftedP os started H enc)
theorem exactParseProgram_holds : Rows.FnExactParseProgramCardSaid :=
 Claim7.holds_tied_plain_at .later [] [.handle] true _ true
  rowP_holds (fun _ h => by cases h) (by kernel_rfl) (fun _ h => by cases h) fnExactParseProgram_row_tie rfl ⟨rfl, rfl⟩ (by kernel_rfl) rfl
  (fun f fn hf hfn => by
   obtain rfl : f = 3 := Option.some.inj ((show Tryz.prog.funcNamed Rows.fnExactParseProgramRow.func = some 3 by kernel_rfl).symm.trans hf) |>.symm
   obtain rfl : fn = Tryz.f3 := (Option.some.inj (Tryz.func3.symm.trans hfn)).symm
   exact ⟨by kernel_rfl, fun j t ht => by
    rw [Tryz.params3] at ht
    have hm : t ∈ [9] := by simpa using Array.mem_of_getElem? ht
    have hall : ([9].all fun u => !Tryz.prog.wantsStandIn u) = true := by kernel_rfl
    exact (show Tryz.prog.wantsStandIn t = false by simpa using List.all_eq_true.1 hall t hm)⟩)
  (by kernel_rfl)
#print axioms exactParseProgram_holds
end Go.Proofs.YthljhiklpopmgaaGreatDoor
