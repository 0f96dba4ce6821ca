/- The walk of the law FnExactFindBinding, from a contract of the program's own function. Conditions: that contract; the arguments lie in memory. The law FnExactFindBinding holds, as given: at every list of bindings and every name of at most 1048576 values and letters the program's function answers as its model, leaves the arguments alone, and its answer owns its memory. No condition of ours. -/
import Derived.Test.YtegigjnlecpplaaBiMark
import Derived.Test.YtegigjnlecpplaaLawBiEqual
import Derived.Test.YtegigjnlecpplaaExHeld
import Derived.Test.YtegigjnlecpplaaMgBent
import Derived.Test.YtegigjnlecpplaaHoldsBase
import Derived.Test.YtegigjnlecpplaaBiOpen
import Derived.Test.YtegigjnlecpplaaMgCopy
import Derived.ProofKit
import Derived.SizedLaws
import Derived.OpenShut
namespace Go.Proofs.Ytegigjnlecpplaa
open Go Go.RowKit

/-- What the program's FindBinding gives. -/
def FindOwn (l : List Bi) (s : ByteArray) (w : World) (r : Ending) (w2 : World) : Prop :=
  ∃ v bs, r = .returned (.tuple #[v, .bool (valOf l s).isSome]) ∧ ExIs w2 v ((valOf l s).getD zeroX) bs ∧ Mine w2 w.heap.size bs ∧ Below w.heap.size w w2
theorem valOf_mem {l : List Bi} {s : ByteArray} {e : Ex} (h : valOf l s = some e) : ∃ r ∈ l, r.val = e := by
  induction l with
  | nil => cases h
  | cons r t ih =>
    rw [valOf] at h
    by_cases hr : r.name = s
    · rw [if_pos hr] at h
      cases h
      exact ⟨r, by simp, rfl⟩
    · rw [if_neg hr] at h
      obtain ⟨x, hx, hv⟩ := ih h
      exact ⟨x, by simp [hx], hv⟩
theorem valOf_small {l : List Bi} (h : bisTot l ≤ 1048576) (s : ByteArray) : exSizes ((valOf l s).getD zeroX).args ≤ 1048576 := by
  cases hv : valOf l s with
  | none => simp [zeroX, Ex.args, exSizes]
  | some e =>
    obtain ⟨r, hr, rfl⟩ := valOf_mem hv
    have h1 := bisTot_mem hr
    have h2 := args_totB r.val
    unfold biTot at h1
    show exSizes r.val.args ≤ _
    omega
def Bx9 (W : World) (B : Nat) (K : Int) (S : ByteArray) (u : Value) : Prop := W.heap[B]? = some (.cells #[.int .i64 K, .string S, u] 26 (0, 0))
theorem Bx9.cells {W : World} {B : Nat} {K : Int} {S : ByteArray} {u : Value} (h : Bx9 W B K S u) : W.cell? ⟨B, 0, none⟩ = some (.int .i64 K) ∧ W.cell? ⟨B, 1, none⟩ = some (.string S) ∧ W.cell? ⟨B, 2, none⟩ = some u ∧ B < W.heap.size := by
  unfold Bx9 at h
  exact ⟨by simp [World.cell?, h], by simp [World.cell?, h], by simp [World.cell?, h], (Array.getElem?_eq_some_iff.1 h).1⟩
theorem Bx9.keep {W W2 : World} {B : Nat} {K : Int} {S : ByteArray} {u : Value} {T : List Nat} (h : Bx9 W B K S u) (hf : Fr T W W2) (hT : B ∉ T) : Bx9 W2 B K S u := (hf.block B h.cells.2.2.2 hT).trans h
theorem OnlyIn.fr9 {a b : World} {bs : List Nat} (h : OnlyIn a b bs) : Fr bs a b := ⟨h.os, h.tape, h.output, h.size, h.block⟩
theorem mine_far {W W2 : World} {B : Nat} {bs S : List Nat} (h : Mine W B bs) (hf : Fr S W W2) (hd : ∀ x ∈ bs, x ∉ S) : Mine W2 B bs := h.keeps ⟨hf.size, fun x hx hlt => hf.block x hlt (hd x hx)⟩

set_option maxRecDepth 100000 in
set_option maxHeartbeats 8000000 in
theorem lawfindb (l : List Bi) (s : ByteArray) (vp : Value) (bsp : List Nat) (w : World) (hp : BlIs w vp l bsp)
    (hO : ∀ (v2 : Value) (b2 : List Nat) (W : World), BlIs W v2 l b2 → bisTot l ≤ 1048576 → Calls Try.prog 23 #[v2, .string s] W (FindOwn l s W)) :
    Calls Try.prog 4 #[vp, .string s] w (TrueX w) := by
  by_cases hbig : s.size ≤ 1048576
  rotate_left
  · have hbi : 1048576 < (s.size : Int) := by omega
    have hbn : 1048576 < s.size := by omega
    obtain ⟨Ap, cp, rfl⟩ := bl_slice hp
    clear hO hp
    go_enter Try.func4, Try.ntmps4
    go_wp2_with fail
    go_ret
    exact ⟨rfl, Below.refl _ _⟩
  have hbi : (s.size : Int) ≤ 1048576 := by omega
  have hbd : decide (1048576 < (s.size : Int)) = false := by simp; omega
  have hbd2 : decide (1048576 < s.size) = false := by simp; omega
  have HZ := Lib.hid (sz_binds l vp bsp w 1048576 hp (by omega) (by omega))
  have HCC := Lib.hid (fun (ht : bisTot l ≤ 1048576) (W : World) (hb : Below w.heap.size w W) => copy_binds l vp bsp W (hp.below hb) (bis_small ht).1 (bis_small ht).2)
  have HO := Lib.hid hO
  have HP := Lib.hid (fun (ht : bisTot l ≤ 1048576) (v2 : Value) (b2 : List Nat) (W : World) (h : BlIs W v2 l b2) => findb_any l v2 b2 s W h (bis_small ht).2 (bis_small ht).1)
  have HSM := Lib.hid (fun (ht : bisTot l ≤ 1048576) => valOf_small ht s)
  obtain ⟨e, he⟩ : ∃ e, e = (valOf l s).getD zeroX := ⟨_, rfl⟩
  obtain ⟨ok, hok⟩ : ∃ ok, ok = (valOf l s).isSome := ⟨_, rfl⟩
  unfold FindOwn at HO
  unfold FindPost at HP
  rw [← he, ← hok] at HO HP
  rw [← he] at HSM
  obtain ⟨Ap, cp, rfl⟩ := bl_slice hp
  clear hp hO he hok hbig
  go_enter Try.func4, Try.ntmps4
  go_wp2_with fail
  go_at_call 26
  refine HZ.out.mono ?_
  rintro r w1 ⟨z, rfl, hb1, hz⟩
  have HW1 := Lib.hid hb1
  clear hb1 HZ
  rcases hz with ⟨rfl, -⟩ | ⟨hz0, hz⟩
  · go_wp2_with fail
    go_ret
    exact ⟨rfl, HW1.out⟩
  have HTA := Lib.hid (show bisTot l ≤ 1048576 by omega)
  have HC := Lib.hid (fun (W : World) (hb : Below w.heap.size w W) => HCC.out HTA.out W hb)
  have HSS := Lib.hid (HSM.out HTA.out)
  clear hz HCC HSM
  go_wp2_with fail
  go_at_call 27
  refine (HC.out _ HW1.out).mono ?_
  rintro r w3 ⟨v3, b3, rfl, hs3, -, hb3⟩
  obtain ⟨A3, c3, rfl⟩ := bl_slice hs3
  have HS3 := Lib.hid hs3
  have HW3 := Lib.hid (HW1.out.trans (hb3.mono HW1.out.size))
  clear hs3 hb3
  go_wp2_with fail
  go_at_call 24
  refine (HP.out HTA.out _ b3 w3 HS3.out).mono ?_
  rintro r w4 ⟨v0, b0, rfl, hf0, hlo0, hb4⟩
  obtain ⟨n0, hn0⟩ : ∃ n0, n0 = e.args.length := ⟨_, rfl⟩
  obtain ⟨⟨u0, rfl, hns, hu0⟩, -⟩ := id hf0
  obtain ⟨A0, c0, rfl, -⟩ := id hu0
  rw [← hn0] at hf0 ⊢
  have hW4 := HW3.out.trans (hb4.mono HW3.out.size)
  have hAl := (Below.refl w4.heap.size w4).alloc (Nat.le_refl _) (.cells #[.int .i64 e.kind, .string e.name, .slice A0 n0 c0] 26)
  have HB4 := Lib.hid (hW4.trans (hAl.mono hW4.size))
  have HX4 := Lib.hid (show Bx9 (w4.alloc (.cells #[.int .i64 e.kind, .string e.name, .slice A0 n0 c0] 26)) w4.heap.size e.kind e.name (.slice A0 n0 c0) from heap_alloc_new _ _)
  have HS4 := Lib.hid (hf0.1.below hAl)
  have HR0 := Lib.hid (fun x (hx : x ∈ b0) => hf0.lt x hx)
  obtain ⟨wb, hwb⟩ : ∃ z, z = w4.heap.size := ⟨_, rfl⟩
  have HW0 := Lib.hid (show w.heap.size ≤ wb by rw [hwb]; exact hW4.size)
  rw [← hwb] at HX4 HR0
  have HWB := Lib.hid (show wb < (w4.alloc (.cells #[.int .i64 e.kind, .string e.name, .slice A0 n0 c0] 26)).heap.size by rw [hwb]; simp)
  clear hf0 hlo0 hb4 hu0 hns hW4 hAl hn0 HS3 HW3
  go_wp2_with fail
  rw [← hwb]
  clear hwb
  generalize w4.alloc (.cells #[.int .i64 e.kind, .string e.name, .slice A0 n0 c0] 26) = W4 at *
  go_at_call 27
  refine (HC.out _ HB4.out).mono ?_
  rintro r w5 ⟨v5, b5, rfl, hs5, hm5, hb5⟩
  obtain ⟨A5, c5, rfl⟩ := bl_slice hs5
  have HL5 := Lib.hid hs5
  have HLM := Lib.hid (hm5.mono (Nat.zero_le _))
  have HLR := Lib.hid (fun x (hx : x ∈ b5) => show wb < x ∧ x < w5.heap.size by have := hm5.range x hx; have := HWB.out; omega)
  have HB5 := Lib.hid (HB4.out.trans (hb5.mono HB4.out.size))
  have HX5 := Lib.hid (HX4.out.keep (Fr.of_below (S := []) hb5) (by simp))
  have HS5 := Lib.hid (HS4.out.below hb5)
  have HZ5 := Lib.hid (Nat.lt_of_lt_of_le HWB.out hb5.size)
  clear hs5 hm5 hb5 HB4 HX4 HS4 HWB
  go_wp2_with fail
  go_at_call 23
  refine (HO.out _ b5 w5 HL5.out HTA.out).mono ?_
  rintro r w6 ⟨vg, bg, rfl, hsg, hmg, hb6⟩
  obtain ⟨ug, rfl, -, hug⟩ := id hsg
  obtain ⟨aG, cg, rfl, -⟩ := id hug
  obtain ⟨ng, hng⟩ : ∃ ng, ng = e.args.length := ⟨_, rfl⟩
  rw [← hng] at hsg ⊢
  have hz6 := hb6.size
  have hAl := (Below.refl w6.heap.size w6).alloc (Nat.le_refl _) (.cells #[.int .i64 e.kind, .string e.name, .slice aG ng cg] 26)
  have hb6a := hb6.trans (hAl.mono hb6.size)
  have HB6 := Lib.hid (HB5.out.trans (hb6a.mono HB5.out.size))
  have HX6 := Lib.hid (HX5.out.keep (Fr.of_below (S := []) hb6a) (by simp))
  have HS6 := Lib.hid (HS5.out.below hb6a)
  have HL6 := Lib.hid (HL5.out.below hb6a)
  have HLM6 := Lib.hid (HLM.out.keeps (keeps_below hb6a b5))
  have HG6 := Lib.hid (show Bx9 (w6.alloc (.cells #[.int .i64 e.kind, .string e.name, .slice aG ng cg] 26)) w6.heap.size e.kind e.name (.slice aG ng cg) from heap_alloc_new _ _)
  have HE6 := Lib.hid (hsg.below hAl)
  have HM6 := Lib.hid ((hmg.mono (Nat.zero_le _)).keeps (keeps_below hAl bg))
  obtain ⟨gb, hgb⟩ : ∃ z, z = w6.heap.size := ⟨_, rfl⟩
  rw [← hgb] at HG6
  have HRG := Lib.hid (fun x (hx : x ∈ bg) => show w5.heap.size ≤ x ∧ x < gb by have := hmg.range x hx; omega)
  have HGB := Lib.hid (show w5.heap.size ≤ gb ∧ gb < (w6.alloc (.cells #[.int .i64 e.kind, .string e.name, .slice aG ng cg] 26)).heap.size by rw [hgb]; simp; omega)
  clear hsg hmg hb6 hug hAl hb6a hng hz6 HB5 HX5 HS5 HL5 HLM
  obtain ⟨x0, x1, x2, xl⟩ := HX6.out.cells
  go_wp2_with fail
  rw [← hgb]
  clear hgb
  generalize w6.alloc (.cells #[.int .i64 e.kind, .string e.name, .slice aG ng cg] 26) = W6 at *
  go_at_call 28
  refine (eq_expr e _ _ bg b0 _ HE6.out HS6.out).mono ?_
  rintro r w7 ⟨rfl, hb7⟩
  have HB7 := Lib.hid (HB6.out.trans (hb7.mono HB6.out.size))
  have HX7 := Lib.hid (HX6.out.keep (Fr.of_below (S := []) hb7) (by simp))
  have HS7 := Lib.hid (HS6.out.below hb7)
  have HL7 := Lib.hid (HL6.out.below hb7)
  have HLM7 := Lib.hid (HLM6.out.keeps (keeps_below hb7 b5))
  have HG7 := Lib.hid (HG6.out.keep (Fr.of_below (S := []) hb7) (by simp))
  have HE7 := Lib.hid (HE6.out.below hb7)
  have HM7 := Lib.hid (HM6.out.keeps (keeps_below hb7 bg))
  clear hb7 HB6 HX6 HS6 HL6 HLM6 HG6 HE6 HM6 x0 x1 x2 xl
  obtain ⟨y0, y1, y2, yl⟩ := HG7.out.cells
  obtain ⟨x0, x1, x2, xl⟩ := HX7.out.cells
  cases ok
  all_goals
    go_wp2_with fail
    go_at_call 27
    refine (HC.out _ HB7.out).mono ?_
    rintro r w8 ⟨v8, b8, rfl, hs8, -, hb8⟩
    obtain ⟨A8, c8, rfl⟩ := bl_slice hs8
    have HL8' := Lib.hid hs8
    have HB8 := Lib.hid (HB7.out.trans (hb8.mono HB7.out.size))
    have HX8 := Lib.hid (HX7.out.keep (Fr.of_below (S := []) hb8) (by simp))
    have HS8 := Lib.hid (HS7.out.below hb8)
    have HL8 := Lib.hid (HL7.out.below hb8)
    have HLM8 := Lib.hid (HLM7.out.keeps (keeps_below hb8 b5))
    have HG8 := Lib.hid (HG7.out.keep (Fr.of_below (S := []) hb8) (by simp))
    have HE8 := Lib.hid (HE7.out.below hb8)
    have HM8 := Lib.hid (HM7.out.keeps (keeps_below hb8 bg))
    clear hs8 hb8 HB7 HX7 HS7 HL7 HLM7 HG7 HE7 HM7 x0 x1 x2 xl y0 y1 y2 yl
    go_wp2_with fail
    go_at_call 29
    refine (eq_binds l _ _ b5 b8 w8 HL8.out HL8'.out).mono ?_
    rintro r w9 ⟨rfl, hb9⟩
    have HB9 := Lib.hid (HB8.out.trans (hb9.mono HB8.out.size))
    have HX9 := Lib.hid (HX8.out.keep (Fr.of_below (S := []) hb9) (by simp))
    have HS9 := Lib.hid (HS8.out.below hb9)
    have HL9 := Lib.hid (HL8.out.below hb9)
    have HLM9 := Lib.hid (HLM8.out.keeps (keeps_below hb9 b5))
    have HG9 := Lib.hid (HG8.out.keep (Fr.of_below (S := []) hb9) (by simp))
    have HE9 := Lib.hid (HE8.out.below hb9)
    have HM9 := Lib.hid (HM8.out.keeps (keeps_below hb9 bg))
    clear hb9 HL8' HB8 HX8 HS8 HL8 HLM8 HG8 HE8 HM8
    go_wp2_with fail
    go_at_call 30
    refine (mark_bis l _ b5 w9 1 HL9.out HLM9.out (by omega) (by omega) HTA.out).mono ?_
    rintro r w10 ⟨rfl, -, ho10, -⟩
    have hwbl := HX9.out.cells.2.2.2
    have HWS := Lib.hid (show w.heap.size ≤ wb ∧ True from ⟨by have := HW0.out; omega, trivial⟩)
    have HB10 := Lib.hid (HB9.out.trans (ho10.fr9.below (fun x hx => by have := (HLR.out x hx).1; have := HWS.out.1; omega) (by have := HB9.out.size; omega)))
    have HX10 := Lib.hid (HX9.out.keep ho10.fr9 (fun hx => by have := (HLR.out _ hx).1; omega))
    have HS10 := Lib.hid (HS9.out.keeps (ho10.keeps (fun x hx hg => by have := HR0.out x hx; have := (HLR.out x hg).1; omega)))
    have HG10 := Lib.hid (HG9.out.keep ho10.fr9 (fun hx => by have := (HLR.out _ hx).2; have := HGB.out.1; omega))
    have HE10 := Lib.hid (HE9.out.keeps (ho10.keeps (fun x hx hg => by have := (HRG.out x hx).1; have := (HLR.out x hg).2; omega)))
    have HM10 := Lib.hid (HM9.out.keeps (ho10.keeps (fun x hx hg => by have := (HRG.out x hx).1; have := (HLR.out x hg).2; omega)))
    obtain ⟨mb, hmb⟩ : ∃ z : Int, z = 1 + (bisW l : Int) := ⟨_, rfl⟩
    rw [← hmb]
    have hmb0 : 0 ≤ mb := by omega
    have hmbd : decide (mb < 0) = false := by simp; omega
    clear hmb ho10 hwbl HB9 HX9 HS9 HL9 HLM9 HG9 HE9 HM9
    obtain ⟨y0, y1, y2, yl⟩ := HG10.out.cells
    obtain ⟨x0, x1, x2, xl⟩ := HX10.out.cells
    go_wp2_with fail
    go_at_call 28
    refine (eq_expr e _ _ bg b0 _ HE10.out HS10.out).mono ?_
    rintro r w11 ⟨rfl, hb11⟩
    have HB11 := Lib.hid (HB10.out.trans (hb11.mono HB10.out.size))
    have HX11 := Lib.hid (HX10.out.keep (Fr.of_below (S := []) hb11) (by simp))
    have HS11 := Lib.hid (HS10.out.below hb11)
    have HG11 := Lib.hid (HG10.out.keep (Fr.of_below (S := []) hb11) (by simp))
    have HE11 := Lib.hid (HE10.out.below hb11)
    have HM11 := Lib.hid (HM10.out.keeps (keeps_below hb11 bg))
    clear hb11 HB10 HX10 HS10 HG10 HE10 HM10 x0 x1 x2 xl y0 y1 y2 yl
    obtain ⟨y0, y1, y2, yl⟩ := HG11.out.cells
    go_wp2_with fail
    go_at_call 31
    refine (mark_expr e _ bg w11 1 HE11.out HM11.out (by omega) (by have := HSS.out; omega)).mono ?_
    rintro r w12 ⟨rfl, hk12, ho12, -⟩
    obtain ⟨mk, hmk⟩ : ∃ mk, mk = 1 + 2 * (exSizes e.args : Int) := ⟨_, rfl⟩
    rw [← hmk]
    have hmk0 : 0 ≤ mk := by omega
    have hmkd : decide (mk < 0) = false := by simp; omega
    have HMK := Lib.hid hmk
    have HB12 := Lib.hid (HB11.out.trans (ho12.fr9.below (fun x hx => by have := (HRG.out x hx).1; have := HZ5.out; have := HW0.out; omega) (by have := HB11.out.size; omega)))
    have HX12 := Lib.hid (HX11.out.keep ho12.fr9 (fun hx => by have := (HRG.out _ hx).1; have := HZ5.out; omega))
    have HS12 := Lib.hid (HS11.out.keeps (ho12.keeps (fun x hx hg => by have := HR0.out x hx; have := (HRG.out x hg).1; have := HZ5.out; omega)))
    have HG12 := Lib.hid (HG11.out.keep ho12.fr9 (fun hx => by have := (HRG.out _ hx).2; omega))
    have HK12 := Lib.hid hk12
    clear hk12 ho12 hmk HB11 HX11 HS11 HG11 HE11 HM11 y0 y1 y2 yl
    obtain ⟨y0, y1, y2, yl⟩ := HG12.out.cells
    go_wp2_with fail
    go_at_call 32
    refine (held_expr e e.kind e.name _ bg w12 1 HK12.out (by omega) (by have := HSS.out; omega)).mono ?_
    rintro r w13 ⟨rfl, hb13⟩
    rw [← HMK.out]
    have HB13 := Lib.hid (HB12.out.trans (hb13.mono HB12.out.size))
    have HX13 := Lib.hid (HX12.out.keep (Fr.of_below (S := []) hb13) (by simp))
    have HS13 := Lib.hid (HS12.out.below hb13)
    have HG13 := Lib.hid (HG12.out.keep (Fr.of_below (S := []) hb13) (by simp))
    have HK13 := Lib.hid (HK12.out.below hb13)
    clear hb13 HB12 HX12 HS12 HG12 HK12 y0 y1 y2 yl
    go_wp2_with fail
    go_at_call 27
    refine (HC.out _ HB13.out).mono ?_
    rintro r w14 ⟨v14, b14, rfl, hs14, -, hb14⟩
    obtain ⟨A14, c14, rfl⟩ := bl_slice hs14
    have HL14 := Lib.hid hs14
    have HB14 := Lib.hid (HB13.out.trans (hb14.mono HB13.out.size))
    have HX14 := Lib.hid (HX13.out.keep (Fr.of_below (S := []) hb14) (by simp))
    have HS14 := Lib.hid (HS13.out.below hb14)
    have HG14 := Lib.hid (HG13.out.keep (Fr.of_below (S := []) hb14) (by simp))
    have HK14 := Lib.hid (HK13.out.below hb14)
    clear hs14 hb14 HB13 HX13 HS13 HG13 HK13
    go_wp2_with fail
    go_at_call 23
    refine (HO.out _ b14 w14 HL14.out HTA.out).mono ?_
    rintro r w15 ⟨vh, bh, rfl, hsh, -, hb15⟩
    obtain ⟨uh, rfl, -, huh⟩ := id hsh
    obtain ⟨aH, ch, rfl, -⟩ := id huh
    have hAl := (Below.refl w15.heap.size w15).alloc (Nat.le_refl _) (.cells #[.int .i64 e.kind, .string e.name, .slice aH e.args.length ch] 26)
    have hb15a := hb15.trans (hAl.mono hb15.size)
    have HB15 := Lib.hid (HB14.out.trans (hb15a.mono HB14.out.size))
    have HX15 := Lib.hid (HX14.out.keep (Fr.of_below (S := []) hb15a) (by simp))
    have HG15 := Lib.hid (HG14.out.keep (Fr.of_below (S := []) hb15a) (by simp))
    have HK15 := Lib.hid (HK14.out.below hb15a)
    have HEQ := Lib.hid (eq_expr e _ _ bh b0 _ (hsh.below hAl) (HS14.out.below hb15a))
    clear hsh hb15 huh hAl hb15a HB14 HX14 HS14 HG14 HK14 HL14
    obtain ⟨x0, x1, x2, xl⟩ := HX15.out.cells
    go_wp2_with fail
    go_at_call 28
    refine HEQ.out.mono ?_
    rintro r w16 ⟨rfl, hb16⟩
    have HB16 := Lib.hid (HB15.out.trans (hb16.mono HB15.out.size))
    have HG16 := Lib.hid (HG15.out.keep (Fr.of_below (S := []) hb16) (by simp))
    have HK16 := Lib.hid (HK15.out.below hb16)
    clear hb16 HEQ HB15 HX15 HG15 HK15 x0 x1 x2 xl
    obtain ⟨y0, y1, y2, yl⟩ := HG16.out.cells
    go_wp2_with fail
    go_at_call 32
    refine (held_expr e e.kind e.name _ bg w16 1 HK16.out (by omega) (by have := HSS.out; omega)).mono ?_
    rintro r w17 ⟨rfl, hb17⟩
    rw [← HMK.out]
    have HB17 := Lib.hid (HB16.out.trans (hb17.mono HB16.out.size))
    clear hb17
    go_wp2_with fail
    go_ret
    exact ⟨rfl, HB17.out⟩
end Go.Proofs.Ytegigjnlecpplaa

namespace Go.Proofs.Ytegigjnlecpplaa
open Go Go.ChangeShapes Go.WideShapes Go.ChangeAt Go.RowKit
open Go.ChangeMaps (open_string shut_string)

set_option maxRecDepth 100000 in
theorem liftedFindBinding (os : Os) (started : os.Started) (H : Type) (enc : TypeId × Value → H) :
    ReturnsInHanded {} Try.checked os 4 .any (Rows.fnExactFindBindingSpec.pre6 enc Try.prog Try.f4 Rows.fnExactFindBindingRow.domain false) (Rows.fnExactFindBindingSpec.post enc Try.prog Try.f4 false true false false) := by
  refine returnsInHanded_of_change_sized (C := Try.checked) own started (by kernel_rfl) Try.func4
    (ChangeSpec.witness6 (enc := enc) (C := Try.checked) false ⟨#[], #[.slice none 0 0, .string ⟨#[]⟩], []⟩ 8 (by kernel_rfl) (by kernel_rfl) (by kernel_rfl) (by kernel_rfl)) ?_
  intro W base args ds gs before hval0 hW _ hsz0 _
  clear hsz0
  have hval : ∀ (j : Nat) t v, Try.f4.params[j]? = some t → args[j]? = some v → Value.okWide Try.prog W .any base t v := hval0
  have hW' := hW
  obtain ⟨p, q, hA0, hV, rfl, _, _⟩ := hW
  have hA : DataW.TrodAll enc Try.prog W 0 (fun _ => true) true Try.f4.params.toList args.toList ds p := hA0
  rw [Try.params4] at hA hval
  obtain ⟨v0, v1, d0, d1, p0, p1, rfl, rfl, rfl, h0, h1⟩ := trodAll_two hA
  obtain ⟨rfl, rfl⟩ := trodVars_none hV
  clear hA0 hval0
  simp only [List.append_nil] at hW'
  have hlt : ∀ x ∈ p0 ++ p1, x.block < W.heap.size := fun x hx => by simpa using hW'.lt x hx
  have hargs0 : ∀ (W' : World), Below W.heap.size W W' → DataW.Trod enc Try.prog W' 0 (fun b => decide (b < W.heap.size)) true 41 v0 d0 p0 :=
    fun W' hn => Below.trod laidOut (by kernel_rfl) (of_decide_eq_true (by kernel_rfl)) h0 hn (fun x hx => hlt x (by simp [hx]))
  obtain ⟨l0, bs0, he0⟩ := read_binds (hval 0 41 v0 rfl rfl) h0
  obtain ⟨s, rfl, rfl, rfl, hs⟩ := open_string Try.underlying9 (hval 1 9 v1 rfl rfl) h1
  have h : Calls Try.prog 4 #[v0, .string s] W (TrueX W) := lawfindb l0 s v0 bs0 W he0 (fun x b2 W2 h2 ht => own_findb l0 x b2 s W2 h2 (fun r hr => by
    have h3 := (bis_small ht).1 r hr
    have h4 := bisTot_mem hr
    have h5 := (tot_size (exSize r.val)).1 r.val (Nat.le_refl _)
    unfold biTot at h4
    omega))
  refine h.mono fun e W' ⟨he, hnx⟩ => ?_
  subst he
  refine ⟨_, rfl, _, _, _, [], p0 ++ [], [], hW', ?_, ?_, rfl, hnx.frame _, fun h => by cases h⟩
  · exact trodAll_mk1 (shut_bool Try.underlying4 _)
  · exact trodAll_mk2 (hargs0 _ hnx) (shut_string Try.underlying9 hs)

/-- The law FnExactFindBinding. -/
theorem findbinding_holds : Rows.FnExactFindBindingSaid :=
  OpenClaim.holds_of_wide 4 Try.f4 rfl rfl rfl rfl rfl rfl rfl ⟨rfl, rfl, rfl, rfl, rfl⟩ rfl rfl rfl rfl rfl (by kernel_rfl) Try.func4 (by kernel_rfl)
    (of_decide_eq_true (by kernel_rfl)) (by unfold Func.isWrapper; first | (rw [if_pos (by decide +kernel)]; kernel_rfl) | (rw [if_neg (by decide +kernel)]; exact ⟨rfl, rfl⟩))
    (fun os started H enc _ => liftedFindBinding os started H enc)
end Go.Proofs.Ytegigjnlecpplaa
