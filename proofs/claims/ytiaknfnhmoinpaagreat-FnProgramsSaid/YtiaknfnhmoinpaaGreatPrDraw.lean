/- A part of the proof of the seat's statement: PrDraw. Condition: as each says. -/
import Derived.Test.YtiaknfnhmoinpaaGreatDrawOnce
import Derived.WalkSpells
import Derived.WalkLawsBesides
import Derived.Deep.QuietTactic
import Derived.BigQuiet
import Derived.Deep.RegionHeld3
import Derived.Test.YtiaknfnhmoinpaaGreatRuSz
import Derived.Test.YtiaknfnhmoinpaaGreatNames
import Derived.Test.YtiaknfnhmoinpaaGreatSpecJoin
import Derived.Test.YtiaknfnhmoinpaaGreatRuFits
import Derived.Test.YtiaknfnhmoinpaaGreatRKids
import Derived.Test.YtiaknfnhmoinpaaGreatPrExpr
import Derived.Test.YtiaknfnhmoinpaaGreatThaw
set_option maxHeartbeats 8000000
namespace Go.Proofs.YtiaknfnhmoinpaaGreat
open Go Go.RowKit
def Drawn (w' : World) (v : Value) (l : List Ru) (bs : List Nat) : Prop := PrIs w' v l bs ∧ Thawed w' bs ∧ MidPr l
theorem Drawn.keeps {W W2 : World} {v : Value} {l : List Ru} {bs : List Nat} (h : Drawn W v l bs) (hk : Keeps W W2 bs) : Drawn W2 v l bs :=
 ⟨h.1.keeps hk, fun x hx => ⟨nL (h.2.1 x hx).1 hk.1, fun o => (World.frozen?_of_block (w := W) (a := ⟨x, o, none⟩) (hk.2 x hx (h.2.1 x hx).1)).trans ((h.2.1 x hx).2 o)⟩, h.2.2⟩
theorem Drawn.below {W W2 : World} {v : Value} {l : List Ru} {bs : List Nat} (h : Drawn W v l bs) (hb : Below W.heap.size W W2) : Drawn W2 v l bs := h.keeps (keeps_below hb bs)
theorem Dr.drawn {base : Nat} {W : World} {v : Value} {l : List Ru} {bs : List Nat} (h : Dr base W v l bs) (hm : MidPr l) : Drawn W (.agg #[v]) l bs := ⟨⟨v, rfl, h.1⟩, fun x hx => ⟨(h.2 x hx).2.1, (h.2 x hx).2.2⟩, hm⟩
def DrawPPost (w : World) (r : Ending) (w' : World) : Prop := ∃ v l bs, r = .returned v ∧ Drawn w' v l bs ∧ (∀ x ∈ bs, w.heap.size ≤ x) ∧ Below w.heap.size w w'
structure Dw (w : World) (A : Option Addr) (zs : List Int) (cap g : Nat) (W : World) : Prop where
 low : Below w.heap.size w W
 res : ∃ x, PBox W w.heap.size x
 cur : Cur W g A zs.length cap
 bytes : Bytes W w.heap.size A zs
 up : w.heap.size + 1 ≤ g
theorem Dw.call {w : World} {A : Option Addr} {zs : List Int} {cap g : Nat} {W W2 : World} (h : Dw w A zs cap g W) (hc : Cur W2 g A zs.length cap) (ho : Only g W W2) : Dw w A zs cap g W2 := by
 have hu := h.up
 have hl := h.cur.lt
 obtain ⟨x, hx⟩ := h.res
 exact ⟨h.low.trans (ho.below (B := w.heap.size) (by omega) (by omega)), ⟨x, hx.only ho (by omega)⟩, hc, h.bytes.only ho (by omega) (by omega), hu⟩
theorem Dw.below {w : World} {A : Option Addr} {zs : List Int} {cap g : Nat} {W W2 : World} (h : Dw w A zs cap g W) (hb : Below W.heap.size W W2) : Dw w A zs cap g W2 := h.call (h.cur.below hb) (Only.ofBelow hb)
theorem Dw.alloc {w : World} {A : Option Addr} {zs : List Int} {cap g : Nat} {W : World} (h : Dw w A zs cap g W) (o : Obj) : Dw w A zs cap g (W.alloc o) := h.below ((wB _ _).alloc (nR _) o)
theorem new_begin (A : Option Addr) (zs : List Int) (cap : Nat) (w : World) (hs : Bytes w w.heap.size A zs) (hn : zs.length ≤ 1048576) :
 Calls Tryz.prog 22 #[.slice A zs.length cap] (w.alloc (.cells #[.slice none 0 0] 26)) (fun r w1 => ∃ g, r = .returned (.pointer (some ⟨g, 0, none⟩)) ∧ Dw w A zs cap g w1) := by
 have hw0 := (wB w.heap.size w).alloc (nR _) (.cells #[.slice none 0 0] 26)
 have hs0 : Bytes (w.alloc (.cells #[.slice none 0 0] 26)) (w.heap.size + 1) A zs := fun i z hz => by
  obtain ⟨a, h1, h2, h3, h4, h5⟩ := (hs.below hw0) i z hz
  exact ⟨a, h1, h2, h3, h4, by omega⟩
 refine (new_any (w.heap.size + 1) A zs cap _ hs0 (by simp) hn).mono ?_
 rintro r w1 ⟨g, rfl, hc1, hg1, hb1⟩
 exact ⟨g, rfl, hw0.trans (hb1.mono (Nat.le_succ _)), ⟨_, (hb1.block w.heap.size (Nat.lt_succ_self _)).trans (PBox.new w (.slice none 0 0))⟩, hc1, (hs.below hw0).below (hb1.mono (Nat.le_succ _)), hg1⟩
theorem Dw.bent {w : World} {A : Option Addr} {zs : List Int} {cap g : Nat} {W : World} (h : Dw w A zs cap g W) (hn : zs.length ≤ 1048576) : Calls Tryz.prog 21 #[.pointer (some ⟨g, 0, none⟩)] W (BentPPost g A zs.length cap W) :=
 bentp_any w.heap.size g A zs cap W h.bytes (Nat.le_of_succ_le h.up) h.cur hn
theorem Dw.fin {w : World} {A : Option Addr} {zs : List Int} {cap g : Nat} {W : World} {v : Value} {l : List Ru} {bs : List Nat} (h : Dw w A zs cap g W) (hd : Drawn W (.agg #[v]) l bs) (hl : ∀ x ∈ bs, w.heap.size < x) :
 Drawn (W.setCell ⟨w.heap.size, 0, none⟩ v) (.agg #[v]) l bs ∧ Below w.heap.size w (W.setCell ⟨w.heap.size, 0, none⟩ v) ∧ (W.setCell ⟨w.heap.size, 0, none⟩ v).cell? ⟨w.heap.size, 0, none⟩ = some v := by
 obtain ⟨x, hx⟩ := h.res
 exact ⟨hd.keeps (keeps_set (fun y hy e => by have := hl y hy; have e2 : y = w.heap.size := e; omega)), h.low.setCell (p := ⟨w.heap.size, 0, none⟩) (nR _) _, (hx.set v).facts.1⟩
theorem draw_valid (A : Option Addr) (zs : List Int) (cap : Nat) (w : World) (hs : Bytes w w.heap.size A zs) (hn : zs.length ≤ 1048576) :
 Calls Tryz.prog 5 #[.slice A zs.length cap] w (DrawPPost w) := by
 have HNW := zH (new_begin A zs cap w hs hn)
 have HBT := zH (fun (g : Nat) (X : World) (h : Dw w A zs cap g X) => h.bent hn)
 clear hs hn
 generalize hq : zs.length = q at *
 go_enter Tryz.func5, Tryz.ntmps5
 go_wp2_with fail
 go_at_call 22
 refine HNW.out.mono ?_
 rintro r w1 ⟨g, rfl, hd1⟩
 have HD1 := zH hd1
 clear hd1
 go_wp2_with fail
 go_at_call 21
 refine (HBT.out g w1 HD1.out).mono ?_
 rintro r w2 ⟨v, l, bs, rfl, hd, hm, hc2, ho2⟩
 obtain ⟨A2, c2, rfl, -⟩ := id hd.1
 have HD2 := zH (HD1.out.call (by rw [hq]; exact hc2) ho2)
 obtain ⟨h1, h2, h3⟩ := HD2.out.fin (hd.drawn hm) (fun x hx => by have := (hd.2 x hx).1; have := HD1.out.cur.lt; have := HD1.out.up; omega)
 obtain ⟨x9, hx9⟩ := HD2.out.res
 obtain ⟨q0, qf, ql⟩ := hx9.facts
 have H9 := zH (aI h1 (aI (show ∀ x ∈ bs, w.heap.size ≤ x from fun x hx => by have := (hd.2 x hx).1; have := HD1.out.low.size; omega) h2))
 clear hd hm hc2 ho2 h1 h2 hx9
 go_wp2_with fail
 refine bP (v := .agg #[.slice A2 l.length c2]) (by simp [results, Tryz.results5, go_sem, h3]) rfl ?_
 exact ⟨_, l, bs, rfl, H9.out.1, H9.out.2.1, H9.out.2.2⟩
structure Dq (w : World) (A : Option Addr) (zs : List Int) (cap g P : Nat) (v : Value) (l : List Ru) (bs : List Nat) (X : World) : Prop where
 dw : Dw w A zs cap g X
 box : PBox X P v
 is : Drawn X (.agg #[v]) l bs
 ne : P ≠ g ∧ P ≠ w.heap.size
 out : ∀ x ∈ bs, w.heap.size < x ∧ x ≠ g
theorem Dq.call {w : World} {A : Option Addr} {zs : List Int} {cap g P : Nat} {v : Value} {l : List Ru} {bs : List Nat} {W W2 : World} (h : Dq w A zs cap g P v l bs W) (hc : Cur W2 g A zs.length cap) (ho : Only g W W2) : Dq w A zs cap g P v l bs W2 :=
 ⟨h.dw.call hc ho, h.box.only ho h.ne.1, h.is.keeps (keeps_only ho (fun hx => (h.out g hx).2 rfl)), h.ne, h.out⟩
theorem Dq.drew {w : World} {A : Option Addr} {zs : List Int} {cap g P : Nat} {v : Value} {l : List Ru} {bs : List Nat} {W : World} (h : Dq w A zs cap g P v l bs W) : Dq w A zs cap g P v l bs W.drew := h.call (h.dw.cur.below (wB _ _).drew) (Only.ofBelow (wB _ _).drew)
theorem Dq.below {w : World} {A : Option Addr} {zs : List Int} {cap g P : Nat} {v : Value} {l : List Ru} {bs : List Nat} {W W2 : World} (h : Dq w A zs cap g P v l bs W) (hb : Below W.heap.size W W2) : Dq w A zs cap g P v l bs W2 := h.call (h.dw.cur.below hb) (Only.ofBelow hb)
theorem Dq.alloc {w : World} {A : Option Addr} {zs : List Int} {cap g P : Nat} {v : Value} {l : List Ru} {bs : List Nat} {W : World} (h : Dq w A zs cap g P v l bs W) (o : Obj) : Dq w A zs cap g P v l bs (W.alloc o) := h.below ((wB _ _).alloc (nR _) o)
theorem Dq.weak {w : World} {A : Option Addr} {zs : List Int} {cap g P : Nat} {v : Value} {l : List Ru} {bs : List Nat} {W : World} (h : Dq w A zs cap g P v l bs W) : W.cell? ⟨P, 0, none⟩ = some v ∧ Hid (Dq w A zs cap g P v l bs W) := ⟨h.box.facts.1, zH h⟩
theorem Dq.put {w : World} {A : Option Addr} {zs : List Int} {cap g P : Nat} {v : Value} {l : List Ru} {bs : List Nat} {W : World} (h : Dq w A zs cap g P v l bs W) (u : Value) : Dq w A zs cap g P v l bs (W.setCell ⟨w.heap.size, 0, none⟩ u) := by
 obtain ⟨x, hx⟩ := h.dw.res
 have hu := h.dw.up
 obtain ⟨k, y, hk, hr⟩ := h.dw.cur
 refine ⟨⟨h.dw.low.setCell (p := ⟨w.heap.size, 0, none⟩) (nR _) _, ⟨u, hx.set u⟩, ⟨k, y, hk, (Below.heap_setCell W ⟨w.heap.size, 0, none⟩ u g (by simp; omega)).trans hr⟩, fun i z hz => ?_, hu⟩, (Below.heap_setCell W ⟨w.heap.size, 0, none⟩ u P (by simpa using h.ne.2)).trans h.box, h.is.keeps (keeps_set (fun y hy e => by have := (h.out y hy).1; have e2 : y = w.heap.size := e; omega)), h.ne, h.out⟩
 obtain ⟨a, h1, h2, h3, h4, h5⟩ := h.dw.bytes i z hz
 exact ⟨a, h1, (World.cell?_of_block (w := W) (a := a.add i) (Below.heap_setCell W ⟨w.heap.size, 0, none⟩ u _ (by rw [block_addD]; simp; omega))).trans h2, h3, h4, h5⟩
def DrawKPost (w : World) (r : Ending) (w' : World) : Prop := ∃ v s l bs, r = .returned (.tuple #[v, .string s]) ∧ Drawn w' v l bs ∧ (∀ x ∈ bs, w.heap.size ≤ x) ∧ s.size ≤ 3 ∧ Below w.heap.size w w'
theorem draw_kind (A : Option Addr) (zs : List Int) (cap : Nat) (w : World) (hs : Bytes w w.heap.size A zs) (hn : zs.length ≤ 1048576) :
 Calls Tryz.prog 34 #[.slice A zs.length cap] w (DrawKPost w) := by
 have HNW := zH (new_begin A zs cap w hs hn)
 have HBT := zH (fun (g : Nat) (X : World) (h : Dw w A zs cap g X) => h.bent hn)
 have HWD := zH (fun (g : Nat) (X : World) (h : Dw w A zs cap g X) => wd_any w.heap.size g A zs cap X h.bytes (Nat.le_of_succ_le h.up) h.cur hn)
 clear hs hn
 generalize hq : zs.length = q at *
 go_enter Tryz.func34, Tryz.ntmps34
 go_wp2_with fail
 go_at_call 22
 refine HNW.out.mono ?_
 rintro r w1 ⟨g, rfl, hd1⟩
 have HD1 := zH hd1
 clear hd1
 go_wp2_with fail
 go_at_call 21
 refine (HBT.out g w1 HD1.out).mono ?_
 rintro r w2 ⟨v, l, bs, rfl, hd, hm, hc2, ho2⟩
 obtain ⟨A2, c2, rfl, -⟩ := id hd.1
 have HD2 := zH (HD1.out.call (by rw [hq]; exact hc2) ho2)
 have HDR := zH (aI (hd.drawn hm) (show ∀ x ∈ bs, w.heap.size < x ∧ x ≠ g from fun x hx => by have := (hd.2 x hx).1; have := HD1.out.cur.lt; have := HD1.out.up; omega))
 clear hd hm hc2 ho2
 have HQ := zH (show Dq w A zs cap g w2.heap.size (.slice A2 l.length c2) l bs (w2.alloc (.cells #[.slice A2 l.length c2] 26)) from
  ⟨HD2.out.alloc _, PBox.new w2 _, HDR.out.1.below ((wB _ _).alloc (nR _) _), ⟨by have := HD2.out.cur.lt; omega, by have := HD2.out.res.choose_spec.facts.2.2; omega⟩, HDR.out.2⟩)
 have HW3 := zH (HWD.out g _ HQ.out.drew.dw)
 go_wp2_with fail
 go_region_held3 (fun X => X.cell? ⟨w2.heap.size, 0, none⟩ = some (.slice A2 l.length c2) ∧ Hid (Dq w A zs cap g w2.heap.size (.slice A2 l.length c2) l bs X))
  (first | exact HQ.out.drew.weak | exact HQ3.out.weak | exact (HQ3.out.put _).weak)
  (first | (go_at_call 38; refine HW3.out.mono ?_; rintro r3 w3 ⟨s, rfl, hs3, hc3, ho3⟩; have HQ3 := zH (HQ.out.drew.call (by rw [hq]; exact hc3) ho3); have HS3 := zH hs3; obtain ⟨x9, hx9⟩ := HQ3.out.dw.res; obtain ⟨q0, qf, ql⟩ := hx9.facts; clear hc3 ho3 hs3))
 have hfin := (hx9.set (.slice A2 l.length c2)).facts.1
 have HF := zH (HQ3.out.put (.slice A2 l.length c2))
 clear hx9
 go_wp2_with fail
 refine bP (v := .tuple #[.agg #[.slice A2 l.length c2], .string s]) (by simp [results, Tryz.results34, go_sem, hfin]) rfl ?_
 exact ⟨_, s, l, bs, rfl, HF.out.is, fun x hx => Nat.le_of_lt (HF.out.out x hx).1, HS3.out, HF.out.dw.low⟩
theorem draw_con (A : Option Addr) (zs : List Int) (cap : Nat) (w : World) (hs : Bytes w w.heap.size A zs) (hn : zs.length ≤ 1048576) :
 Calls Tryz.prog 12 #[.slice A zs.length cap] w (DrawKPost w) := by
 have hw0 := (wB w.heap.size w).alloc (nR _) (.cells #[.slice none 0 0] 26)
 have HK := zH (draw_kind A zs cap (w.alloc (.cells #[.slice none 0 0] 26)) (fun i z hz => by
  obtain ⟨a, h1, h2, h3, h4, h5⟩ := (hs.below hw0) i z hz
  exact ⟨a, h1, h2, h3, h4, by simp; omega⟩) hn)
 have HW0 := zH hw0
 have HBX := zH (PBox.new w (.slice none 0 0))
 clear hs hn hw0
 generalize hq : zs.length = q at *
 go_enter Tryz.func12, Tryz.ntmps12
 go_wp2_with fail
 go_at_call 34
 refine HK.out.mono ?_
 rintro r w2 ⟨v, s, l, bs, rfl, hd, hlo, hs3, hb2⟩
 obtain ⟨u, rfl, hu⟩ := id hd.1
 obtain ⟨A2, c2, rfl, -⟩ := id hu
 have hbx := HBX.out.below hb2
 obtain ⟨q0, qf, ql⟩ := hbx.facts
 have hfin := (hbx.set (.slice A2 l.length c2)).facts.1
 have HF := zH (aI (hd.keeps (W2 := w2.setCell ⟨w.heap.size, 0, none⟩ (.slice A2 l.length c2)) (keeps_set (fun y hy e => by have := hlo y hy; have e2 : y = w.heap.size := e; simp at this; omega))) (aI (show ∀ x ∈ bs, w.heap.size ≤ x from fun x hx => by have := hlo x hx; simp at this; omega) (aI hs3 ((HW0.out.trans (hb2.mono (by simp))).setCell (p := ⟨w.heap.size, 0, none⟩) (nR _) (.slice A2 l.length c2)))))
 clear hd hlo hs3 hb2 hu hbx
 go_wp2_with fail
 refine bP (v := .tuple #[.agg #[.slice A2 l.length c2], .string s]) (by simp [results, Tryz.results12, go_sem, hfin]) rfl ?_
 exact ⟨_, s, l, bs, rfl, HF.out.1, HF.out.2.1, HF.out.2.2.1, HF.out.2.2.2⟩
def DrawFPost (w : World) (r : Ending) (w' : World) : Prop := ∃ v s t l bs, r = .returned (.tuple #[v, .string s, .string t]) ∧ Drawn w' v l bs ∧ (∀ x ∈ bs, w.heap.size ≤ x) ∧ Below w.heap.size w w'
def fcons : List ByteArray := [⟨#[78]⟩, ⟨#[67]⟩, ⟨#[90]⟩, ⟨#[83]⟩, ⟨#[]⟩]
theorem draw_find (A : Option Addr) (zs : List Int) (cap : Nat) (w : World) (hs : Bytes w w.heap.size A zs) (hn : zs.length ≤ 1048576) :
 Calls Tryz.prog 14 #[.slice A zs.length cap] w (DrawFPost w) := by
 have HNW := zH (new_begin A zs cap w hs hn)
 have HBT := zH (fun (g : Nat) (X : World) (h : Dw w A zs cap g X) => h.bent hn)
 have HWD := zH (fun (g : Nat) (X : World) (h : Dw w A zs cap g X) => wd_any w.heap.size g A zs cap X h.bytes (Nat.le_of_succ_le h.up) h.cur hn)
 have HPK := zH (fun (g b : Nat) (X : World) (h : Dw w A zs cap g X) (hr : Row X b 9 (fcons.map Value.string)) (hne : b ≠ g) => pick_any w.heap.size g b A zs cap 5 fcons X h.bytes (Nat.le_of_succ_le h.up) h.cur hn hr hne (by decide) (by decide))
 clear hs hn
 generalize hq : zs.length = q at *
 go_enter Tryz.func14, Tryz.ntmps14
 go_wp2_with fail
 go_at_call 22
 refine HNW.out.mono ?_
 rintro r w1 ⟨g, rfl, hd1⟩
 have HD1 := zH hd1
 clear hd1
 go_wp2_with fail
 go_at_call 21
 refine (HBT.out g w1 HD1.out).mono ?_
 rintro r w2 ⟨v, l, bs, rfl, hd, hm, hc2, ho2⟩
 obtain ⟨A2, c2, rfl, -⟩ := id hd.1
 have HD2 := zH (HD1.out.call (by rw [hq]; exact hc2) ho2)
 have HDR := zH (aI (hd.drawn hm) (show ∀ x ∈ bs, w.heap.size < x ∧ x ≠ g from fun x hx => by have := (hd.2 x hx).1; have := HD1.out.cur.lt; have := HD1.out.up; omega))
 clear hd hm hc2 ho2
 have HQ := zH (show Dq w A zs cap g w2.heap.size (.slice A2 l.length c2) l bs (w2.alloc (.cells #[.slice A2 l.length c2] 26)) from
  ⟨HD2.out.alloc _, PBox.new w2 _, HDR.out.1.below ((wB _ _).alloc (nR _) _), ⟨by have := HD2.out.cur.lt; omega, by have := HD2.out.res.choose_spec.facts.2.2; omega⟩, HDR.out.2⟩)
 go_wp2_with fail
 go_at_call 38
 refine (HWD.out g _ HQ.out.dw).mono ?_
 rintro r3 w3 ⟨s, rfl, hs3, hc3, ho3⟩
 have HQ3 := zH (HQ.out.call (by rw [hq]; exact hc3) ho3)
 clear hc3 ho3 hs3
 have hg3 : w3.drew.heap.size ≠ g := by have h9 := HQ3.out.dw.cur.lt; have e : w3.drew.heap.size = w3.heap.size := rfl; omega
 have HP3 := zH (HPK.out g w3.drew.heap.size (w3.drew.alloc (.cells (fcons.map Value.string).toArray 9)) (HQ3.out.drew.alloc _).dw (Row.new w3.drew 9 _) hg3)
 go_wp2_with fail
 go_region_held3 (fun X => X.cell? ⟨w2.heap.size, 0, none⟩ = some (.slice A2 l.length c2) ∧ Hid (Dq w A zs cap g w2.heap.size (.slice A2 l.length c2) l bs X))
  (first | exact HQ3.out.drew.weak | exact (HQ3.out.drew.alloc _).weak | exact HQ4.out.weak | exact (HQ4.out.put _).weak)
  (first | (go_at_call 39; refine HP3.out.mono ?_; rintro r4 w4 ⟨t, ht, rfl, hc4, ho4⟩; have HQ4 := zH ((HQ3.out.drew.alloc (.cells (fcons.map Value.string).toArray 9)).call (by rw [hq]; exact hc4) ho4); obtain ⟨x9, hx9⟩ := HQ4.out.dw.res; obtain ⟨q0, qf, ql⟩ := hx9.facts; clear hc4 ho4 ht))
 have hfin := (hx9.set (.slice A2 l.length c2)).facts.1
 have HF := zH (HQ4.out.put (.slice A2 l.length c2))
 clear hx9
 go_wp2_with fail
 refine bP (v := .tuple #[.agg #[.slice A2 l.length c2], .string s, .string t]) (by simp [results, Tryz.results14, go_sem, hfin]) rfl ?_
 exact ⟨_, s, t, l, bs, rfl, HF.out.is, fun x hx => Nat.le_of_lt (HF.out.out x hx).1, HF.out.dw.low⟩
end Go.Proofs.YtiaknfnhmoinpaaGreat
