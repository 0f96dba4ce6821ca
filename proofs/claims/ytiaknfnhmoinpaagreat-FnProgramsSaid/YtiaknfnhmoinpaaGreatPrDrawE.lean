/- A part of the proof of the seat's statement: PrDrawE. Condition: as each says. -/
import Derived.Test.YtiaknfnhmoinpaaGreatPrDraw
set_option maxHeartbeats 8000000
namespace Go.Proofs.YtiaknfnhmoinpaaGreat
open Go Go.RowKit
structure De (w : World) (A : Option Addr) (zs : List Int) (cap g : Nat) (W : World) : Prop where
 low : Below w.heap.size w W
 res : ∃ x, PBox W w.heap.size x
 res2 : ∃ v0 v1 v2, Row W (w.heap.size + 1) 32 [v0, v1, v2]
 cur : Cur W g A zs.length cap
 bytes : Bytes W w.heap.size A zs
 up : w.heap.size + 2 ≤ g
theorem De.call {w : World} {A : Option Addr} {zs : List Int} {cap g : Nat} {W W2 : World} (h : De w A zs cap g W) (hc : Cur W2 g A zs.length cap) (ho : Only g W W2) : De w A zs cap g W2 := by
 have hu := h.up
 have hl := h.cur.lt
 obtain ⟨x, hx⟩ := h.res
 obtain ⟨v0, v1, v2, hr⟩ := h.res2
 exact ⟨h.low.trans (ho.below (B := w.heap.size) (by omega) (by omega)), ⟨x, hx.only ho (by omega)⟩, ⟨v0, v1, v2, hr.only ho (by omega)⟩, hc, h.bytes.only ho (by omega) (by omega), hu⟩
theorem De.below {w : World} {A : Option Addr} {zs : List Int} {cap g : Nat} {W W2 : World} (h : De w A zs cap g W) (hb : Below W.heap.size W W2) : De w A zs cap g W2 := h.call (h.cur.below hb) (Only.ofBelow hb)
theorem De.alloc {w : World} {A : Option Addr} {zs : List Int} {cap g : Nat} {W : World} (h : De w A zs cap g W) (o : Obj) : De w A zs cap g (W.alloc o) := h.below ((wB _ _).alloc (nR _) o)
theorem new_begin2 (A : Option Addr) (zs : List Int) (cap : Nat) (w : World) (hs : Bytes w w.heap.size A zs) (hn : zs.length ≤ 1048576) :
 Calls Tryz.prog 22 #[.slice A zs.length cap] ((w.alloc (.cells #[.slice none 0 0] 26)).alloc (.cells #[.int .i64 0, .string ⟨#[]⟩, .slice none 0 0] 32)) (fun r w1 => ∃ g, r = .returned (.pointer (some ⟨g, 0, none⟩)) ∧ De w A zs cap g w1) := by
 have hw0 := ((wB w.heap.size w).alloc (nR _) (.cells #[.slice none 0 0] 26)).alloc (by simp) (.cells #[.int .i64 0, .string ⟨#[]⟩, .slice none 0 0] 32)
 have hs0 : Bytes ((w.alloc (.cells #[.slice none 0 0] 26)).alloc (.cells #[.int .i64 0, .string ⟨#[]⟩, .slice none 0 0] 32)) (w.heap.size + 2) A zs := fun i z hz => by
  obtain ⟨a, h1, h2, h3, h4, h5⟩ := (hs.below hw0) i z hz
  exact ⟨a, h1, h2, h3, h4, by omega⟩
 have hp : PBox ((w.alloc (.cells #[.slice none 0 0] 26)).alloc (.cells #[.int .i64 0, .string ⟨#[]⟩, .slice none 0 0] 32)) w.heap.size (.slice none 0 0) := (PBox.new w (.slice none 0 0)).below ((wB _ _).alloc (nR _) _)
 have hr : Row ((w.alloc (.cells #[.slice none 0 0] 26)).alloc (.cells #[.int .i64 0, .string ⟨#[]⟩, .slice none 0 0] 32)) (w.heap.size + 1) 32 [.int .i64 0, .string ⟨#[]⟩, .slice none 0 0] := by
  have h := Row.new (w.alloc (.cells #[.slice none 0 0] 26)) 32 [.int .i64 0, .string ⟨#[]⟩, .slice none 0 0]
  simp only [World.size_alloc] at h
  exact h
 refine (new_any (w.heap.size + 2) A zs cap _ hs0 (by simp) hn).mono ?_
 rintro r w1 ⟨g, rfl, hc1, hg1, hb1⟩
 exact ⟨g, rfl, hw0.trans (hb1.mono (by omega)), ⟨_, (hb1.block w.heap.size (by omega)).trans hp⟩, ⟨_, _, _, (hb1.block (w.heap.size + 1) (by omega)).trans hr⟩, hc1, (hs.below hw0).below (hb1.mono (by omega)), hg1⟩
structure Dr2 (w : World) (A : Option Addr) (zs : List Int) (cap g P : Nat) (v : Value) (l : List Ru) (bs : List Nat) (X : World) : Prop where
 dw : De w A zs cap g X
 box : PBox X P v
 is : Drawn X (.agg #[v]) l bs
 ne : P ≠ g ∧ w.heap.size + 1 < P
 out : ∀ x ∈ bs, w.heap.size + 1 < x ∧ x ≠ g
theorem Dr2.call {w : World} {A : Option Addr} {zs : List Int} {cap g P : Nat} {v : Value} {l : List Ru} {bs : List Nat} {W W2 : World} (h : Dr2 w A zs cap g P v l bs W) (hc : Cur W2 g A zs.length cap) (ho : Only g W W2) : Dr2 w A zs cap g P v l bs W2 :=
 ⟨h.dw.call hc ho, h.box.only ho h.ne.1, h.is.keeps (keeps_only ho (fun hx => (h.out g hx).2 rfl)), h.ne, h.out⟩
theorem Dr2.drew {w : World} {A : Option Addr} {zs : List Int} {cap g P : Nat} {v : Value} {l : List Ru} {bs : List Nat} {W : World} (h : Dr2 w A zs cap g P v l bs W) : Dr2 w A zs cap g P v l bs W.drew := h.call (h.dw.cur.below (wB _ _).drew) (Only.ofBelow (wB _ _).drew)
theorem Dr2.weak {w : World} {A : Option Addr} {zs : List Int} {cap g P : Nat} {v : Value} {l : List Ru} {bs : List Nat} {W : World} (h : Dr2 w A zs cap g P v l bs W) : W.cell? ⟨P, 0, none⟩ = some v ∧ Hid (Dr2 w A zs cap g P v l bs W) := ⟨h.box.facts.1, zH h⟩
theorem Dr2.put {w : World} {A : Option Addr} {zs : List Int} {cap g P : Nat} {v : Value} {l : List Ru} {bs : List Nat} {W : World} (h : Dr2 w A zs cap g P v l bs W) {b m : Nat} (u : Value) (hb : (b = w.heap.size ∧ m = 0) ∨ (b = w.heap.size + 1 ∧ m < 3)) : Dr2 w A zs cap g P v l bs (W.setCell ⟨b, m, none⟩ u) := by
 obtain ⟨x, hx⟩ := h.dw.res
 obtain ⟨v0, v1, v2, hr⟩ := h.dw.res2
 have hu := h.dw.up
 have hne := h.ne
 have hbb : w.heap.size ≤ b ∧ b ≤ w.heap.size + 1 := by omega
 obtain ⟨k, y, hk, hcu⟩ := h.dw.cur
 refine ⟨⟨h.dw.low.setCell (p := ⟨b, m, none⟩) hbb.1 _, ?_, ?_, ⟨k, y, hk, (Below.heap_setCell W ⟨b, m, none⟩ u g (by simp; omega)).trans hcu⟩, fun i z hz => ?_, hu⟩, (Below.heap_setCell W ⟨b, m, none⟩ u P (by simp; omega)).trans h.box, h.is.keeps (keeps_set (fun y hy e => by have := (h.out y hy).1; have e2 : y = b := e; omega)), h.ne, h.out⟩
 · rcases hb with ⟨rfl, rfl⟩ | ⟨rfl, -⟩
   · exact ⟨u, hx.set u⟩
   exact ⟨x, (Below.heap_setCell W ⟨w.heap.size + 1, m, none⟩ u w.heap.size (by simp)).trans hx⟩
 · rcases hb with ⟨rfl, rfl⟩ | ⟨rfl, hm⟩
   · exact ⟨v0, v1, v2, (Below.heap_setCell W ⟨w.heap.size, 0, none⟩ u (w.heap.size + 1) (by simp)).trans hr⟩
   have h3 := row_set hr m u
   rcases (show m = 0 ∨ m = 1 ∨ m = 2 by omega) with rfl | rfl | rfl
   · exact ⟨u, v1, v2, by unfold Row; rw [h3]; simp [List.setIfInBounds_toArray]⟩
   · exact ⟨v0, u, v2, by unfold Row; rw [h3]; simp [List.setIfInBounds_toArray]⟩
   exact ⟨v0, v1, u, by unfold Row; rw [h3]; simp [List.setIfInBounds_toArray]⟩
 obtain ⟨a, h1, h2, h3, h4, h5⟩ := h.dw.bytes i z hz
 exact ⟨a, h1, (World.cell?_of_block (w := W) (a := a.add i) (Below.heap_setCell W ⟨b, m, none⟩ u _ (by rw [block_addD]; simp; omega))).trans h2, h3, h4, h5⟩
theorem Dr2.puts {w : World} {A : Option Addr} {zs : List Int} {cap g P : Nat} {v : Value} {l : List Ru} {bs : List Nat} {W : World} (h : Dr2 w A zs cap g P v l bs W) :
 (∀ y : Value, (W.setCell ⟨w.heap.size, 0, none⟩ y).cell? ⟨P, 0, none⟩ = some v ∧ Hid (Dr2 w A zs cap g P v l bs (W.setCell ⟨w.heap.size, 0, none⟩ y))) ∧
  ∀ y y0 y1 y2 : Value, ((((W.setCell ⟨w.heap.size, 0, none⟩ y).setCell ⟨w.heap.size + 1, 0, none⟩ y0).setCell ⟨w.heap.size + 1, 1, none⟩ y1).setCell ⟨w.heap.size + 1, 2, none⟩ y2).cell? ⟨P, 0, none⟩ = some v ∧ Hid (Dr2 w A zs cap g P v l bs ((((W.setCell ⟨w.heap.size, 0, none⟩ y).setCell ⟨w.heap.size + 1, 0, none⟩ y0).setCell ⟨w.heap.size + 1, 1, none⟩ y1).setCell ⟨w.heap.size + 1, 2, none⟩ y2)) :=
 ⟨fun y => (h.put y (Or.inl ⟨rfl, rfl⟩)).weak, fun y y0 y1 y2 => ((((h.put y (Or.inl ⟨rfl, rfl⟩)).put y0 (Or.inr ⟨rfl, by decide⟩)).put y1 (Or.inr ⟨rfl, by decide⟩)).put y2 (Or.inr ⟨rfl, by decide⟩)).weak⟩
def DrawEPost (w : World) (r : Ending) (w' : World) : Prop := ∃ vp ve l e bp be, r = .returned (.tuple #[vp, ve]) ∧ Drawn w' vp l bp ∧ ExIs w' ve e be ∧ Thawed w' be ∧ exSize e ≤ 1000 ∧ exTot e ≤ 1048576 ∧ Below w.heap.size w w'
theorem Dr2.fin {w : World} {A : Option Addr} {zs : List Int} {cap g P : Nat} {v : Value} {l : List Ru} {bs : List Nat} {W : World} {K : Int} {S : ByteArray} {u : Value} {e : Ex} {be : List Nat} (h : Dr2 w A zs cap g P v l bs W) (hi : ExIs W (.agg #[.int .i64 K, .string S, u]) e be) (ht : Thawed W be) (hb : ∀ x ∈ be, w.heap.size + 1 < x) (h1 : exSize e ≤ 1000) (h2 : exTot e ≤ 1048576) :
 DrawEPost w (.returned (.tuple #[.agg #[v], .agg #[.int .i64 K, .string S, u]])) ((((W.setCell ⟨w.heap.size, 0, none⟩ v).setCell ⟨w.heap.size + 1, 0, none⟩ (.int .i64 K)).setCell ⟨w.heap.size + 1, 1, none⟩ (.string S)).setCell ⟨w.heap.size + 1, 2, none⟩ u) ∧
  PBox ((((W.setCell ⟨w.heap.size, 0, none⟩ v).setCell ⟨w.heap.size + 1, 0, none⟩ (.int .i64 K)).setCell ⟨w.heap.size + 1, 1, none⟩ (.string S)).setCell ⟨w.heap.size + 1, 2, none⟩ u) w.heap.size v ∧
  Row ((((W.setCell ⟨w.heap.size, 0, none⟩ v).setCell ⟨w.heap.size + 1, 0, none⟩ (.int .i64 K)).setCell ⟨w.heap.size + 1, 1, none⟩ (.string S)).setCell ⟨w.heap.size + 1, 2, none⟩ u) (w.heap.size + 1) 32 [.int .i64 K, .string S, u] := by
 have hF := (((h.put v (b := w.heap.size) (m := 0) (Or.inl ⟨rfl, rfl⟩)).put (.int .i64 K) (b := w.heap.size + 1) (m := 0) (Or.inr ⟨rfl, by decide⟩)).put (.string S) (b := w.heap.size + 1) (m := 1) (Or.inr ⟨rfl, by decide⟩)).put u (b := w.heap.size + 1) (m := 2) (Or.inr ⟨rfl, by decide⟩)
 have hk : Keeps W ((((W.setCell ⟨w.heap.size, 0, none⟩ v).setCell ⟨w.heap.size + 1, 0, none⟩ (.int .i64 K)).setCell ⟨w.heap.size + 1, 1, none⟩ (.string S)).setCell ⟨w.heap.size + 1, 2, none⟩ u) be := by
  have h0 : ∀ (X : World) (b m : Nat) (y : Value), b ≤ w.heap.size + 1 → Keeps X (X.setCell ⟨b, m, none⟩ y) be := fun X b m y hbl => keeps_set (fun x hx e => by have := hb x hx; have e2 : x = b := e; omega)
  exact keeps_on (keeps_on (keeps_on (h0 _ _ _ _ (by omega)) (h0 _ _ _ _ (by omega))) (h0 _ _ _ _ (by omega))) (h0 _ _ _ _ (by omega))
 obtain ⟨x, hx⟩ := h.dw.res
 obtain ⟨v0, v1, v2, hr⟩ := h.dw.res2
 refine ⟨⟨_, _, l, e, bs, be, rfl, hF.is, hi.keeps hk, fun y hy => ⟨nL (ht y hy).1 hk.1, fun o => (World.frozen?_of_block (w := W) (a := ⟨y, o, none⟩) (hk.2 y hy (ht y hy).1)).trans ((ht y hy).2 o)⟩, h1, h2, hF.dw.low⟩, ?_, ?_⟩
 · exact (Below.heap_setCell _ _ _ _ (by simp)).trans ((Below.heap_setCell _ _ _ _ (by simp)).trans ((Below.heap_setCell _ _ _ _ (by simp)).trans (hx.set v)))
 have hr2 : Row (W.setCell ⟨w.heap.size, 0, none⟩ v) (w.heap.size + 1) 32 [v0, v1, v2] := (Below.heap_setCell W ⟨w.heap.size, 0, none⟩ v (w.heap.size + 1) (by simp)).trans hr
 have h3 := row_set (row_set (row_set hr2 0 (.int .i64 K)) 1 (.string S)) 2 u
 unfold Row
 rw [h3]
 simp [List.setIfInBounds_toArray]
theorem draw_exfor (A : Option Addr) (zs : List Int) (cap : Nat) (w : World) (hs : Bytes w w.heap.size A zs) (hn : zs.length ≤ 1048576) :
 Calls Tryz.prog 13 #[.slice A zs.length cap] w (DrawEPost w) := by
 have HNW := zH (new_begin2 A zs cap w hs hn)
 have HN := zH hn
 have HBT := zH (fun (g : Nat) (X : World) (h : De w A zs cap g X) => bentp_any w.heap.size g A zs cap X h.bytes (by have := h.up; omega) h.cur hn)
 have HON := zH (fun (g : Nat) (X : World) (h : De w A zs cap g X) => once_any w.heap.size g A zs cap 3 X h.bytes (by have := h.up; omega) h.cur hn (by decide) (by decide))
 have HB3 := zH (fun (g : Nat) (X : World) (h : De w A zs cap g X) => bent_sz w.heap.size g A zs cap X h.bytes (by have := h.up; omega) h.cur hn)
 have HEX := zH (fun (g P : Nat) (v : Value) (l : List Ru) (bs : List Nat) (X : World) (h : Dr2 w A zs cap g P v l bs X) => show Calls Tryz.prog 37 #[.pointer (some ⟨g, 0, none⟩), .agg #[v], .int .i64 3] X (ExprPost 3 g A zs.length cap X) from by
  obtain ⟨u, e, hu⟩ := h.is.1
  simp only [Value.agg.injEq, Array.mk.injEq, List.cons.injEq, and_true] at e
  subst e
  exact expr_any 3 (by decide) w.heap.size g A zs cap l v bs X h.dw.bytes (by have := h.dw.up; omega) h.dw.cur hn hu (fun hx => (h.out g hx).2 rfl) (fun x hx => (h.is.2.1 x hx).1) h.is.2.2)
 clear hs hn
 generalize hq : zs.length = q at *
 go_enter Tryz.func13, Tryz.ntmps13
 go_wp2_with fail
 go_at_call 22
 refine HNW.out.mono ?_
 rintro r w1 ⟨g, rfl, hd1⟩
 have HD1 := zH hd1
 clear hd1
 go_wp2_with fail
 go_at_call 21
 refine (HBT.out g w1 HD1.out).mono ?_
 rintro r w2 ⟨v, l, bs, rfl, hd, hm, hc2, ho2⟩
 obtain ⟨A2, c2, rfl, -⟩ := id hd.1
 have HD2 := zH (HD1.out.call (by rw [hq]; exact hc2) ho2)
 have HDR := zH (aI (hd.drawn hm) (show ∀ x ∈ bs, w.heap.size + 1 < x ∧ x ≠ g from fun x hx => by have := (hd.2 x hx).1; have := HD1.out.cur.lt; have := HD1.out.up; omega))
 clear hd hm hc2 ho2
 have HQ := zH (show Dr2 w A zs cap g w2.heap.size (.slice A2 l.length c2) l bs (w2.alloc (.cells #[.slice A2 l.length c2] 26)) from
  ⟨HD2.out.alloc _, PBox.new w2 _, HDR.out.1.below ((wB _ _).alloc (nR _) _), ⟨by have := HD2.out.cur.lt; omega, by have := HD2.out.res2.choose_spec.choose_spec.choose_spec.lt; omega⟩, HDR.out.2⟩)
 go_wp2_with fail
 go_at_call 35
 refine (HON.out g _ HQ.out.dw).mono ?_
 rintro r3 w3 ⟨x, rfl, hc3, ho3⟩
 have HQ3 := zH (HQ.out.call (by rw [hq]; exact hc3) ho3)
 clear hc3 ho3 HQ
 cases x
 · have HCL := zH (HEX.out g _ _ l bs w3.drew HQ3.out.drew)
   have hw3 : w.heap.size + 1 < w3.drew.heap.size := by have h1 := HQ3.out.ne.2; have h2 := HQ3.out.box.facts.2.2; have e : w3.drew.heap.size = w3.heap.size := rfl; omega
   go_wp2_with fail
   go_region_held3 (fun X => X.cell? ⟨w2.heap.size, 0, none⟩ = some (.slice A2 l.length c2) ∧ Hid (Dr2 w A zs cap g w2.heap.size (.slice A2 l.length c2) l bs X))
    (first | with_reducible exact HQ3.out.drew.weak | with_reducible exact HQ4.out.weak | with_reducible exact HQ4.out.puts.1 _ | with_reducible exact HQ4.out.puts.2 _ _ _ _)
    (first | (go_at_call 37; refine HCL.out.mono ?_; rintro r4 w4 ⟨_, e4, be, rfl, hex, hmn, hz1, hz2, hc4, ho4⟩; obtain ⟨u4, rfl, -, hu4⟩ := id hex; obtain ⟨A4, c4, rfl, -⟩ := id hu4; have HQ4 := zH (HQ3.out.drew.call (by rw [hq]; exact hc4) ho4); obtain ⟨x9, hx9⟩ := HQ4.out.dw.res; obtain ⟨q0, qf, ql⟩ := hx9.facts; obtain ⟨z0, z1, z2, hzr⟩ := HQ4.out.dw.res2; have hzl := hzr.lt; have b0 := hzr.cell 0 _ rfl; have b1 := hzr.cell 1 _ rfl; have b2 := hzr.cell 2 _ rfl; have f0 := hzr.thaw 0; have f1 := hzr.thaw 1; have f2 := hzr.thaw 2; have hne := HQ4.out.ne; have hn12 : w.heap.size ≠ w.heap.size + 1 := (by omega); have hn21 : w.heap.size + 1 ≠ w.heap.size := (by omega); have HFI := zH (HQ4.out.fin hex (fun x hx => ⟨(hmn.range x hx).2, hmn.free x hx⟩) (fun x hx => nL hw3 (hmn.range x hx).1) (nT hz1 (by decide)) (nT hz2 (by decide))); clear hc4 ho4 hex hmn hz1 hz2 hu4))
   obtain ⟨hF, hP, hR⟩ := HFI.out
   have k0 := hP.facts.1
   have k1 := hR.cell 0 _ rfl
   have k2 := hR.cell 1 _ rfl
   have k3 := hR.cell 2 _ rfl
   have HFF := zH hF
   clear hF hP hR HFI HQ4 HQ3 HCL q0 b0 b1 b2 qf f0 f1 f2 hzr hx9
   generalize (((w4.setCell ⟨w.heap.size, 0, none⟩ (.slice A2 l.length c2)).setCell ⟨w.heap.size + 1, 0, none⟩ (.int .i64 e4.kind)).setCell ⟨w.heap.size + 1, 1, none⟩ (.string e4.name)).setCell ⟨w.heap.size + 1, 2, none⟩ (.slice A4 e4.args.length c4) = W5 at *
   go_wp2_with fail
   refine bP (v := .tuple #[.agg #[.slice A2 l.length c2], .agg #[.int .i64 e4.kind, .string e4.name, .slice A4 e4.args.length c4]]) (by simp [results, Tryz.results13, go_sem, k0, k1, k2, k3]) rfl ?_
   exact HFF.out
 have HCL := zH (HB3.out g w3.drew HQ3.out.drew.dw)
 have hw3 : w.heap.size + 1 < w3.drew.heap.size := by have h1 := HQ3.out.ne.2; have h2 := HQ3.out.box.facts.2.2; have e : w3.drew.heap.size = w3.heap.size := rfl; omega
 go_wp2_with fail
 go_region_held3 (fun X => X.cell? ⟨w2.heap.size, 0, none⟩ = some (.slice A2 l.length c2) ∧ Hid (Dr2 w A zs cap g w2.heap.size (.slice A2 l.length c2) l bs X))
  (first | with_reducible exact HQ3.out.drew.weak | with_reducible exact HQ4.out.weak | with_reducible exact HQ4.out.puts.1 _ | with_reducible exact HQ4.out.puts.2 _ _ _ _)
  (first | (go_at_call 36; refine HCL.out.mono ?_; rintro r4 w4 ⟨_, e4, be, rfl, hef, hbe, htt, hc4, ho4⟩; have hex := hef.1; obtain ⟨u4, rfl, -, hu4⟩ := id hex; obtain ⟨A4, c4, rfl, -⟩ := id hu4; have HQ4 := zH (HQ3.out.drew.call (by rw [hq]; exact hc4) ho4); obtain ⟨x9, hx9⟩ := HQ4.out.dw.res; obtain ⟨q0, qf, ql⟩ := hx9.facts; obtain ⟨z0, z1, z2, hzr⟩ := HQ4.out.dw.res2; have hzl := hzr.lt; have b0 := hzr.cell 0 _ rfl; have b1 := hzr.cell 1 _ rfl; have b2 := hzr.cell 2 _ rfl; have f0 := hzr.thaw 0; have f1 := hzr.thaw 1; have f2 := hzr.thaw 2; have hne := HQ4.out.ne; have hn12 : w.heap.size ≠ w.heap.size + 1 := (by omega); have hn21 : w.heap.size + 1 ≠ w.heap.size := (by omega); have HFI := zH (HQ4.out.fin hex (fun x hx => ⟨hef.lt x hx, hef.2 x hx⟩) (fun x hx => Nat.lt_trans hw3 (hbe x hx)) (by have := htt.2; omega) (by have := htt.1; omega)); clear hc4 ho4 hex hef hbe htt hu4))
 obtain ⟨hF, hP, hR⟩ := HFI.out
 have k0 := hP.facts.1
 have k1 := hR.cell 0 _ rfl
 have k2 := hR.cell 1 _ rfl
 have k3 := hR.cell 2 _ rfl
 have HFF := zH hF
 clear hF hP hR HFI HQ4 HQ3 HCL q0 b0 b1 b2 qf f0 f1 f2 hzr hx9
 generalize (((w4.setCell ⟨w.heap.size, 0, none⟩ (.slice A2 l.length c2)).setCell ⟨w.heap.size + 1, 0, none⟩ (.int .i64 e4.kind)).setCell ⟨w.heap.size + 1, 1, none⟩ (.string e4.name)).setCell ⟨w.heap.size + 1, 2, none⟩ (.slice A4 e4.args.length c4) = W5 at *
 go_wp2_with fail
 refine bP (v := .tuple #[.agg #[.slice A2 l.length c2], .agg #[.int .i64 e4.kind, .string e4.name, .slice A4 e4.args.length c4]]) (by simp [results, Tryz.results13, go_sem, k0, k1, k2, k3]) rfl ?_
 exact HFF.out
end Go.Proofs.YtiaknfnhmoinpaaGreat
