/- A part of the proof of the seat's statement: RuRule. Condition: as each says. -/
import Derived.Test.YtiaknfnhmoinpaaGreatValidEq
import Derived.Lib.QuietBelow
set_option maxHeartbeats 8000000
namespace Go.Proofs.YtiaknfnhmoinpaaGreat
open Go Go.RowKit Go.Sort
theorem fin_new {W w5 : World} {x0 x1 x2 x3 x4 x5 x6 : Value} (hb : Below W.heap.size W w5) : (w5.alloc (.cells #[x0, x1, x2, x3, x4, x5, x6] 34)).cell? ⟨w5.heap.size, 1, none⟩ = some x1 ∧ (w5.alloc (.cells #[x0, x1, x2, x3, x4, x5, x6] 34)).cell? ⟨w5.heap.size, 3, none⟩ = some x3 ∧ Below W.heap.size W (w5.alloc (.cells #[x0, x1, x2, x3, x4, x5, x6] 34)) := by
 have h := World.alloc_heap_new w5 (.cells #[x0, x1, x2, x3, x4, x5, x6] 34)
 exact ⟨by rw [World.cell?, h]; rfl, by rw [World.cell?, h]; rfl, hb.alloc hb.size _⟩
theorem fin_old {W w5 : World} {fb : Nat} {x0 x1 x2 x3 x4 x5 x6 u1 u3 : Value} (p1 : w5.cell? ⟨fb, 1, none⟩ = some u1) (p3 : w5.cell? ⟨fb, 3, none⟩ = some u3) (hl : W.heap.size ≤ fb) (hb : Below W.heap.size W w5) :
 (((((((w5.setCell ⟨fb, 0, none⟩ x0).setCell ⟨fb, 1, none⟩ x1).setCell ⟨fb, 2, none⟩ x2).setCell ⟨fb, 3, none⟩ x3).setCell ⟨fb, 4, none⟩ x4).setCell ⟨fb, 5, none⟩ x5).setCell ⟨fb, 6, none⟩ x6).cell? ⟨fb, 1, none⟩ = some x1 ∧
 (((((((w5.setCell ⟨fb, 0, none⟩ x0).setCell ⟨fb, 1, none⟩ x1).setCell ⟨fb, 2, none⟩ x2).setCell ⟨fb, 3, none⟩ x3).setCell ⟨fb, 4, none⟩ x4).setCell ⟨fb, 5, none⟩ x5).setCell ⟨fb, 6, none⟩ x6).cell? ⟨fb, 3, none⟩ = some x3 ∧
 Below W.heap.size W (((((((w5.setCell ⟨fb, 0, none⟩ x0).setCell ⟨fb, 1, none⟩ x1).setCell ⟨fb, 2, none⟩ x2).setCell ⟨fb, 3, none⟩ x3).setCell ⟨fb, 4, none⟩ x4).setCell ⟨fb, 5, none⟩ x5).setCell ⟨fb, 6, none⟩ x6) := by
 have ne : ∀ {W : World} {i j : Nat} {u : Value}, i ≠ j → (W.setCell ⟨fb, i, none⟩ u).cell? ⟨fb, j, none⟩ = W.cell? ⟨fb, j, none⟩ := fun {W i j u} h => World.cell?_setCell_other _ _ _ _ (by first | (simp; done) | (simp; exact h))
 refine ⟨?_, ?_, ?_⟩
 · rw [ne (by decide), ne (by decide), ne (by decide), ne (by decide), ne (by decide)]
   exact World.cell?_setCell_same _ _ _ (by rw [ne (by decide)]; exact p1)
 · rw [ne (by decide), ne (by decide), ne (by decide)]
   exact World.cell?_setCell_same _ _ _ (by rw [ne (by decide), ne (by decide), ne (by decide)]; exact p3)
 exact ((((((hb.setCell (p := ⟨fb, 0, none⟩) hl x0).setCell (p := ⟨fb, 1, none⟩) hl x1).setCell (p := ⟨fb, 2, none⟩) hl x2).setCell (p := ⟨fb, 3, none⟩) hl x3).setCell (p := ⟨fb, 4, none⟩) hl x4).setCell (p := ⟨fb, 5, none⟩) hl x5).setCell (p := ⟨fb, 6, none⟩) hl x6
theorem zero_box {w4 w5 : World} (hb : Below ((w4.alloc (.cells #[.string ⟨#[]⟩, .string ⟨#[]⟩, .slice none 0 0, .slice none 0 0, .int .i64 0, .string ⟨#[]⟩, .slice none 0 0] 34)).drew).heap.size (w4.alloc (.cells #[.string ⟨#[]⟩, .string ⟨#[]⟩, .slice none 0 0, .slice none 0 0, .int .i64 0, .string ⟨#[]⟩, .slice none 0 0] 34)).drew w5) :
 w5.cell? ⟨w4.heap.size, 0, none⟩ = some (.string ⟨#[]⟩) ∧ w5.cell? ⟨w4.heap.size, 1, none⟩ = some (.string ⟨#[]⟩) ∧ w5.cell? ⟨w4.heap.size, 2, none⟩ = some (.slice none 0 0) ∧ w5.cell? ⟨w4.heap.size, 3, none⟩ = some (.slice none 0 0) ∧ w5.cell? ⟨w4.heap.size, 4, none⟩ = some (.int .i64 0) ∧ w5.cell? ⟨w4.heap.size, 5, none⟩ = some (.string ⟨#[]⟩) ∧ w5.cell? ⟨w4.heap.size, 6, none⟩ = some (.slice none 0 0) ∧
 w5.frozen? ⟨w4.heap.size, 0, none⟩ = false ∧ w5.frozen? ⟨w4.heap.size, 1, none⟩ = false ∧ w5.frozen? ⟨w4.heap.size, 2, none⟩ = false ∧ w5.frozen? ⟨w4.heap.size, 3, none⟩ = false ∧ w5.frozen? ⟨w4.heap.size, 4, none⟩ = false ∧ w5.frozen? ⟨w4.heap.size, 5, none⟩ = false ∧ w5.frozen? ⟨w4.heap.size, 6, none⟩ = false ∧ w4.heap.size < w5.heap.size := by
 have h : w5.heap[w4.heap.size]? = some (.cells #[.string ⟨#[]⟩, .string ⟨#[]⟩, .slice none 0 0, .slice none 0 0, .int .i64 0, .string ⟨#[]⟩, .slice none 0 0] 34 (0, 0)) := (hb.block _ (by show w4.heap.size < (w4.alloc _).heap.size; simp)).trans (World.alloc_heap_new w4 _)
 refine ⟨?_, ?_, ?_, ?_, ?_, ?_, ?_, ?_, ?_, ?_, ?_, ?_, ?_, ?_, (Array.getElem?_eq_some_iff.1 h).1⟩ <;> simp [World.cell?, World.frozen?, h]
set_option maxRecDepth 100000 in
theorem rule_any (l : List Ru) (k : Nat) (r0 : Ru) (v : Value) (bs : List Nat) (w : World) (hv : PrIs w v l bs) (hk : l[k]? = some r0) (hz : rusTot l ≤ 1048576) :
 Calls Tryz.prog 28 #[v, .int .i64 (k : Int)] w (RetPost (.bool (ruleOk l k r0)) w) := by
 have HV := zH hv
 obtain ⟨u, rfl, hu⟩ := id hv
 obtain ⟨A, c, rfl, hc1, hc2, -⟩ := id hu
 have hkl : k < l.length := (List.getElem?_eq_some_iff.1 hk).1
 obtain ⟨m, hm⟩ : ∃ m, m = l.length := ⟨_, rfl⟩
 obtain ⟨g, o, r, w1, w2, w3, b, hA⟩ := hu.get k hkl
 obtain rfl := hA.eq
 have hgr := hA.get
 rw [hk] at hgr
 obtain rfl := Option.some.inj hgr
 have HZR := zH (show ruTot r0 ≤ 1048576 by have := rusTot_mem hA.mem; omega)
 rw [← hm] at HV hc1 ⊢
 have hkm : k < m := by omega
 have hll : (m : Int) ≤ 1048576 := by have := rusTot_ge l; omega
 obtain ⟨x0, x1, x2, x3, x4, x5, x6⟩ := hA.cells
 have hgl := hA.lt
 have his := hA.is
 have HIS := zH hA.is
 have HMEM := zH hA.mem
 have HU := zH hu
 obtain ⟨b1, b2, b3, -, -, -, h3, h4, h5⟩ := his.parts
 obtain ⟨A1, c1, rfl⟩ := h3.slice
 obtain ⟨A2, c2, rfl⟩ := h4.slice
 obtain ⟨A3, q3, c3, rfl⟩ := his_slice0 h5
 obtain ⟨-, -, -, hs1, -⟩ := h3.strs
 obtain ⟨-, -, -, hs2, -⟩ := h4.strs
 have HBODY := zH h5
 have hl : r0.vars.length ≤ 1048576 ∧ r0.params.length ≤ 1048576 := by have := HZR.out; unfold ruTot ssTot at this; omega
 have HM := zH hm
 have HZ := zH hz
 have hk0 : (0 : Int) ≤ (k : Int) := by omega
 have hki : (k : Int) < (m : Int) := by omega
 clear hA hu hv hm his h3 h4 h5 hkl
 go_enter Tryz.func28, Tryz.ntmps28
 go_wp2_with fail
 obtain ⟨Wp, hWp⟩ : ∃ Wp, Wp = w.alloc (.cells #[.slice (some ⟨g, o, none⟩) m c] 26) := ⟨_, rfl⟩
 obtain ⟨W0, hW0⟩ : ∃ W0, W0 = Wp.alloc (.cells #[.string r0.name, .string r0.con, .slice A1 r0.vars.length c1, .slice A2 r0.params.length c2, .int .i64 r0.body.kind, .string r0.body.name, .slice A3 q3 c3] 34) := ⟨_, rfl⟩
 rw [← hWp, ← hW0]
 have hsp : Wp.heap.size = w.heap.size + 1 := by rw [hWp]; simp
 have hbx : W0.heap[w.heap.size + 1]? = some (.cells #[.string r0.name, .string r0.con, .slice A1 r0.vars.length c1, .slice A2 r0.params.length c2, .int .i64 r0.body.kind, .string r0.body.name, .slice A3 q3 c3] 34 (0, 0)) := by rw [hW0, ← hsp]; exact World.alloc_heap_new Wp _
 have hpx : W0.heap[w.heap.size]? = some (.cells #[.slice (some ⟨g, o, none⟩) m c] 26 (0, 0)) := by rw [hW0]; exact (Below.heap_alloc _ _ _ (by omega)).trans (by rw [hWp]; exact World.alloc_heap_new w _)
 have y2 : W0.cell? ⟨w.heap.size + 1, 2, none⟩ = some (.slice A1 r0.vars.length c1) := by simp [World.cell?, hbx]
 have y3 : W0.cell? ⟨w.heap.size + 1, 3, none⟩ = some (.slice A2 r0.params.length c2) := by simp [World.cell?, hbx]
 have xl : w.heap.size + 1 < W0.heap.size := (Array.getElem?_eq_some_iff.1 hbx).1
 have hlow : Below w.heap.size w W0 := by rw [hW0, hWp]; exact ((wB _ w).alloc (nR _) _).alloc (by simp) _
 have HLW := zH hlow
 have HBX := zH hbx
 have HPX := zH hpx
 have HX3 := zH y3
 have HXL := zH xl
 have HL := zH hl
 have HO0 := zH (owns_empty W0)
 have HB0 := zH (((wB W0.heap.size W0).alloc (nR _) (.cells #[] 9)).drew)
 have HS1 := zH (fun (Y : World) (hY : Below W0.heap.size W0 Y) => (hs1.below hlow).below hY)
 have HS2 := zH (fun (Y : World) (hY : Below W0.heap.size W0 Y) => (hs2.below hlow).below hY)
 clear hW0 hWp hsp hbx hpx hlow hl hs1 hs2 hz x0 x1 x2 x3 x4 x5 x6
 refine cut_region (fun a W => ∃ v7 v8, a = { tmps := #[.agg #[.slice (some ⟨g, o, none⟩) m c], .int .i64 (k : Int), .pointer (some ⟨w.heap.size, 0, none⟩), undef, .bool false, .pointer (some ⟨w.heap.size + 1, 0, none⟩), v8, undef, .pointer (some ⟨w.heap.size, 0, none⟩), .slice (some ⟨g, o, none⟩) m c, .int .i64 (k : Int), .pointer (some ⟨g, o + k * 7, none⟩), .agg #[.string r0.name, .string r0.con, .slice A1 r0.vars.length c1, .slice A2 r0.params.length c2, .int .i64 r0.body.kind, .string r0.body.name, .slice A3 q3 c3], .slice (some ⟨W0.heap.size, 0, none⟩) 0 0, .pointer (some ⟨w.heap.size + 1, 2, none⟩), .slice A1 r0.vars.length c1, v7, .pointer (some ⟨w.heap.size + 1, 3, none⟩), .slice A2 r0.params.length c2, v8, undef, undef, undef, undef, undef, undef, undef, undef, undef, undef, undef, undef, undef, undef, undef, undef, undef, undef, undef, undef, undef, undef, undef, undef, undef, undef, undef, undef, undef, undef, undef, undef, undef, undef, undef, undef, undef, undef, undef, undef, undef, undef, undef, undef, undef, undef, undef, undef, undef, undef, undef, undef, undef, undef, undef, undef, undef, undef, undef, undef, undef, undef, undef, undef, undef, undef, undef], defers := [] } ∧ OwnsL W0.heap.size W v8 (r0.vars ++ r0.params) ∧ Below W0.heap.size W0 W) ?_ ?_
 · go_region_law
    (first
    | (refine step_append_strs (by rfl) (.tmp 13) (.tmp 15) (by rfl) W0.heap.size (.slice (some ⟨W0.heap.size, 0, none⟩) 0 0) [] (by rfl) HO0.out A1 r0.vars c1 (by rfl) (HS1.out _ HB0.out) (by have := HL.out; simp; omega) HB0.out.size ?_; intro v7 w7 ho7 hg7; have y3 := old_cell HB0.out HO0.out hg7 HXL.out HX3.out; have HB7 := zH (OwnsL.grown HB0.out HO0.out hg7); have HO7 := zH ho7; clear ho7 hg7)
    | (refine step_append_strs (by rfl) (.tmp 16) (.tmp 18) (by rfl) W0.heap.size v7 ([] ++ r0.vars) (by rfl) HO7.out A2 r0.params c2 (by rfl) (HS2.out _ HB7.out) (by have := HL.out; simp; omega) HB7.out.size ?_; intro v8 w8 ho8 hg8; have HB8 := zH (OwnsL.grown HB7.out HO7.out hg8); have HO8 := zH ho8; clear ho8 hg8))
   all_goals
    exact ⟨v7, v8, rfl, HO8.out, HB8.out⟩
 rintro _ W ⟨v7, v8, rfl, ho, hb⟩
 have hbw : W.heap[w.heap.size + 1]? = some (.cells #[.string r0.name, .string r0.con, .slice A1 r0.vars.length c1, .slice A2 r0.params.length c2, .int .i64 r0.body.kind, .string r0.body.name, .slice A3 q3 c3] 34 (0, 0)) := (hb.block _ HXL.out).trans HBX.out
 have hpw : W.heap[w.heap.size]? = some (.cells #[.slice (some ⟨g, o, none⟩) m c] 26 (0, 0)) := (hb.block _ (by have := HXL.out; omega)).trans HPX.out
 have HCL := zH (fun (Y : World) (hY : Below W.heap.size W Y) => show Y.cell? ⟨w.heap.size, 0, none⟩ = some (.slice (some ⟨g, o, none⟩) m c) ∧ Y.cell? ⟨w.heap.size + 1, 0, none⟩ = some (.string r0.name) ∧ Y.cell? ⟨w.heap.size + 1, 1, none⟩ = some (.string r0.con) ∧ Y.cell? ⟨w.heap.size + 1, 2, none⟩ = some (.slice A1 r0.vars.length c1) ∧ Y.cell? ⟨w.heap.size + 1, 3, none⟩ = some (.slice A2 r0.params.length c2) ∧ Y.cell? ⟨w.heap.size + 1, 4, none⟩ = some (.int .i64 r0.body.kind) ∧ Y.cell? ⟨w.heap.size + 1, 5, none⟩ = some (.string r0.body.name) ∧ Y.cell? ⟨w.heap.size + 1, 6, none⟩ = some (.slice A3 q3 c3) from by
  have h1 : Y.heap[w.heap.size + 1]? = _ := (hY.block _ (Array.getElem?_eq_some_iff.1 hbw).1).trans hbw
  have h2 : Y.heap[w.heap.size]? = _ := (hY.block _ (Array.getElem?_eq_some_iff.1 hpw).1).trans hpw
  exact ⟨by simp [World.cell?, h2], by simp [World.cell?, h1], by simp [World.cell?, h1], by simp [World.cell?, h1], by simp [World.cell?, h1], by simp [World.cell?, h1], by simp [World.cell?, h1], by simp [World.cell?, h1]⟩)
 obtain ⟨A8, c8, rfl, hst⟩ := ho.shape
 have hly : (r0.vars ++ r0.params).length ≤ 1099511627776 := by have := HL.out; simp; omega
 have HWW := zH (HLW.out.trans (hb.mono HLW.out.size))
 have HHEAD := zH (head_any r0 _ b W (HIS.out.below HWW.out) HZR.out)
 have hlt := HZR.out
 have HFOR := zH (fun (Y : World) (hY : Below W.heap.size W Y) => exfor_any l r0.body _ _ bs b3 Y (HV.out.below (HWW.out.trans (hY.mono HWW.out.size))) (HBODY.out.below (HWW.out.trans (hY.mono HWW.out.size))) HZ.out (by unfold ruTot at hlt; omega))
 have HVARS := zH (fun (Y : World) (hY : Below W.heap.size W Y) => vars_any r0.body _ b3 Y (HBODY.out.below (HWW.out.trans (hY.mono HWW.out.size))) (by have := (tot_size _).1 r0.body (nR _); unfold ruTot at hlt; omega))
 have HFIND := zH (fun (Y : World) (hY : Below W.heap.size W Y) => find_any l _ bs r0.name r0.con Y (HV.out.below (HWW.out.trans (hY.mono HWW.out.size))) (by have := HM.out; omega))
 have hvl := (vars_len _).1 r0.body [] (nR _)
 have HWITH := zH (fun (Y : World) (hY : Below W.heap.size W Y) (B : Option Addr) (cap : Nat) (hS : Strs Y B (exVars [] r0.body)) => within_any B A8 (exVars [] r0.body) (r0.vars ++ r0.params) cap c8 Y hS (hst.below hY) (by have := (tot_size _).1 r0.body (nR _); unfold ruTot at hlt; simp at hvl; omega) hly)
 have HR := zH (show ruleOk l k r0 = (headOk r0 && (exFor l r0.body && (within (exVars [] r0.body) (r0.vars ++ r0.params) && (decide (findR l r0.name r0.con = (k : Int)) && sameAs l r0)))) from rfl)
 obtain ⟨y0, y1, y2, y3, y4, y5, y6, y7⟩ := HCL.out W (wB _ _)
 generalize hys : (r0.vars ++ r0.params).length = my at *
 clear hb hbw hpw hst hly hlt hvl ho hys
 cases hh : headOk r0
 · have HHD := zH hh
   have HE := zH (show ruleOk l k r0 = false by rw [HR.out, hh]; simp)
   clear hh
   go_wp2_with (first | (go_at_call 53; refine HHEAD.out.mono ?_; rintro e w1 ⟨rfl, hb1⟩; rw [HHD.out]; have HB1 := zH hb1; clear hb1; obtain ⟨a0, a1, a2, a3, a4, a5, a6, a7⟩ := HCL.out w1 HB1.out))
   go_ret
   exact ⟨by rw [HE.out]; rfl, HWW.out.trans (HB1.out.mono HWW.out.size)⟩
 have HHD := zH hh
 cases hf : exFor l r0.body
 · have HFO := zH hf
   have HE := zH (show ruleOk l k r0 = false by rw [HR.out, hh, hf]; simp)
   clear hh hf
   go_wp2_with (first | (go_at_call 53; refine HHEAD.out.mono ?_; rintro e w1 ⟨rfl, hb1⟩; rw [HHD.out]; have HB1 := zH hb1; clear hb1; obtain ⟨a0, a1, a2, a3, a4, a5, a6, a7⟩ := HCL.out w1 HB1.out) | (go_at_call 17; refine (HFOR.out w1 HB1.out).mono ?_; rintro e w2 ⟨rfl, hb2⟩; rw [HFO.out]; have HB2 := zH (HB1.out.trans (hb2.mono HB1.out.size)); clear hb2; obtain ⟨d0, d1, d2, d3, d4, d5, d6, d7⟩ := HCL.out w2 HB2.out))
   go_ret
   exact ⟨by rw [HE.out]; rfl, HWW.out.trans (HB2.out.mono HWW.out.size)⟩
 have HFO := zH hf
 cases hw : within (exVars [] r0.body) (r0.vars ++ r0.params)
 · have HWI := zH hw
   have HE := zH (show ruleOk l k r0 = false by rw [HR.out, hh, hf, hw]; simp)
   clear hh hf hw
   go_wp2_with (first | (go_at_call 53; refine HHEAD.out.mono ?_; rintro e w1 ⟨rfl, hb1⟩; rw [HHD.out]; have HB1 := zH hb1; clear hb1; obtain ⟨a0, a1, a2, a3, a4, a5, a6, a7⟩ := HCL.out w1 HB1.out) | (go_at_call 17; refine (HFOR.out w1 HB1.out).mono ?_; rintro e w2 ⟨rfl, hb2⟩; rw [HFO.out]; have HB2 := zH (HB1.out.trans (hb2.mono HB1.out.size)); clear hb2; obtain ⟨d0, d1, d2, d3, d4, d5, d6, d7⟩ := HCL.out w2 HB2.out) | (go_at_call 55; refine (HVARS.out w2 HB2.out).mono ?_; rintro e w3 ⟨vv, rfl, hov, hb3⟩; obtain ⟨AV, cv, rfl, hsv⟩ := hov.shape; have HB3 := zH (HB2.out.trans (hb3.mono HB2.out.size)); have HSV := zH hsv; clear hb3 hov hsv; obtain ⟨e0, e1, e2, e3, e4, e5, e6, e7⟩ := HCL.out w3 HB3.out) | (go_at_call 54; refine (HWITH.out w3 HB3.out AV cv HSV.out).mono ?_; rintro e w3b ⟨rfl, rfl⟩; rw [HWI.out]))
   go_ret
   exact ⟨by rw [HE.out]; rfl, HWW.out.trans (HB3.out.mono HWW.out.size)⟩
 have HWI := zH hw
 by_cases hfi : findR l r0.name r0.con = (k : Int)
 · have HE := zH (show ruleOk l k r0 = sameAs l r0 by rw [HR.out, hh, hf, hw, decide_eq_true hfi]; simp)
   rw [hfi] at HFIND
   clear hh hf hw hfi
   go_wp2_with (first | (go_at_call 53; refine HHEAD.out.mono ?_; rintro e w1 ⟨rfl, hb1⟩; rw [HHD.out]; have HB1 := zH hb1; clear hb1; obtain ⟨a0, a1, a2, a3, a4, a5, a6, a7⟩ := HCL.out w1 HB1.out) | (go_at_call 17; refine (HFOR.out w1 HB1.out).mono ?_; rintro e w2 ⟨rfl, hb2⟩; rw [HFO.out]; have HB2 := zH (HB1.out.trans (hb2.mono HB1.out.size)); clear hb2; obtain ⟨d0, d1, d2, d3, d4, d5, d6, d7⟩ := HCL.out w2 HB2.out) | (go_at_call 55; refine (HVARS.out w2 HB2.out).mono ?_; rintro e w3 ⟨vv, rfl, hov, hb3⟩; obtain ⟨AV, cv, rfl, hsv⟩ := hov.shape; have HB3 := zH (HB2.out.trans (hb3.mono HB2.out.size)); have HSV := zH hsv; clear hb3 hov hsv; obtain ⟨e0, e1, e2, e3, e4, e5, e6, e7⟩ := HCL.out w3 HB3.out) | (go_at_call 54; refine (HWITH.out w3 HB3.out AV cv HSV.out).mono ?_; rintro e w3b ⟨rfl, rfl⟩; rw [HWI.out]) | (go_at_call 18; refine (HFIND.out w3 HB3.out).mono ?_; rintro e w4 ⟨rfl, hb4⟩; have HB4 := zH (HB3.out.trans (hb4.mono HB3.out.size)); clear hb4; obtain ⟨f0, f1, f2, f3, f4, f5, f6, f7⟩ := HCL.out w4 HB4.out))
   rcases first_at l r0.name with ⟨hj1, hj2⟩ | ⟨j, f, hj1, hj2, hj3⟩
   · exact absurd hj2 (by
      intro hh
      rw [List.find?_eq_none] at hh
      exact hh r0 HMEM.out (by simp [named]))
   have hjl : j < l.length := (List.getElem?_eq_some_iff.1 hj2).1
   obtain ⟨g', o', f', z1, z2, z3, zb, hF⟩ := HU.out.get j hjl
   have hge := hF.eq
   simp only [Option.some.injEq, Addr.mk.injEq, and_true] at hge
   obtain ⟨rfl, rfl⟩ := hge
   have hfe := hF.get
   rw [hj2] at hfe
   obtain rfl := Option.some.inj hfe
   obtain ⟨fb1, fb2, fb3, -, -, -, k3, k4, k5⟩ := hF.is.parts
   obtain ⟨F1, g1, rfl⟩ := k3.slice
   obtain ⟨F2, g2, rfl⟩ := k4.slice
   obtain ⟨F3, q5, g3, rfl⟩ := his_slice0 k5
   have hfl : f.params.length ≤ 1048576 := by have := rusTot_mem hF.mem; have := HZ.out; unfold ruTot ssTot at *; omega
   have HCF := zH (fun (Y : World) (hY : Below W.heap.size W Y) => hF.cells.of (w' := Y) (fun mm _ _ => (HWW.out.trans (hY.mono HWW.out.size)).cell (p := ⟨g, mm, none⟩) hF.lt))
   have HSA := zH (show sameAs l r0 = ((decide (f.con.size = 0) == decide (r0.con.size = 0)) && (decide (f.params.length = r0.params.length) && (decide (r0.con.size = 0) || decide (conR r0.con l = (r0.vars.length : Int))))) by unfold sameAs; rw [hj3])
   have HFIRST := zH (fun (Y : World) (hY : Below W.heap.size W Y) => first_any l _ bs r0.name Y (HV.out.below (HWW.out.trans (hY.mono HWW.out.size))) (by have := HM.out; omega))
   rw [hj1] at HFIRST
   have hj0 : (0 : Int) ≤ (j : Int) := by omega
   have hjm : (j : Int) < (m : Int) := by have := HM.out; omega
   have hjn : j < m := by have := HM.out; omega
   have HD4 := zH (show Below W.heap.size W w4.drew from HB4.out.drew)
   have HD5 := zH (show Below W.heap.size W (w4.alloc (.cells #[.string ⟨#[]⟩, .string ⟨#[]⟩, .slice none 0 0, .slice none 0 0, .int .i64 0, .string ⟨#[]⟩, .slice none 0 0] 34)).drew from (HB4.out.alloc HB4.out.size _).drew)
   have hg4 : g < w4.heap.size := nL hgl (HWW.out.trans (HB4.out.mono HWW.out.size)).size
   have hw4 : w.heap.size + 1 < w4.heap.size := World.block_lt_of_cell? w4 _ f1
   have hw4' : w.heap.size < w4.heap.size := by omega
   clear hj1 hj2 hj3 hF k3 k4 k5 hjl
   refine cut_region (fun a Y => ∃ fb, a = { tmps := #[.agg #[.slice (some ⟨g, o, none⟩) m c], .int .i64 (k : Int), .pointer (some ⟨w.heap.size, 0, none⟩), undef, .bool false, .pointer (some ⟨w.heap.size + 1, 0, none⟩), .slice A8 my c8, .pointer (some ⟨fb, 0, none⟩), .pointer (some ⟨w.heap.size, 0, none⟩), .slice (some ⟨g, o, none⟩) m c, .int .i64 (k : Int), .pointer (some ⟨g, o + k * 7, none⟩), .agg #[.string r0.name, .string r0.con, .slice A1 r0.vars.length c1, .slice A2 r0.params.length c2, .int .i64 r0.body.kind, .string r0.body.name, .slice A3 q3 c3], .slice (some ⟨W0.heap.size, 0, none⟩) 0 0, .pointer (some ⟨w.heap.size + 1, 2, none⟩), .slice A1 r0.vars.length c1, v7, .pointer (some ⟨w.heap.size + 1, 3, none⟩), .slice A2 r0.params.length c2, .slice A8 my c8, .agg #[.string r0.name, .string r0.con, .slice A1 r0.vars.length c1, .slice A2 r0.params.length c2, .int .i64 r0.body.kind, .string r0.body.name, .slice A3 q3 c3], .bool true, .bool false, .bool false, .agg #[.slice (some ⟨g, o, none⟩) m c], .pointer (some ⟨w.heap.size + 1, 4, none⟩), .agg #[.int .i64 r0.body.kind, .string r0.body.name, .slice A3 q3 c3], .bool true, .bool false, .bool false, .bool false, .pointer (some ⟨w.heap.size + 1, 4, none⟩), .agg #[.int .i64 r0.body.kind, .string r0.body.name, .slice A3 q3 c3], .slice AV (exVars [] r0.body).length cv, .slice A8 my c8, .bool true, .bool false, .bool false, .bool false, .agg #[.slice (some ⟨g, o, none⟩) m c], .pointer (some ⟨w.heap.size + 1, 0, none⟩), .string r0.name, .pointer (some ⟨w.heap.size + 1, 1, none⟩), .string r0.con, .int .i64 (k : Int), .int .i64 (k : Int), .bool false, .bool false, .pointer (some ⟨w.heap.size, 0, none⟩), .slice (some ⟨g, o, none⟩) m c, .agg #[.slice (some ⟨g, o, none⟩) m c], .pointer (some ⟨w.heap.size + 1, 0, none⟩), .string r0.name, .int .i64 (j : Int), .pointer (some ⟨g, o + j * 7, none⟩), .agg #[.string f.name, .string f.con, .slice F1 f.vars.length g1, .slice F2 f.params.length g2, .int .i64 f.body.kind, .string f.body.name, .slice F3 q5 g3], undef, undef, undef, undef, undef, undef, undef, undef, undef, undef, undef, undef, undef, undef, undef, undef, undef, undef, undef, undef, undef, undef, undef, undef, undef, undef, undef, undef, undef, undef, undef], defers := [] } ∧ Y.cell? ⟨fb, 1, none⟩ = some (.string f.con) ∧ Y.cell? ⟨fb, 3, none⟩ = some (.slice F2 f.params.length g2) ∧ Below W.heap.size W Y) ?_ ?_
   · go_region_law
      (first
      | (go_simp; go_at_call 44; (with_reducible refine (HFIRST.out w4.drew HD4.out).mono ?_); rintro e w5 ⟨rfl, hb5⟩; have HB5 := zH (HD4.out.trans (hb5.mono HD4.out.size)); clear hb5; obtain ⟨h0, h1, h2, h3, h4, h5, h6, h7⟩ := HCL.out w5 HB5.out; obtain ⟨i0, i1, i2, i3, i4, i5, i6⟩ := HCF.out w5 HB5.out; have hg5 : g < w5.heap.size := nL hgl (HWW.out.trans (HB5.out.mono HWW.out.size)).size; have hw5 : w.heap.size + 1 < w5.heap.size := World.block_lt_of_cell? w5 _ h1; have hw6 : w.heap.size < w5.heap.size := by omega)
      | (go_simp; go_at_call 44; (with_reducible refine (HFIRST.out _ HD5.out).mono ?_); rintro e w5 ⟨rfl, hb5⟩; obtain ⟨p0, p1, p2, p3, p4, p5, p6, q0, q1, q2, q3', q4, q5', q6, pl⟩ := zero_box hb5; have HB5 := zH (HD5.out.trans (hb5.mono HD5.out.size)); clear hb5; obtain ⟨h0, h1, h2, h3, h4, h5, h6, h7⟩ := HCL.out w5 HB5.out; obtain ⟨i0, i1, i2, i3, i4, i5, i6⟩ := HCF.out w5 HB5.out; have hg5 : g < w5.heap.size := nL hgl (HWW.out.trans (HB5.out.mono HWW.out.size)).size; have hw5 : w.heap.size + 1 < w5.heap.size := World.block_lt_of_cell? w5 _ h1; have hw6 : w.heap.size < w5.heap.size := by omega))
     all_goals
      refine ⟨_, rfl, ?_⟩
      first
      | (with_reducible exact fin_new HB5.out)
      | (with_reducible exact fin_old p1 p3 HB4.out.size HB5.out)
   rintro _ Y ⟨fb, rfl, hf1, hf3, hY⟩
   have HE0 := HE
   have HLY := zH (HWW.out.trans (hY.mono HWW.out.size))
   obtain ⟨y0, y1, y2, y3, y4, y5, y6, y7⟩ := HCL.out Y hY
   have s0 := fun d os => cell_regrown hf1 d os
   have s1 := fun d os => cell_regrown hf3 d os
   have s2 := fun d os => cell_regrown y0 d os
   have s3 := fun d os => cell_regrown y2 d os
   have s4 := fun d os => cell_regrown y3 d os
   have s5 := fun d os => cell_regrown y4 d os
   have cA := fun d os => Calls.regrown_of ((conr_any l _ bs r0.con (grow (redrawn Y d) os) (HV.out.below (HLY.out.trans ((below_regrown Y d os).mono HLY.out.size))) HZ.out).mono (fun e w' h => h))
   clear hY HE
   by_cases hfc : f.con.size = 0
   · have hbf := empty_yes hfc
     by_cases hrc : r0.con.size = 0
     · have hbr := empty_yes hrc
       by_cases hpe : f.params.length = r0.params.length
       · have hpi : ((f.params.length : Int) == (r0.params.length : Int)) = true := by simp [hpe]
         have HE := zH (show ruleOk l k r0 = true by rw [HE0.out, HSA.out, decide_eq_true hfc, decide_eq_true hrc, decide_eq_true hpe]; simp)
         go_wp2_with fail
         refine wp_region_quiet_below (by kernel_rfl) (by kernel_rfl) ?_
         repeat (go_big_quiet_step (exact cA _ _))
         refine wpQuiet_nil ?_
         intro _ hw'
         obtain ⟨⟨dq, osq⟩, hw''⟩ := hw'
         subst hw''
         have hlo := HLY.out.trans ((below_regrown Y dq osq).mono HLY.out.size)
         go_wp2
         go_ret
         exact ⟨by rw [HE.out]; rfl, hlo⟩
       have hpi : ((f.params.length : Int) == (r0.params.length : Int)) = false := by simp; omega
       have HE := zH (show ruleOk l k r0 = false by rw [HE0.out, HSA.out, decide_eq_false hpe]; simp)
       go_wp2_with fail
       refine wp_region_quiet_below (by kernel_rfl) (by kernel_rfl) ?_
       repeat (go_big_quiet_step (exact cA _ _))
       refine wpQuiet_nil ?_
       intro _ hw'
       obtain ⟨⟨dq, osq⟩, hw''⟩ := hw'
       subst hw''
       have hlo := HLY.out.trans ((below_regrown Y dq osq).mono HLY.out.size)
       go_wp2
       go_ret
       exact ⟨by rw [HE.out]; rfl, hlo⟩
     have hbr := empty_not hrc
     have HE := zH (show ruleOk l k r0 = false by rw [HE0.out, HSA.out, decide_eq_true hfc, decide_eq_false hrc]; simp)
     go_wp2_with fail
     refine wp_region_quiet_below (by kernel_rfl) (by kernel_rfl) ?_
     repeat (go_big_quiet_step (exact cA _ _))
     refine wpQuiet_nil ?_
     intro _ hw'
     obtain ⟨⟨dq, osq⟩, hw''⟩ := hw'
     subst hw''
     have hlo := HLY.out.trans ((below_regrown Y dq osq).mono HLY.out.size)
     go_wp2
     go_ret
     exact ⟨by rw [HE.out]; rfl, hlo⟩
   have hbf := empty_not hfc
   by_cases hrc : r0.con.size = 0
   · have hbr := empty_yes hrc
     have HE := zH (show ruleOk l k r0 = false by rw [HE0.out, HSA.out, decide_eq_false hfc, decide_eq_true hrc]; simp)
     go_wp2_with fail
     refine wp_region_quiet_below (by kernel_rfl) (by kernel_rfl) ?_
     repeat (go_big_quiet_step (exact cA _ _))
     refine wpQuiet_nil ?_
     intro _ hw'
     obtain ⟨⟨dq, osq⟩, hw''⟩ := hw'
     subst hw''
     have hlo := HLY.out.trans ((below_regrown Y dq osq).mono HLY.out.size)
     go_wp2
     go_ret
     exact ⟨by rw [HE.out]; rfl, hlo⟩
   have hbr := empty_not hrc
   by_cases hpe : f.params.length = r0.params.length
   · have hpi : ((f.params.length : Int) == (r0.params.length : Int)) = true := by simp [hpe]
     by_cases hce : conR r0.con l = (r0.vars.length : Int)
     · have hci : (conR r0.con l == (r0.vars.length : Int)) = true := by simp [hce]
       have HE := zH (show ruleOk l k r0 = true by rw [HE0.out, HSA.out, decide_eq_false hfc, decide_eq_false hrc, decide_eq_true hpe, decide_eq_true hce]; simp)
       go_wp2_with fail
       refine wp_region_quiet_below (by kernel_rfl) (by kernel_rfl) ?_
       repeat (go_big_quiet_step (exact cA _ _))
       refine wpQuiet_nil ?_
       intro _ hw'
       obtain ⟨⟨dq, osq⟩, hw''⟩ := hw'
       subst hw''
       have hlo := HLY.out.trans ((below_regrown Y dq osq).mono HLY.out.size)
       go_wp2
       go_ret
       exact ⟨by rw [HE.out]; rfl, hlo⟩
     have hci : (conR r0.con l == (r0.vars.length : Int)) = false := by simp [hce]
     have HE := zH (show ruleOk l k r0 = false by rw [HE0.out, HSA.out, decide_eq_false hrc, decide_eq_false hce]; simp)
     go_wp2_with fail
     refine wp_region_quiet_below (by kernel_rfl) (by kernel_rfl) ?_
     repeat (go_big_quiet_step (exact cA _ _))
     refine wpQuiet_nil ?_
     intro _ hw'
     obtain ⟨⟨dq, osq⟩, hw''⟩ := hw'
     subst hw''
     have hlo := HLY.out.trans ((below_regrown Y dq osq).mono HLY.out.size)
     go_wp2
     go_ret
     exact ⟨by rw [HE.out]; rfl, hlo⟩
   have hpi : ((f.params.length : Int) == (r0.params.length : Int)) = false := by simp; omega
   have HE := zH (show ruleOk l k r0 = false by rw [HE0.out, HSA.out, decide_eq_false hpe]; simp)
   go_wp2_with fail
   refine wp_region_quiet_below (by kernel_rfl) (by kernel_rfl) ?_
   repeat (go_big_quiet_step (exact cA _ _))
   refine wpQuiet_nil ?_
   intro _ hw'
   obtain ⟨⟨dq, osq⟩, hw''⟩ := hw'
   subst hw''
   have hlo := HLY.out.trans ((below_regrown Y dq osq).mono HLY.out.size)
   go_wp2
   go_ret
   exact ⟨by rw [HE.out]; rfl, hlo⟩
 have hne : (findR l r0.name r0.con != (k : Int)) = true := by simp [hfi]
 have HE := zH (show ruleOk l k r0 = false by rw [HR.out, hh, hf, hw, decide_eq_false hfi]; simp)
 clear hh hf hw hfi
 go_wp2_with (first | (go_at_call 53; refine HHEAD.out.mono ?_; rintro e w1 ⟨rfl, hb1⟩; rw [HHD.out]; have HB1 := zH hb1; clear hb1; obtain ⟨a0, a1, a2, a3, a4, a5, a6, a7⟩ := HCL.out w1 HB1.out) | (go_at_call 17; refine (HFOR.out w1 HB1.out).mono ?_; rintro e w2 ⟨rfl, hb2⟩; rw [HFO.out]; have HB2 := zH (HB1.out.trans (hb2.mono HB1.out.size)); clear hb2; obtain ⟨d0, d1, d2, d3, d4, d5, d6, d7⟩ := HCL.out w2 HB2.out) | (go_at_call 55; refine (HVARS.out w2 HB2.out).mono ?_; rintro e w3 ⟨vv, rfl, hov, hb3⟩; obtain ⟨AV, cv, rfl, hsv⟩ := hov.shape; have HB3 := zH (HB2.out.trans (hb3.mono HB2.out.size)); have HSV := zH hsv; clear hb3 hov hsv; obtain ⟨e0, e1, e2, e3, e4, e5, e6, e7⟩ := HCL.out w3 HB3.out) | (go_at_call 54; refine (HWITH.out w3 HB3.out AV cv HSV.out).mono ?_; rintro e w3b ⟨rfl, rfl⟩; rw [HWI.out]) | (go_at_call 18; refine (HFIND.out w3 HB3.out).mono ?_; rintro e w4 ⟨rfl, hb4⟩; have HB4 := zH (HB3.out.trans (hb4.mono HB3.out.size)); clear hb4; obtain ⟨f0, f1, f2, f3, f4, f5, f6, f7⟩ := HCL.out w4 HB4.out))
 go_ret
 exact ⟨by rw [HE.out]; rfl, HWW.out.trans (HB4.out.mono HWW.out.size)⟩
end Go.Proofs.YtiaknfnhmoinpaaGreat
