/- A part of the proof of the seat's statement: RuCon. Condition: as each says. -/
import Derived.Test.YthljhiklpopmgaaGreatDoorRuNames
import Derived.Test.YthljhiklpopmgaaGreatDoorBack
import Derived.Test.YthljhiklpopmgaaGreatDoorRegionBelow
import Derived.Test.YthljhiklpopmgaaGreatDoorOwnsL
set_option maxHeartbeats 8000000
namespace Go.Proofs.YthljhiklpopmgaaGreatDoor
open Go Go.RowKit
theorem empty_len (s : ByteArray) : s.toList.length = s.size := by rw [ByteArray.toList_eq]; rfl
theorem empty_yes {s : ByteArray} (h : s.size = 0) : s.toList.isEmpty = true := by
 rw [List.isEmpty_iff]
 exact List.eq_nil_of_length_eq_zero (by rw [empty_len, h])
theorem empty_not {s : ByteArray} (h : ¬ s.size = 0) : s.toList.isEmpty = false := by
 rw [Bool.eq_false_iff]
 intro e
 rw [List.isEmpty_iff] at e
 exact h (by rw [← empty_len, e]; rfl)
theorem his_slice0 {W : World} {e : Ex} {u : Value} {b : List Nat} (h : ExIs W (.agg #[.int .i64 e.kind, .string e.name, u]) e b) : ∃ A m c, u = .slice A m c := by
 obtain ⟨u2, e1, -, hs⟩ := h
 obtain ⟨A, c, e2, -⟩ := hs
 simp at e1
 rw [e1, e2]
 exact ⟨_, _, _, rfl⟩
def kindS (c : ByteArray) : Int := if c.size = 0 then 1 else 2
def arityS (c : ByteArray) (q : Nat) : Int := (q : Int) + (if c.size = 0 then 0 else 1)
theorem flat_kind (nm con s : ByteArray) (A1 A2 A3 : Option Addr) (m1 k1 m2 k2 m3 k3 : Nat) (z : Int) (w : World) : Calls Tryz.prog 82 #[.agg #[.string nm, .string con, .slice A1 m1 k1, .slice A2 m2 k2, .int .i64 z, .string s, .slice A3 m3 k3]] w (RetPost (.int .i64 (kindS con)) w) := by
 by_cases hc : con.size = 0
 · have HE := zH (show kindS con = 1 by unfold kindS; rw [if_pos hc])
   have hbe := empty_yes hc
   clear hc
   go_enter Tryz.func82, Tryz.ntmps82
   go_wp2_with fail
   go_ret
   exact ⟨by rw [HE.out]; rfl, (Below.refl _ w).alloc (Nat.le_refl _) _⟩
 have HE := zH (show kindS con = 2 by unfold kindS; rw [if_neg hc])
 have hbe := empty_not hc
 clear hc
 go_enter Tryz.func82, Tryz.ntmps82
 go_wp2_with fail
 go_ret
 exact ⟨by rw [HE.out]; rfl, (Below.refl _ w).alloc (Nat.le_refl _) _⟩
theorem flat_arity (nm con s : ByteArray) (A1 A2 A3 : Option Addr) (m1 k1 q k2 m3 k3 : Nat) (z : Int) (w : World) (hn : q ≤ 1099511627776) : Calls Tryz.prog 143 #[.agg #[.string nm, .string con, .slice A1 m1 k1, .slice A2 q k2, .int .i64 z, .string s, .slice A3 m3 k3]] w (RetPost (.int .i64 (arityS con q)) w) := by
 obtain ⟨W0, hW0⟩ : ∃ W0, W0 = w.alloc (.cells #[.string nm, .string con, .slice A1 m1 k1, .slice A2 q k2, .int .i64 z, .string s, .slice A3 m3 k3] 36) := ⟨_, rfl⟩
 have hbx : Below w.heap.size w W0 := by rw [hW0]; exact (Below.refl _ w).alloc (Nat.le_refl _) _
 have HB0 := zH hbx
 have HC := zH (flat_kind nm con s A1 A2 A3 m1 k1 q k2 m3 k3 z W0)
 have HBX := zH (fun (W : World) (hb : Below W0.heap.size W0 W) => show W.cell? ⟨w.heap.size, 3, none⟩ = some (.slice A2 q k2) from by
  have h9 : W.heap[w.heap.size]? = some (.cells #[.string nm, .string con, .slice A1 m1 k1, .slice A2 q k2, .int .i64 z, .string s, .slice A3 m3 k3] 36 (0, 0)) := by
   rw [hW0] at hb
   exact (hb.block _ (by simp)).trans (heap_alloc_new w _)
  simp [World.cell?, h9])
 have hpl : (q : Int) ≤ 1099511627776 := by omega
 by_cases hc : con.size = 0
 · have HE := zH (show arityS con q = (q : Int) by unfold arityS; rw [if_pos hc]; omega)
   have HK := zH (show kindS con = 1 by unfold kindS; rw [if_pos hc])
   clear hc hbx
   go_enter Tryz.func143, Tryz.ntmps143
   go_wp2_with (rw [← hW0]; go_at_call 82; refine HC.out.mono ?_; rintro e w1 ⟨rfl, hb1⟩; have hcl := HBX.out w1 hb1; have HB1 := zH (HB0.out.trans (hb1.mono HB0.out.size)); clear hb1; rw [HK.out])
   go_ret
   exact ⟨by rw [HE.out]; rfl, HB1.out⟩
 have HE := zH (show arityS con q = (q : Int) + 1 by unfold arityS; rw [if_neg hc])
 have HK := zH (show kindS con = 2 by unfold kindS; rw [if_neg hc])
 clear hc hbx
 go_enter Tryz.func143, Tryz.ntmps143
 go_wp2_with (rw [← hW0]; go_at_call 82; refine HC.out.mono ?_; rintro e w1 ⟨rfl, hb1⟩; have hcl := HBX.out w1 hb1; have HB1 := zH (HB0.out.trans (hb1.mono HB0.out.size)); clear hb1; rw [HK.out])
 go_ret
 exact ⟨by rw [HE.out]; rfl, HB1.out⟩
def isCn (s : ByteArray) : Bool := nameL 65 90 s.data.toList
def headOk (r : Ru) : Bool := (if r.con.size = 0 then decide (r.vars.length = 0) else isCn r.con) && (isNm r.name && (decide (r.vars.length ≤ 5) && (decide (r.params.length ≤ 4) && (distinct (r.vars ++ r.params) && allNm (r.vars ++ r.params)))))
theorem cut_region {P : Program} {c : Code} {K : Act → World → Prop} {Q : Exit → Act → World → Prop} {a : Act} {w : World} (R : Act → World → Prop) (h : c.wp P (onlyA R) a w) (hK : ∀ a W, R a W → K a W) : c.wp P (Exit.then K Q) a w :=
 wpIn_wide.1 (wpIn_mono (wpIn_wide.2 h : c.wpIn Fence.wide 0 P (onlyA R) a w) (fun e a W hq => by
  cases e with
  | normal => exact hK a W hq
  | exit id => exact hq.elim
  | goto t => exact hq.elim
  | ret => exact hq.elim
  | panic c => exact hq.elim
  | outgrown => exact hq.elim))
theorem owns_empty (W0 : World) : OwnsL W0.heap.size (W0.alloc (.cells #[] 9)).drew (.slice (some ⟨W0.heap.size, 0, none⟩) 0 0) [] :=
 World.ownsRow_lit W0 #[] 0 (Nat.le_refl _) (by unfold maxLen; omega) rfl
theorem old_cell {W0 W w2 : World} {v : Value} {xs : List ByteArray} {B o : Nat} {u : Value} (hb : Below W0.heap.size W0 W) (ho : OwnsL W0.heap.size W v xs) (hg : W.grownBy w2 v.ownBlock) (hB : B < W0.heap.size) (hc : W0.cell? ⟨B, o, none⟩ = some u) : w2.cell? ⟨B, o, none⟩ = some u :=
 ((OwnsL.grown hb ho hg).cell (p := ⟨B, o, none⟩) hB).trans hc
theorem drewN_low {n : Nat} {w W : World} (h : Below n w W) (q : Nat) : Below n w (W.drewN q) := ⟨h.os, h.tape, h.output, h.size, h.block⟩
theorem tot_mem {xs : List ByteArray} {x : ByteArray} (h : x ∈ xs) : x.size ≤ totN xs := by
 unfold totN
 induction xs with
 | nil => cases h
 | cons y t ih =>
  rw [List.map_cons, List.sum_cons]
  rcases List.mem_cons.1 h with rfl | h
  · omega
  have := ih h; omega
set_option maxRecDepth 100000 in
theorem head_any (r : Ru) (v : Value) (b : List Nat) (w : World) (hv : RuIs w v r b) (hz : ruTot r ≤ 1048576) :
 Calls Tryz.prog 19 #[v] w (RetPost (.bool (headOk r)) w) := by
 obtain ⟨v1, v2, u, b1, b2, b3, rfl, h1, h2, rfl, h3, h4, h5⟩ := hv
 obtain ⟨A1, c1, rfl⟩ := h3.slice
 obtain ⟨A2, c2, rfl⟩ := h4.slice
 obtain ⟨A3, q3, c3, rfl⟩ := his_slice0 h5
 obtain ⟨-, hc1, hc2, hs1, -⟩ := h3.strs
 obtain ⟨-, hc3, hc4, hs2, -⟩ := h4.strs
 have hl : r.vars.length ≤ 1048576 ∧ r.params.length ≤ 1048576 := by unfold ruTot ssTot at hz; omega
 go_enter Tryz.func19, Tryz.ntmps19
 go_wp2_with fail
 obtain ⟨W0, hW0⟩ : ∃ W0, W0 = w.alloc (.cells #[.string r.name, .string r.con, .slice A1 r.vars.length c1, .slice A2 r.params.length c2, .int .i64 r.body.kind, .string r.body.name, .slice A3 q3 c3] 36) := ⟨_, rfl⟩
 rw [← hW0]
 have hbx : W0.heap[w.heap.size]? = some (.cells #[.string r.name, .string r.con, .slice A1 r.vars.length c1, .slice A2 r.params.length c2, .int .i64 r.body.kind, .string r.body.name, .slice A3 q3 c3] 36 (0, 0)) := by rw [hW0]; exact World.alloc_heap_new w _
 have x2 : W0.cell? ⟨w.heap.size, 2, none⟩ = some (.slice A1 r.vars.length c1) := by simp [World.cell?, hbx]
 have x3 : W0.cell? ⟨w.heap.size, 3, none⟩ = some (.slice A2 r.params.length c2) := by simp [World.cell?, hbx]
 have xl : w.heap.size < W0.heap.size := (Array.getElem?_eq_some_iff.1 hbx).1
 have hlow : Below w.heap.size w W0 := by rw [hW0]; exact (Below.refl _ w).alloc (Nat.le_refl _) _
 have HLW := zH hlow
 have HBX := zH hbx
 have HX3 := zH x3
 have HXL := zH xl
 have HL := zH hl
 have HO0 := zH (owns_empty W0)
 have HB0 := zH (((Below.refl W0.heap.size W0).alloc (Nat.le_refl _) (.cells #[] 9)).drew)
 have HS1 := zH (fun (Y : World) (hY : Below W0.heap.size W0 Y) => (hs1.below hlow).below hY)
 have HS2 := zH (fun (Y : World) (hY : Below W0.heap.size W0 Y) => (hs2.below hlow).below hY)
 have HZ := zH hz
 clear hW0 hbx hlow hl hs1 hs2 h3 h4 h5 hz
 refine cut_region (fun a W => ∃ v7 v8, a = { tmps := #[.agg #[.string r.name, .string r.con, .slice A1 r.vars.length c1, .slice A2 r.params.length c2, .int .i64 r.body.kind, .string r.body.name, .slice A3 q3 c3], .pointer (some ⟨w.heap.size, 0, none⟩), .bool false, v8, .slice (some ⟨W0.heap.size, 0, none⟩) 0 0, .pointer (some ⟨w.heap.size, 2, none⟩), .slice A1 r.vars.length c1, v7, .pointer (some ⟨w.heap.size, 3, none⟩), .slice A2 r.params.length c2, v8, undef, undef, undef, undef, undef, undef, undef, undef, undef, undef, undef, undef, undef, undef, undef, undef, undef, undef, undef, undef, undef, undef, undef, undef, undef, undef, undef, undef, undef, undef, undef, undef, undef, undef, undef, undef, undef, undef, undef, undef, undef, undef, undef], defers := [] } ∧ OwnsL W0.heap.size W v8 (r.vars ++ r.params) ∧ Below W0.heap.size W0 W) ?_ ?_
 · go_region_law
    (first
    | (refine step_append_strs (by rfl) (.tmp 4) (.tmp 6) (by rfl) W0.heap.size (.slice (some ⟨W0.heap.size, 0, none⟩) 0 0) [] (by rfl) HO0.out A1 r.vars c1 (by rfl) (HS1.out _ HB0.out) (by have := HL.out; simp; omega) HB0.out.size ?_; intro v7 w7 ho7 hg7; have y3 := old_cell HB0.out HO0.out hg7 HXL.out HX3.out; have HB7 := zH (OwnsL.grown HB0.out HO0.out hg7); have HO7 := zH ho7; clear ho7 hg7)
    | (refine step_append_strs (by rfl) (.tmp 7) (.tmp 9) (by rfl) W0.heap.size v7 ([] ++ r.vars) (by rfl) HO7.out A2 r.params c2 (by rfl) (HS2.out _ HB7.out) (by have := HL.out; simp; omega) HB7.out.size ?_; intro v8 w8 ho8 hg8; have HB8 := zH (OwnsL.grown HB7.out HO7.out hg8); have HO8 := zH ho8; clear ho8 hg8))
   all_goals
    exact ⟨v7, v8, rfl, HO8.out, HB8.out⟩
 rintro _ W ⟨v7, v8, rfl, ho, hb⟩
 have hbw : W.heap[w.heap.size]? = some (.cells #[.string r.name, .string r.con, .slice A1 r.vars.length c1, .slice A2 r.params.length c2, .int .i64 r.body.kind, .string r.body.name, .slice A3 q3 c3] 36 (0, 0)) := (hb.block _ HXL.out).trans HBX.out
 have y0 : W.cell? ⟨w.heap.size, 0, none⟩ = some (.string r.name) := by simp [World.cell?, hbw]
 have y1 : W.cell? ⟨w.heap.size, 1, none⟩ = some (.string r.con) := by simp [World.cell?, hbw]
 have y2 : W.cell? ⟨w.heap.size, 2, none⟩ = some (.slice A1 r.vars.length c1) := by simp [World.cell?, hbw]
 have y3 : W.cell? ⟨w.heap.size, 3, none⟩ = some (.slice A2 r.params.length c2) := by simp [World.cell?, hbw]
 obtain ⟨A8, c8, rfl, hst⟩ := ho.shape
 have hc8 : (r.vars ++ r.params).length ≤ c8 ∧ c8 ≤ 9223372036854775807 := by
  rcases ho.2 with ⟨h0, -⟩ | ⟨g, cap, cur, h0, -, -, hn, hmx, -⟩
  · simp only [Value.slice.injEq] at h0; omega
  simp only [Value.slice.injEq] at h0; unfold maxLen at hmx; omega
 have hly : (r.vars ++ r.params).length ≤ 1099511627776 := by have := HL.out; simp; omega
 have HH := zH (show headOk r = ((if r.con.size = 0 then decide (r.vars.length = 0) else isCn r.con) && (isNm r.name && (decide (r.vars.length ≤ 5) && (decide (r.params.length ≤ 4) && (distinct (r.vars ++ r.params) && allNm (r.vars ++ r.params)))))) from rfl)
 have HNS := zH (show r.name.size ≤ 1048576 by have := HZ.out; unfold ruTot at this; omega)
 have HCS := zH (show r.con.size ≤ 1048576 by have := HZ.out; unfold ruTot at this; omega)
 have hys1 : ∀ x ∈ r.vars ++ r.params, x.size ≤ 1048576 := by
  intro x hx
  have h9 := HZ.out
  unfold ruTot ssTot at h9
  rcases List.mem_append.1 hx with hx | hx
  · have := tot_mem hx; omega
  have := tot_mem hx; omega
 have HDC := zH (dist_any A8 (r.vars ++ r.params) c8 W hst hly hc8.1 hc8.2)
 have HNC := zH (fun q => names_any A8 (r.vars ++ r.params) c8 (W.drewN q) (hst.drewN q) hly hys1)
 have HWW := zH (HLW.out.trans (hb.mono HLW.out.size))
 generalize hys : r.vars ++ r.params = ys at *
 generalize hym : ys.length = my at *
 generalize r.vars.length = n1 at *
 generalize r.params.length = n2 at *
 have hn1i : (n1 : Int) ≤ 1048576 := by have := HL.out; omega
 have hn2i : (n2 : Int) ≤ 1048576 := by have := HL.out; omega
 clear ho hb hbw hst hc8 hly hys1 hys hym
 by_cases hcon : r.con.size = 0
 · have hbe := empty_yes hcon
   by_cases hv0 : n1 = 0
   · have hv0i : ¬ (0 : Int) < (n1 : Int) := by omega
     have hv0j : (n1 : Int) ≤ 0 := by omega
     rw [if_pos hcon, decide_eq_true hv0, Bool.true_and] at HH
     cases hnm : isNm r.name
     · have HNM := zH (show nameL 97 122 r.name.data.toList = false from hnm)
       have HE := zH (show headOk r = false by rw [HH.out, hnm]; rfl)
       clear hnm
       go_wp2_with (first | (go_at_call 39; refine (isname_any _ _ HNS.out).mono ?_; rintro e w2 ⟨rfl, rfl⟩; rw [HNM.out]))
       go_ret
       exact ⟨by rw [HE.out]; rfl, HWW.out⟩
     have HNM := zH (show nameL 97 122 r.name.data.toList = true from hnm)
     have h5 : n1 ≤ 5 := by omega
     have h5i : (n1 : Int) ≤ 5 := by omega
     by_cases h4 : n2 ≤ 4
     · have h4i : (n2 : Int) ≤ 4 := by omega
       cases hd : distinct ys
       · have HDI := zH hd
         have HE := zH (show headOk r = false by rw [HH.out, hnm, decide_eq_true h5, decide_eq_true h4, hd]; simp)
         clear hnm
         go_wp2_with (first | (go_at_call 39; refine (isname_any _ _ HNS.out).mono ?_; rintro e w2 ⟨rfl, rfl⟩; rw [HNM.out]) | (go_at_call 40; refine HDC.out.mono ?_; rintro e w2 ⟨rfl, q, rfl⟩; rw [HDI.out]))
         go_ret
         exact ⟨by rw [HE.out]; rfl, (drewN_low HWW.out _)⟩
       have HDI := zH hd
       cases hn : allNm ys
       · have HAN := zH hn
         have HE := zH (show headOk r = false by rw [HH.out, hnm, decide_eq_true h5, decide_eq_true h4, hd, hn]; simp)
         clear hnm
         go_wp2_with (first | (go_at_call 39; refine (isname_any _ _ HNS.out).mono ?_; rintro e w2 ⟨rfl, rfl⟩; rw [HNM.out]) | (go_at_call 40; refine HDC.out.mono ?_; rintro e w2 ⟨rfl, q, rfl⟩; rw [HDI.out]) | (go_at_call 41; refine (HNC.out _).mono ?_; rintro e w2 ⟨rfl, rfl⟩; rw [HAN.out]))
         go_ret
         exact ⟨by rw [HE.out]; rfl, (drewN_low HWW.out _)⟩
       have HAN := zH hn
       have HE := zH (show headOk r = true by rw [HH.out, hnm, decide_eq_true h5, decide_eq_true h4, hd, hn]; simp)
       clear hnm
       go_wp2_with (first | (go_at_call 39; refine (isname_any _ _ HNS.out).mono ?_; rintro e w2 ⟨rfl, rfl⟩; rw [HNM.out]) | (go_at_call 40; refine HDC.out.mono ?_; rintro e w2 ⟨rfl, q, rfl⟩; rw [HDI.out]) | (go_at_call 41; refine (HNC.out _).mono ?_; rintro e w2 ⟨rfl, rfl⟩; rw [HAN.out]))
       go_ret
       exact ⟨by rw [HE.out]; rfl, (drewN_low HWW.out _)⟩
     have h4i : ¬ (n2 : Int) ≤ 4 := by omega
     have h4j : (4 : Int) < (n2 : Int) := by omega
     have HE := zH (show headOk r = false by rw [HH.out, hnm, decide_eq_true h5, decide_eq_false h4]; simp)
     clear hnm
     go_wp2_with (first | (go_at_call 39; refine (isname_any _ _ HNS.out).mono ?_; rintro e w2 ⟨rfl, rfl⟩; rw [HNM.out]))
     go_ret
     exact ⟨by rw [HE.out]; rfl, HWW.out⟩
   have hv0i : (0 : Int) < (n1 : Int) := by omega
   rw [if_pos hcon, decide_eq_false hv0, Bool.false_and] at HH
   go_wp2_with fail
   go_ret
   exact ⟨by rw [HH.out]; rfl, HWW.out⟩
 have hbe := empty_not hcon
 rw [if_neg hcon] at HH
 cases hcn : isCn r.con
 · have HCN := zH (show nameL 65 90 r.con.data.toList = false from hcn)
   rw [hcn, Bool.false_and] at HH
   go_wp2_with (go_at_call 38; refine (iscon_any _ _ HCS.out).mono ?_; rintro e w2 ⟨rfl, rfl⟩; rw [HCN.out])
   go_ret
   exact ⟨by rw [HH.out]; rfl, HWW.out⟩
 have HCN := zH (show nameL 65 90 r.con.data.toList = true from hcn)
 rw [hcn, Bool.true_and] at HH
 cases hnm : isNm r.name
 · have HNM := zH (show nameL 97 122 r.name.data.toList = false from hnm)
   have HE := zH (show headOk r = false by rw [HH.out, hnm]; rfl)
   clear hnm
   go_wp2_with (first | (go_at_call 38; refine (iscon_any _ _ HCS.out).mono ?_; rintro e w2 ⟨rfl, rfl⟩; rw [HCN.out]) | (go_at_call 39; refine (isname_any _ _ HNS.out).mono ?_; rintro e w2 ⟨rfl, rfl⟩; rw [HNM.out]))
   go_ret
   exact ⟨by rw [HE.out]; rfl, HWW.out⟩
 have HNM := zH (show nameL 97 122 r.name.data.toList = true from hnm)
 by_cases h5 : n1 ≤ 5
 · have h5i : (n1 : Int) ≤ 5 := by omega
   by_cases h4 : n2 ≤ 4
   · have h4i : (n2 : Int) ≤ 4 := by omega
     cases hd : distinct ys
     · have HDI := zH hd
       have HE := zH (show headOk r = false by rw [HH.out, hnm, decide_eq_true h5, decide_eq_true h4, hd]; simp)
       clear hnm
       go_wp2_with (first | (go_at_call 38; refine (iscon_any _ _ HCS.out).mono ?_; rintro e w2 ⟨rfl, rfl⟩; rw [HCN.out]) | (go_at_call 39; refine (isname_any _ _ HNS.out).mono ?_; rintro e w2 ⟨rfl, rfl⟩; rw [HNM.out]) | (go_at_call 40; refine HDC.out.mono ?_; rintro e w2 ⟨rfl, q, rfl⟩; rw [HDI.out]))
       go_ret
       exact ⟨by rw [HE.out]; rfl, (drewN_low HWW.out _)⟩
     have HDI := zH hd
     cases hn : allNm ys
     · have HAN := zH hn
       have HE := zH (show headOk r = false by rw [HH.out, hnm, decide_eq_true h5, decide_eq_true h4, hd, hn]; simp)
       clear hnm
       go_wp2_with (first | (go_at_call 38; refine (iscon_any _ _ HCS.out).mono ?_; rintro e w2 ⟨rfl, rfl⟩; rw [HCN.out]) | (go_at_call 39; refine (isname_any _ _ HNS.out).mono ?_; rintro e w2 ⟨rfl, rfl⟩; rw [HNM.out]) | (go_at_call 40; refine HDC.out.mono ?_; rintro e w2 ⟨rfl, q, rfl⟩; rw [HDI.out]) | (go_at_call 41; refine (HNC.out _).mono ?_; rintro e w2 ⟨rfl, rfl⟩; rw [HAN.out]))
       go_ret
       exact ⟨by rw [HE.out]; rfl, (drewN_low HWW.out _)⟩
     have HAN := zH hn
     have HE := zH (show headOk r = true by rw [HH.out, hnm, decide_eq_true h5, decide_eq_true h4, hd, hn]; simp)
     clear hnm
     go_wp2_with (first | (go_at_call 38; refine (iscon_any _ _ HCS.out).mono ?_; rintro e w2 ⟨rfl, rfl⟩; rw [HCN.out]) | (go_at_call 39; refine (isname_any _ _ HNS.out).mono ?_; rintro e w2 ⟨rfl, rfl⟩; rw [HNM.out]) | (go_at_call 40; refine HDC.out.mono ?_; rintro e w2 ⟨rfl, q, rfl⟩; rw [HDI.out]) | (go_at_call 41; refine (HNC.out _).mono ?_; rintro e w2 ⟨rfl, rfl⟩; rw [HAN.out]))
     go_ret
     exact ⟨by rw [HE.out]; rfl, (drewN_low HWW.out _)⟩
   have h4i : ¬ (n2 : Int) ≤ 4 := by omega
   have h4j : (4 : Int) < (n2 : Int) := by omega
   have HE := zH (show headOk r = false by rw [HH.out, hnm, decide_eq_true h5, decide_eq_false h4]; simp)
   clear hnm
   go_wp2_with (first | (go_at_call 38; refine (iscon_any _ _ HCS.out).mono ?_; rintro e w2 ⟨rfl, rfl⟩; rw [HCN.out]) | (go_at_call 39; refine (isname_any _ _ HNS.out).mono ?_; rintro e w2 ⟨rfl, rfl⟩; rw [HNM.out]))
   go_ret
   exact ⟨by rw [HE.out]; rfl, HWW.out⟩
 have h5i : ¬ (n1 : Int) ≤ 5 := by omega
 have h5j : (5 : Int) < (n1 : Int) := by omega
 have HE := zH (show headOk r = false by rw [HH.out, hnm, decide_eq_false h5]; simp)
 clear hnm
 go_wp2_with (first | (go_at_call 38; refine (iscon_any _ _ HCS.out).mono ?_; rintro e w2 ⟨rfl, rfl⟩; rw [HCN.out]) | (go_at_call 39; refine (isname_any _ _ HNS.out).mono ?_; rintro e w2 ⟨rfl, rfl⟩; rw [HNM.out]))
 go_ret
 exact ⟨by rw [HE.out]; rfl, HWW.out⟩
mutual
def conE (c : ByteArray) : Ex → Int
 | .mk k s l => if k = 2 ∧ s = c then (l.length : Int) else conL c l
def conL (c : ByteArray) : List Ex → Int
 | [] => -1
 | e :: r => if 0 ≤ conE c e then conE c e else conL c r
end
def conR (c : ByteArray) : List Ru → Int
 | [] => -1
 | r :: t => if r.con = c ∧ c.size ≠ 0 then (r.vars.length : Int) else if 0 ≤ conE c r.body then conE c r.body else conR c t
theorem conL_le (c : ByteArray) (n : Nat) : (∀ e : Ex, exSize e ≤ n → -1 ≤ conE c e ∧ conE c e ≤ (exSize e : Int)) ∧ (∀ l : List Ex, exSizes l ≤ n → -1 ≤ conL c l ∧ conL c l ≤ (exSizes l : Int)) := by
 induction n with
 | zero =>
  refine ⟨fun e h => by have := exSize_pos e; omega, fun l h => ?_⟩
  cases l with
  | nil => rw [conL]; simp [exSizes]
  | cons e r => rw [exSizes] at h; have := exSize_pos e; omega
 | succ n ih =>
  have hE : ∀ e : Ex, exSize e ≤ n + 1 → -1 ≤ conE c e ∧ conE c e ≤ (exSize e : Int) := by
   intro e h
   cases e with
   | mk k s l =>
    rw [exSize] at h
    have h1 := ih.2 l (by omega)
    have h2 := sizes_len l
    rw [conE, exSize]
    split <;> (push_cast; omega)
  refine ⟨hE, ?_⟩
  intro l
  induction l with
  | nil => intro _; rw [conL]; simp [exSizes]
  | cons e r ihl =>
   intro h
   rw [exSizes] at h
   have h1 := hE e (by omega)
   have h2 := ihl (by omega)
   rw [conL, exSizes]
   split <;> (push_cast; omega)
theorem conE_le (c : ByteArray) (e : Ex) : -1 ≤ conE c e ∧ conE c e ≤ (exSize e : Int) := (conL_le c _).1 e (Nat.le_refl _)
theorem conL_here {c : ByteArray} {l : List Ex} {k : Nat} {e : Ex} (h : l[k]? = some e) : conL c (l.drop k) = if 0 ≤ conE c e then conE c e else conL c (l.drop (k + 1)) := by
 obtain ⟨h1, h2⟩ := List.getElem?_eq_some_iff.1 h
 rw [List.drop_eq_getElem_cons h1, h2, conL]
theorem conR_here {c : ByteArray} {l : List Ru} {k : Nat} {r : Ru} (h : l[k]? = some r) : conR c (l.drop k) = if r.con = c ∧ c.size ≠ 0 then (r.vars.length : Int) else if 0 ≤ conE c r.body then conE c r.body else conR c (l.drop (k + 1)) := by
 obtain ⟨h1, h2⟩ := List.getElem?_eq_some_iff.1 h
 rw [List.drop_eq_getElem_cons h1, h2, conR]
theorem con_ex (c : ByteArray) (n : Nat) : ∀ (e : Ex) (v : Value) (bs : List Nat) (w : World), exSize e ≤ n → ExIs w v e bs → exSize e ≤ 1099511627776 →
 Calls Tryz.prog 97 #[v, .string c] w (RetPost (.int .i64 (conE c e)) w) := by
 induction n with
 | zero => intro e v bs w h; have := exSize_pos e; omega
 | succ n ih =>
  intro e v bs w hle hv hb
  obtain ⟨u, rfl, hsz, hu⟩ := hv
  obtain ⟨A, q, rfl, hc1, hc2, -⟩ := id hu
  cases e with
  | mk K S L =>
  simp only [Ex.kind, Ex.name, Ex.args] at *
  have HE0 := zH (show conE c (.mk K S L) = if K = 2 ∧ S = c then (L.length : Int) else conL c L by rw [conE])
  rw [exSize] at hle hb
  have hll := sizes_len L
  obtain ⟨m, hm⟩ : ∃ m, m = L.length := ⟨_, rfl⟩
  have HU := zH hu
  rw [← hm] at hc1 HE0 HU hll ⊢
  have HM := zH hm
  have HN := zH hle
  have HIH := zH ih
  have HBD := zH hb
  have HB0 := zH ((Below.refl w.heap.size w).alloc (Nat.le_refl _) (.cells #[.int .i64 K, .string S, .slice A m q] 34))
  have HBX := zH (box_cells2 w K S (.slice A m q))
  clear hu hm ih hle
  by_cases hk2 : K = 2 ∧ S = c
  · have HE := zH (show conE c (.mk K S L) = (m : Int) by rw [HE0.out, if_pos hk2])
    have hbe := beq_yes hk2.2
    obtain ⟨rfl, -⟩ := hk2
    go_enter Tryz.func97, Tryz.ntmps97
    go_wp2_with fail
    go_ret
    exact ⟨by rw [HE.out]; rfl, HB0.out⟩
  have HE := zH (show conE c (.mk K S L) = conL c (L.drop 0) by rw [HE0.out, if_neg hk2]; rfl)
  have hmm : m ≤ 1099511627776 := by omega
  have key : ∀ (Q : Prop), (K = 2 → (S.toList == c.toList) = false → Q) → ((K == 2) = false → Q) → Q := fun Q h1 h2 => by
   by_cases hK : K = 2
   · exact h1 hK (beq_no (fun hh => hk2 ⟨hK, hh⟩))
   exact h2 (by simpa using hK)
  clear hk2 hb hll
  refine key _ (fun hK hbe => ?_) (fun hK => ?_)
  · clear key
    subst hK
    go_enter Tryz.func97, Tryz.ntmps97
    go_wp2_with fail
    go_loopw [5] (fun i wr => ∃ (k : Nat), k ≤ m ∧ i = .int .i64 (k : Int) ∧ Hid (conE c (.mk 2 S L) = conL c (L.drop k)) ∧ Hid (Below (w.alloc (.cells #[.int .i64 2, .string S, .slice A m q] 34)).heap.size (w.alloc (.cells #[.int .i64 2, .string S, .slice A m q] 34)) wr)) (fun i _ => m - (intOf i).toNat)
    case atStart => exact ⟨0, Nat.zero_le _, rfl, HE, zH (Below.refl _ _)⟩
    case round =>
     obtain ⟨k, hk, rfl, HK, HB⟩ := hrel
     obtain ⟨x0, x1, x2⟩ := HBX.out wr HB.out
     have HL := zH (HB0.out.trans (HB.out.mono HB0.out.size))
     by_cases hlt : k < m
     · obtain ⟨g, o, e1, u, b1, rfl, hbl, hget, hmem, c0, c1, c2, his, -⟩ := (HU.out.below HL.out).get k (by rw [← HM.out]; exact hlt)
       have hsm := exSizes_mem hmem
       have HCALL := zH (HIH.out e1 _ b1 wr (by have := HN.out; omega) his (by have := HBD.out; omega))
       have HG := zH (conL_here (c := c) hget)
       have hcb := conE_le c e1
       have hcs : (exSize e1 : Int) ≤ 1099511627776 := by have := HBD.out; omega
       clear his hget hmem hsm
       generalize conE c e1 = z at *
       by_cases hz : 0 ≤ z
       · have HE2 := zH (show conE c (.mk 2 S L) = z by rw [HK.out, HG.out, if_pos hz])
         go_wp2_with (go_at_call 97; refine HCALL.out.mono ?_; rintro r w1 ⟨rfl, hb1⟩; have HB1 := zH (HB.out.trans (hb1.mono HB.out.size)); clear hb1)
         go_ret
         exact ⟨by rw [HE2.out]; rfl, HB0.out.trans (HB1.out.mono HB0.out.size)⟩
       have HE2 := zH (show conE c (.mk 2 S L) = conL c (L.drop (k + 1)) by rw [HK.out, HG.out, if_neg hz])
       go_wp2_with (go_at_call 97; refine HCALL.out.mono ?_; rintro r w1 ⟨rfl, hb1⟩; have HB1 := zH (HB.out.trans (hb1.mono HB.out.size)); clear hb1)
       go_roundw
       case rel => exact ⟨k + 1, by omega, by go_num, HE2, HB1⟩
       case measure => simp [intOf]; omega
     have HE2 := zH (show conE c (.mk 2 S L) = -1 by rw [HK.out, List.drop_eq_nil_of_le (by rw [← HM.out]; omega)]; rfl)
     go_wp2_with fail
     go_ret
     exact ⟨by rw [HE2.out]; rfl, HL.out⟩
  clear key
  go_enter Tryz.func97, Tryz.ntmps97
  go_wp2_with fail
  go_loopw [5] (fun i wr => ∃ (k : Nat), k ≤ m ∧ i = .int .i64 (k : Int) ∧ Hid (conE c (.mk K S L) = conL c (L.drop k)) ∧ Hid (Below (w.alloc (.cells #[.int .i64 K, .string S, .slice A m q] 34)).heap.size (w.alloc (.cells #[.int .i64 K, .string S, .slice A m q] 34)) wr)) (fun i _ => m - (intOf i).toNat)
  case atStart => exact ⟨0, Nat.zero_le _, rfl, HE, zH (Below.refl _ _)⟩
  case round =>
   obtain ⟨k, hk, rfl, HK, HB⟩ := hrel
   obtain ⟨x0, x1, x2⟩ := HBX.out wr HB.out
   have HL := zH (HB0.out.trans (HB.out.mono HB0.out.size))
   by_cases hlt : k < m
   · obtain ⟨g, o, e1, u, b1, rfl, hbl, hget, hmem, c0, c1, c2, his, -⟩ := (HU.out.below HL.out).get k (by rw [← HM.out]; exact hlt)
     have hsm := exSizes_mem hmem
     have HCALL := zH (HIH.out e1 _ b1 wr (by have := HN.out; omega) his (by have := HBD.out; omega))
     have HG := zH (conL_here (c := c) hget)
     have hcb := conE_le c e1
     have hcs : (exSize e1 : Int) ≤ 1099511627776 := by have := HBD.out; omega
     clear his hget hmem hsm
     generalize conE c e1 = z at *
     by_cases hz : 0 ≤ z
     · have HE2 := zH (show conE c (.mk K S L) = z by rw [HK.out, HG.out, if_pos hz])
       go_wp2_with (go_at_call 97; refine HCALL.out.mono ?_; rintro r w1 ⟨rfl, hb1⟩; have HB1 := zH (HB.out.trans (hb1.mono HB.out.size)); clear hb1)
       go_ret
       exact ⟨by rw [HE2.out]; rfl, HB0.out.trans (HB1.out.mono HB0.out.size)⟩
     have HE2 := zH (show conE c (.mk K S L) = conL c (L.drop (k + 1)) by rw [HK.out, HG.out, if_neg hz])
     go_wp2_with (go_at_call 97; refine HCALL.out.mono ?_; rintro r w1 ⟨rfl, hb1⟩; have HB1 := zH (HB.out.trans (hb1.mono HB.out.size)); clear hb1)
     go_roundw
     case rel => exact ⟨k + 1, by omega, by go_num, HE2, HB1⟩
     case measure => simp [intOf]; omega
   have HE2 := zH (show conE c (.mk K S L) = -1 by rw [HK.out, List.drop_eq_nil_of_le (by rw [← HM.out]; omega)]; rfl)
   go_wp2_with fail
   go_ret
   exact ⟨by rw [HE2.out]; rfl, HL.out⟩
set_option maxRecDepth 100000 in
theorem conr_any (l : List Ru) (v : Value) (bs : List Nat) (c : ByteArray) (w : World) (hv : PrIs w v l bs) (hn : rusTot l ≤ 1048576) :
 Calls Tryz.prog 72 #[v, .string c] w (RetPost (.int .i64 (conR c l)) w) := by
 have hll := rusTot_ge l
 obtain ⟨u, rfl, hu⟩ := hv
 obtain ⟨A, q, rfl, hc1, hc2, -⟩ := id hu
 obtain ⟨m, hm⟩ : ∃ m, m = l.length := ⟨_, rfl⟩
 have HU := zH hu
 rw [← hm] at hc1 HU hll ⊢
 have HM := zH hm
 have HB0 := zH ((Below.refl w.heap.size w).alloc (Nat.le_refl _) (.cells #[.slice A m q] 24))
 have HBX := zH (fun (W : World) (h : Below (w.alloc (.cells #[.slice A m q] 24)).heap.size (w.alloc (.cells #[.slice A m q] 24)) W) => pbox h)
 have HE := zH (show conR c l = conR c (l.drop 0) from rfl)
 have HS := zH hn
 clear hu hm
 go_enter Tryz.func72, Tryz.ntmps72
 go_wp2_with fail
 go_loopw [5] (fun i wr => ∃ (k : Nat), k ≤ m ∧ i = .int .i64 (k : Int) ∧ Hid (conR c l = conR c (l.drop k)) ∧ Hid (Below (w.alloc (.cells #[.slice A m q] 24)).heap.size (w.alloc (.cells #[.slice A m q] 24)) wr)) (fun i _ => m - (intOf i).toNat)
 case atStart => exact ⟨0, Nat.zero_le _, rfl, HE, zH (Below.refl _ _)⟩
 case round =>
  obtain ⟨k, hk, rfl, HK, HB⟩ := hrel
  have x0 := HBX.out wr HB.out
  have HL := zH (HB0.out.trans (HB.out.mono HB0.out.size))
  by_cases hlt : k < m
  · obtain ⟨g, o, r, v1, v2, u, b1, hA⟩ := (HU.out.below HL.out).get k (by rw [← HM.out]; exact hlt)
    obtain rfl := hA.eq
    have hsm := rusTot_mem hA.mem
    obtain ⟨d1, d2, d3, -, -, -, hv1, -, hbd⟩ := hA.is.parts
    obtain ⟨A1, k1, rfl⟩ := hv1.slice
    have hes : exSize r.body ≤ 1048577 := by have := (tot_size (exSize r.body)).1 r.body (Nat.le_refl _); unfold ruTot at hsm; omega
    have HCALL := zH (con_ex c (exSize r.body) r.body _ d3 wr (Nat.le_refl _) hbd (by omega))
    have HG := zH (conR_here (c := c) hA.get)
    have hcb := conE_le c r.body
    have hcs : (exSize r.body : Int) ≤ 1048577 := by omega
    obtain ⟨c0, c1, c2, c3, c4, c5, c6⟩ := hA.cells
    have hvl : r.vars.length ≤ 1048576 := by unfold ruTot ssTot at hsm; omega
    have hce := empty_str c
    clear hA hsm hv1 hbd hes
    generalize conE c r.body = z at *
    by_cases hx : r.con = c
    · have hbe := beq_yes hx
      by_cases hy : c.size = 0
      · have hyy := fun hh : r.con = c ∧ c.size ≠ 0 => hh.2 hy
        rw [decide_eq_true hy] at hce
        by_cases hz : 0 ≤ z
        · have HE2 := zH (show conR c l = z by rw [HK.out, HG.out, if_neg hyy, if_pos hz])
          clear hyy
          go_wp2_with (go_at_call 97; refine HCALL.out.mono ?_; rintro r w1 ⟨rfl, hb1⟩; have HB1 := zH (HB.out.trans (hb1.mono HB.out.size)); clear hb1)
          go_ret
          exact ⟨by rw [HE2.out]; rfl, HB0.out.trans (HB1.out.mono HB0.out.size)⟩
        have HE2 := zH (show conR c l = conR c (l.drop (k + 1)) by rw [HK.out, HG.out, if_neg hyy, if_neg hz])
        clear hyy
        go_wp2_with (go_at_call 97; refine HCALL.out.mono ?_; rintro r w1 ⟨rfl, hb1⟩; have HB1 := zH (HB.out.trans (hb1.mono HB.out.size)); clear hb1)
        go_roundw
        case rel => exact ⟨k + 1, by omega, by go_num, HE2, HB1⟩
        case measure => simp [intOf]; omega
      have HE2 := zH (show conR c l = (r.vars.length : Int) by rw [HK.out, HG.out, if_pos ⟨hx, hy⟩])
      rw [decide_eq_false hy] at hce
      clear hx hy
      go_wp2_with fail
      go_ret
      exact ⟨by rw [HE2.out]; rfl, HL.out⟩
    have hbe := beq_no hx
    have hyy := fun hh : r.con = c ∧ c.size ≠ 0 => hx hh.1
    by_cases hz : 0 ≤ z
    · have HE2 := zH (show conR c l = z by rw [HK.out, HG.out, if_neg hyy, if_pos hz])
      clear hyy
      go_wp2_with (go_at_call 97; refine HCALL.out.mono ?_; rintro r w1 ⟨rfl, hb1⟩; have HB1 := zH (HB.out.trans (hb1.mono HB.out.size)); clear hb1)
      go_ret
      exact ⟨by rw [HE2.out]; rfl, HB0.out.trans (HB1.out.mono HB0.out.size)⟩
    have HE2 := zH (show conR c l = conR c (l.drop (k + 1)) by rw [HK.out, HG.out, if_neg hyy, if_neg hz])
    clear hyy
    go_wp2_with (go_at_call 97; refine HCALL.out.mono ?_; rintro r w1 ⟨rfl, hb1⟩; have HB1 := zH (HB.out.trans (hb1.mono HB.out.size)); clear hb1)
    go_roundw
    case rel => exact ⟨k + 1, by omega, by go_num, HE2, HB1⟩
    case measure => simp [intOf]; omega
  have HE2 := zH (show conR c l = -1 by rw [HK.out, List.drop_eq_nil_of_le (by rw [← HM.out]; omega)]; rfl)
  go_wp2_with fail
  go_ret
  exact ⟨by rw [HE2.out]; rfl, HL.out⟩
end Go.Proofs.YthljhiklpopmgaaGreatDoor
