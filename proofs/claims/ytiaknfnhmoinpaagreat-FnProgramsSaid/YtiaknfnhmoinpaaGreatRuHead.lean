/- A part of the proof of the seat's statement: RuHead. Condition: as each says. -/
import Derived.Test.YtiaknfnhmoinpaaGreatPush
import Derived.Lib.QuietBelow
import Derived.BigQuiet
import Derived.Test.YtiaknfnhmoinpaaGreatRuSz
import Derived.Test.YtiaknfnhmoinpaaGreatAppStrs
set_option maxHeartbeats 8000000
namespace Go.Proofs.YtiaknfnhmoinpaaGreat
open Go Go.RowKit Go.Sort
def onlyA (R : Act → World → Prop) : Exit → Act → World → Prop
 | .normal, a, W => R a W
 | _, _, _ => False
theorem onlyA_out {R : Act → World → Prop} : ¬ LetsOut (onlyA R) := fun ⟨_, _, h⟩ => h
section
variable {P : Program} {ops : Array Oper} {R : Act → World → Prop} {l n : Nat}
theorem opIn_roundA {o : Oper} {a : Act} {w : World} {K : Act → World → Prop} (hd : ∀ c, o.op ≠ .defer c) (h : o.wp P a w K (onlyA R)) : o.wpIn (Fence.wide.inRound l) n P a w K (onlyA R) := by
 unfold Oper.wp at h
 unfold Oper.wpIn
 refine ⟨fun _ _ => trivial, ?_⟩
 rw [Oper.semAt_eq _ _ _ hd]
 generalize (execOp a.eval o).run P w = r at *
 cases r with
 | ok x w2 =>
  cases x <;> simp only [Oper.upon, Oper.uponIn] at h ⊢
  case value v => exact h
  case skip => exact h
  case defer d => exact h
  case enter f args => exact ⟨fun h => by simp [Fence.inRound, Fence.wide] at h, CallsIn.inRound l (callsIn_wide.2 h)⟩
  case row row args =>
   refine ⟨fun h => by simp [Fence.inRound, Fence.wide] at h, fun c cs _ => ?_⟩
   obtain ⟨v, w3, r, s⟩ := h c cs
   exact ⟨v, w3, r, stepsIn_wide.2 s⟩
 | halt x w2 => cases x <;> simp only [Oper.upon, Oper.uponIn] at h ⊢ <;> exact h
theorem anyIn_roundA (hd : ∀ (i : Nat) (o : Oper), ops[i]? = some o → ∀ c, o.op ≠ .defer c) : ∀ (fuel : Nat) (listed : Array Bool) (a : Act) (w : World), wpAny P .any ops (onlyA R) fuel listed a w → wpAnyIn (Fence.wide.inRound l) n P .any ops (onlyA R) fuel listed a w := by
 intro fuel
 induction fuel with
 | zero => intro listed a w h; exact h
 | succ fuel ih =>
  intro listed a w h
  refine ⟨h.1, fun i hi => ?_⟩
  have h2 := h.2 i hi
  unfold wpOp at h2
  unfold wpOpIn
  cases ho : ops[i]? with
  | none => rw [ho] at h2; exact ih _ _ _ h2
  | some o =>
   rw [ho] at h2
   simp only at h2 ⊢
   by_cases hw : Region.wanted o (yielded ops a.tmps) = true
   · rw [if_pos hw] at h2 ⊢
     rcases h2 with h2 | ⟨-, h2⟩
     · exact Oper.wpIn_mono (fun a w => ih _ a w) (opIn_roundA (hd i o ho) h2)
     exact (onlyA_out h2).elim
   rw [if_neg hw] at h2 ⊢
   exact ⟨fun _ _ => trivial, ih _ _ _ h2⟩
end
theorem region_round_below {P : Program} {id n lp : Nat} {Q : Exit → Act → World → Prop} {a : Act} {w : World} {l : List Oper} (hm : P.follows .mixedOrders = true) (hB : Region.lexB .any l.toArray = true) (hd : l.all notDefer = true)
 (h : wpQuiet P l.toArray (fun w' => ∃ p : Regrown, w' = grow (redrawn w p.d) p.os) (fun a' => ∀ w', (∃ p : Regrown, w' = grow (redrawn w p.d) p.os) → Q .normal a' w') l a) : (Code.region id l.toArray true).wpIn (Fence.wide.inRound lp) n P Q a w := by
 have hC : ∃ p : Regrown, w.drew = grow (redrawn w p.d) p.os := ⟨⟨w.drawn + 1, #[]⟩, by rw [grow_empty]; rfl⟩
 have hB2 := hB
 simp only [Region.lexB, Bool.and_eq_true] at hB2
 refine Go.wpIn_mono (wpIn_region_any (Q := onlyA (fun a W => Q .normal a W)) hm (anyIn_roundA (all_not (by simpa using hd)) _ _ _ _ (wpAny_of_quiet (C := fun w' => ∃ p : Regrown, w' = grow (redrawn w p.d) p.os) (Q := fun a' => ∀ w', (∃ p : Regrown, w' = grow (redrawn w p.d) p.os) → Q .normal a' w') (fun a' w' hw' h => (show onlyA (fun a W => Q .normal a W) .normal a' w' from h w' hw')) _ _ _ _ hC ?_))) (fun e a W hq => ?_)
 · have := wpAnyQ_lex (C := fun w' => ∃ p : Regrown, w' = grow (redrawn w p.d) p.os) (md := .any) hB2.1 l 0 (Array.replicate l.toArray.size false) a (by simp) (by simpa using hB2.2) h
   simpa using this
 cases e with
 | normal => exact hq
 | exit id => exact hq.elim
 | goto t => exact hq.elim
 | ret => exact hq.elim
 | panic c => exact hq.elim
 | outgrown => exact hq.elim
open Go Go.RowKit
theorem empty_len (s : ByteArray) : s.toList.length = s.size := by rw [ByteArray.toList_eq]; rfl
theorem empty_yes {s : ByteArray} (h : s.size = 0) : s.toList.isEmpty = true := by
 rw [List.isEmpty_iff]
 exact List.eq_nil_of_length_eq_zero (by rw [empty_len, h])
theorem empty_not {s : ByteArray} (h : ¬ s.size = 0) : s.toList.isEmpty = false := by
 rw [Bool.eq_false_iff]
 intro e
 rw [List.isEmpty_iff] at e
 exact h (by rw [← empty_len, e]; rfl)
theorem his_slice0 {W : World} {e : Ex} {u : Value} {b : List Nat} (h : ExIs W (.agg #[.int .i64 e.kind, .string e.name, u]) e b) : ∃ A m c, u = .slice A m c := by
 obtain ⟨u2, e1, -, hs⟩ := h
 obtain ⟨A, c, e2, -⟩ := hs
 simp at e1
 rw [e1, e2]
 exact ⟨_, _, _, rfl⟩
def kindS (c : ByteArray) : Int := if c.size = 0 then 1 else 2
def arityS (c : ByteArray) (q : Nat) : Int := (q : Int) + (if c.size = 0 then 0 else 1)
theorem flat_kind (nm con s : ByteArray) (A1 A2 A3 : Option Addr) (m1 k1 m2 k2 m3 k3 : Nat) (z : Int) (w : World) : Calls Tryz.prog 31 #[.agg #[.string nm, .string con, .slice A1 m1 k1, .slice A2 m2 k2, .int .i64 z, .string s, .slice A3 m3 k3]] w (RetPost (.int .i64 (kindS con)) w) := by
 by_cases hc : con.size = 0
 · have HE := zH (show kindS con = 1 by unfold kindS; rw [if_pos hc])
   have hbe := empty_yes hc
   clear hc
   go_enter Tryz.func31, Tryz.ntmps31
   go_wp2_with fail
   go_ret
   exact ⟨by rw [HE.out]; rfl, (wB _ w).alloc (nR _) _⟩
 have HE := zH (show kindS con = 2 by unfold kindS; rw [if_neg hc])
 have hbe := empty_not hc
 clear hc
 go_enter Tryz.func31, Tryz.ntmps31
 go_wp2_with fail
 go_ret
 exact ⟨by rw [HE.out]; rfl, (wB _ w).alloc (nR _) _⟩
theorem flat_arity (nm con s : ByteArray) (A1 A2 A3 : Option Addr) (m1 k1 q k2 m3 k3 : Nat) (z : Int) (w : World) (hn : q ≤ 1099511627776) : Calls Tryz.prog 30 #[.agg #[.string nm, .string con, .slice A1 m1 k1, .slice A2 q k2, .int .i64 z, .string s, .slice A3 m3 k3]] w (RetPost (.int .i64 (arityS con q)) w) := by
 obtain ⟨W0, hW0⟩ : ∃ W0, W0 = w.alloc (.cells #[.string nm, .string con, .slice A1 m1 k1, .slice A2 q k2, .int .i64 z, .string s, .slice A3 m3 k3] 34) := ⟨_, rfl⟩
 have hbx : Below w.heap.size w W0 := by rw [hW0]; exact (wB _ w).alloc (nR _) _
 have HB0 := zH hbx
 have HC := zH (flat_kind nm con s A1 A2 A3 m1 k1 q k2 m3 k3 z W0)
 have HBX := zH (fun (W : World) (hb : Below W0.heap.size W0 W) => show W.cell? ⟨w.heap.size, 3, none⟩ = some (.slice A2 q k2) from by
  have h9 : W.heap[w.heap.size]? = some (.cells #[.string nm, .string con, .slice A1 m1 k1, .slice A2 q k2, .int .i64 z, .string s, .slice A3 m3 k3] 34 (0, 0)) := by
   rw [hW0] at hb
   exact (hb.block _ (by simp)).trans (heap_alloc_new w _)
  simp [World.cell?, h9])
 have hpl : (q : Int) ≤ 1099511627776 := by omega
 by_cases hc : con.size = 0
 · have HE := zH (show arityS con q = (q : Int) by unfold arityS; rw [if_pos hc]; omega)
   have HK := zH (show kindS con = 1 by unfold kindS; rw [if_pos hc])
   clear hc hbx
   go_enter Tryz.func30, Tryz.ntmps30
   go_wp2_with (rw [← hW0]; go_at_call 31; refine HC.out.mono ?_; rintro e w1 ⟨rfl, hb1⟩; have hcl := HBX.out w1 hb1; have HB1 := zH (HB0.out.trans (hb1.mono HB0.out.size)); clear hb1; rw [HK.out])
   go_ret
   exact ⟨by rw [HE.out]; rfl, HB1.out⟩
 have HE := zH (show arityS con q = (q : Int) + 1 by unfold arityS; rw [if_neg hc])
 have HK := zH (show kindS con = 2 by unfold kindS; rw [if_neg hc])
 clear hc hbx
 go_enter Tryz.func30, Tryz.ntmps30
 go_wp2_with (rw [← hW0]; go_at_call 31; refine HC.out.mono ?_; rintro e w1 ⟨rfl, hb1⟩; have hcl := HBX.out w1 hb1; have HB1 := zH (HB0.out.trans (hb1.mono HB0.out.size)); clear hb1; rw [HK.out])
 go_ret
 exact ⟨by rw [HE.out]; rfl, HB1.out⟩
def isCn (s : ByteArray) : Bool := nameL 65 90 s.data.toList
def headOk (r : Ru) : Bool := (if r.con.size = 0 then decide (r.vars.length = 0) else isCn r.con) && (isNm r.name && (decide (r.vars.length ≤ 5) && (decide (r.params.length ≤ 4) && (distinct (r.vars ++ r.params) && allNm (r.vars ++ r.params)))))
theorem cut_region {P : Program} {c : Code} {K : Act → World → Prop} {Q : Exit → Act → World → Prop} {a : Act} {w : World} (R : Act → World → Prop) (h : c.wp P (onlyA R) a w) (hK : ∀ a W, R a W → K a W) : c.wp P (Exit.then K Q) a w :=
 wpIn_wide.1 (wpIn_mono (wpIn_wide.2 h : c.wpIn Fence.wide 0 P (onlyA R) a w) (fun e a W hq => by
  cases e with
  | normal => exact hK a W hq
  | exit id => exact hq.elim
  | goto t => exact hq.elim
  | ret => exact hq.elim
  | panic c => exact hq.elim
  | outgrown => exact hq.elim))
theorem owns_empty (W0 : World) : OwnsL W0.heap.size (W0.alloc (.cells #[] 9)).drew (.slice (some ⟨W0.heap.size, 0, none⟩) 0 0) [] :=
 World.ownsRow_lit W0 #[] 0 (nR _) (by unfold maxLen; omega) rfl
theorem old_cell {W0 W w2 : World} {v : Value} {xs : List ByteArray} {B o : Nat} {u : Value} (hb : Below W0.heap.size W0 W) (ho : OwnsL W0.heap.size W v xs) (hg : W.grownBy w2 v.ownBlock) (hB : B < W0.heap.size) (hc : W0.cell? ⟨B, o, none⟩ = some u) : w2.cell? ⟨B, o, none⟩ = some u :=
 ((OwnsL.grown hb ho hg).cell (p := ⟨B, o, none⟩) hB).trans hc
theorem drewN_low {n : Nat} {w W : World} (h : Below n w W) (q : Nat) : Below n w (W.drewN q) := ⟨h.os, h.tape, h.output, h.size, h.block⟩
theorem tot_mem {xs : List ByteArray} {x : ByteArray} (h : x ∈ xs) : x.size ≤ totN xs := by
 unfold totN
 induction xs with
 | nil => cases h
 | cons y t ih =>
  rw [List.map_cons, List.sum_cons]
  rcases List.mem_cons.1 h with rfl | h
  · omega
  have := ih h; omega
set_option maxRecDepth 100000 in
theorem head_any (r : Ru) (v : Value) (b : List Nat) (w : World) (hv : RuIs w v r b) (hz : ruTot r ≤ 1048576) :
 Calls Tryz.prog 53 #[v] w (RetPost (.bool (headOk r)) w) := by
 obtain ⟨v1, v2, u, b1, b2, b3, rfl, h1, h2, rfl, h3, h4, h5⟩ := hv
 obtain ⟨A1, c1, rfl⟩ := h3.slice
 obtain ⟨A2, c2, rfl⟩ := h4.slice
 obtain ⟨A3, q3, c3, rfl⟩ := his_slice0 h5
 obtain ⟨-, hc1, hc2, hs1, -⟩ := h3.strs
 obtain ⟨-, hc3, hc4, hs2, -⟩ := h4.strs
 have hl : r.vars.length ≤ 1048576 ∧ r.params.length ≤ 1048576 := by unfold ruTot ssTot at hz; omega
 go_enter Tryz.func53, Tryz.ntmps53
 go_wp2_with fail
 obtain ⟨W0, hW0⟩ : ∃ W0, W0 = w.alloc (.cells #[.string r.name, .string r.con, .slice A1 r.vars.length c1, .slice A2 r.params.length c2, .int .i64 r.body.kind, .string r.body.name, .slice A3 q3 c3] 34) := ⟨_, rfl⟩
 rw [← hW0]
 have hbx : W0.heap[w.heap.size]? = some (.cells #[.string r.name, .string r.con, .slice A1 r.vars.length c1, .slice A2 r.params.length c2, .int .i64 r.body.kind, .string r.body.name, .slice A3 q3 c3] 34 (0, 0)) := by rw [hW0]; exact World.alloc_heap_new w _
 have x2 : W0.cell? ⟨w.heap.size, 2, none⟩ = some (.slice A1 r.vars.length c1) := by simp [World.cell?, hbx]
 have x3 : W0.cell? ⟨w.heap.size, 3, none⟩ = some (.slice A2 r.params.length c2) := by simp [World.cell?, hbx]
 have xl : w.heap.size < W0.heap.size := (Array.getElem?_eq_some_iff.1 hbx).1
 have hlow : Below w.heap.size w W0 := by rw [hW0]; exact (wB _ w).alloc (nR _) _
 have HLW := zH hlow
 have HBX := zH hbx
 have HX3 := zH x3
 have HXL := zH xl
 have HL := zH hl
 have HO0 := zH (owns_empty W0)
 have HB0 := zH (((wB W0.heap.size W0).alloc (nR _) (.cells #[] 9)).drew)
 have HS1 := zH (fun (Y : World) (hY : Below W0.heap.size W0 Y) => (hs1.below hlow).below hY)
 have HS2 := zH (fun (Y : World) (hY : Below W0.heap.size W0 Y) => (hs2.below hlow).below hY)
 have HZ := zH hz
 clear hW0 hbx hlow hl hs1 hs2 h3 h4 h5 hz
 refine cut_region (fun a W => ∃ v7 v8, a = { tmps := #[.agg #[.string r.name, .string r.con, .slice A1 r.vars.length c1, .slice A2 r.params.length c2, .int .i64 r.body.kind, .string r.body.name, .slice A3 q3 c3], .pointer (some ⟨w.heap.size, 0, none⟩), .bool false, v8, .slice (some ⟨W0.heap.size, 0, none⟩) 0 0, .pointer (some ⟨w.heap.size, 2, none⟩), .slice A1 r.vars.length c1, v7, .pointer (some ⟨w.heap.size, 3, none⟩), .slice A2 r.params.length c2, v8, undef, undef, undef, undef, undef, undef, undef, undef, undef, undef, undef, undef, undef, undef, undef, undef, undef, undef, undef, undef, undef, undef, undef, undef, undef, undef, undef, undef, undef, undef, undef, undef, undef, undef, undef, undef, undef, undef, undef, undef, undef, undef, undef], defers := [] } ∧ OwnsL W0.heap.size W v8 (r.vars ++ r.params) ∧ Below W0.heap.size W0 W) ?_ ?_
 · go_region_law
    (first
    | (refine step_append_strs (by rfl) (.tmp 4) (.tmp 6) (by rfl) W0.heap.size (.slice (some ⟨W0.heap.size, 0, none⟩) 0 0) [] (by rfl) HO0.out A1 r.vars c1 (by rfl) (HS1.out _ HB0.out) (by have := HL.out; simp; omega) HB0.out.size ?_; intro v7 w7 ho7 hg7; have y3 := old_cell HB0.out HO0.out hg7 HXL.out HX3.out; have HB7 := zH (OwnsL.grown HB0.out HO0.out hg7); have HO7 := zH ho7; clear ho7 hg7)
    | (refine step_append_strs (by rfl) (.tmp 7) (.tmp 9) (by rfl) W0.heap.size v7 ([] ++ r.vars) (by rfl) HO7.out A2 r.params c2 (by rfl) (HS2.out _ HB7.out) (by have := HL.out; simp; omega) HB7.out.size ?_; intro v8 w8 ho8 hg8; have HB8 := zH (OwnsL.grown HB7.out HO7.out hg8); have HO8 := zH ho8; clear ho8 hg8))
   all_goals
    exact ⟨v7, v8, rfl, HO8.out, HB8.out⟩
 rintro _ W ⟨v7, v8, rfl, ho, hb⟩
 have hbw : W.heap[w.heap.size]? = some (.cells #[.string r.name, .string r.con, .slice A1 r.vars.length c1, .slice A2 r.params.length c2, .int .i64 r.body.kind, .string r.body.name, .slice A3 q3 c3] 34 (0, 0)) := (hb.block _ HXL.out).trans HBX.out
 have y0 : W.cell? ⟨w.heap.size, 0, none⟩ = some (.string r.name) := by simp [World.cell?, hbw]
 have y1 : W.cell? ⟨w.heap.size, 1, none⟩ = some (.string r.con) := by simp [World.cell?, hbw]
 have y2 : W.cell? ⟨w.heap.size, 2, none⟩ = some (.slice A1 r.vars.length c1) := by simp [World.cell?, hbw]
 have y3 : W.cell? ⟨w.heap.size, 3, none⟩ = some (.slice A2 r.params.length c2) := by simp [World.cell?, hbw]
 obtain ⟨A8, c8, rfl, hst⟩ := ho.shape
 have hc8 : (r.vars ++ r.params).length ≤ c8 ∧ c8 ≤ 9223372036854775807 := by
  rcases ho.2 with ⟨h0, -⟩ | ⟨g, cap, cur, h0, -, -, hn, hmx, -⟩
  · simp only [Value.slice.injEq] at h0; omega
  simp only [Value.slice.injEq] at h0; unfold maxLen at hmx; omega
 have hly : (r.vars ++ r.params).length ≤ 1099511627776 := by have := HL.out; simp; omega
 have HH := zH (show headOk r = ((if r.con.size = 0 then decide (r.vars.length = 0) else isCn r.con) && (isNm r.name && (decide (r.vars.length ≤ 5) && (decide (r.params.length ≤ 4) && (distinct (r.vars ++ r.params) && allNm (r.vars ++ r.params)))))) from rfl)
 have HNS := zH (show r.name.size ≤ 1048576 by have := HZ.out; unfold ruTot at this; omega)
 have HCS := zH (show r.con.size ≤ 1048576 by have := HZ.out; unfold ruTot at this; omega)
 have hys1 : ∀ x ∈ r.vars ++ r.params, x.size ≤ 1048576 := by
  intro x hx
  have h9 := HZ.out
  unfold ruTot ssTot at h9
  rcases List.mem_append.1 hx with hx | hx
  · have := tot_mem hx; omega
  have := tot_mem hx; omega
 have HDC := zH (dist_any A8 (r.vars ++ r.params) c8 W hst hly hc8.1 hc8.2)
 have HNC := zH (fun q => names_any A8 (r.vars ++ r.params) c8 (W.drewN q) (hst.drewN q) hly hys1)
 have HWW := zH (HLW.out.trans (hb.mono HLW.out.size))
 generalize hys : r.vars ++ r.params = ys at *
 generalize hym : ys.length = my at *
 generalize r.vars.length = n1 at *
 generalize r.params.length = n2 at *
 have hn1i : (n1 : Int) ≤ 1048576 := by have := HL.out; omega
 have hn2i : (n2 : Int) ≤ 1048576 := by have := HL.out; omega
 clear ho hb hbw hst hc8 hly hys1 hys hym
 by_cases hcon : r.con.size = 0
 · have hbe := empty_yes hcon
   by_cases hv0 : n1 = 0
   · have hv0i : ¬ (0 : Int) < (n1 : Int) := by omega
     have hv0j : (n1 : Int) ≤ 0 := by omega
     rw [if_pos hcon, decide_eq_true hv0, Bool.true_and] at HH
     cases hnm : isNm r.name
     · have HNM := zH (show nameL 97 122 r.name.data.toList = false from hnm)
       have HE := zH (show headOk r = false by rw [HH.out, hnm]; rfl)
       clear hnm
       go_wp2_with (first | (go_at_call 75; refine (isname_any _ _ HNS.out).mono ?_; rintro e w2 ⟨rfl, rfl⟩; rw [HNM.out]))
       go_ret
       exact ⟨by rw [HE.out]; rfl, HWW.out⟩
     have HNM := zH (show nameL 97 122 r.name.data.toList = true from hnm)
     have h5 : n1 ≤ 5 := by omega
     have h5i : (n1 : Int) ≤ 5 := by omega
     by_cases h4 : n2 ≤ 4
     · have h4i : (n2 : Int) ≤ 4 := by omega
       cases hd : distinct ys
       · have HDI := zH hd
         have HE := zH (show headOk r = false by rw [HH.out, hnm, decide_eq_true h5, decide_eq_true h4, hd]; simp)
         clear hnm
         go_wp2_with (first | (go_at_call 75; refine (isname_any _ _ HNS.out).mono ?_; rintro e w2 ⟨rfl, rfl⟩; rw [HNM.out]) | (go_at_call 76; refine HDC.out.mono ?_; rintro e w2 ⟨rfl, q, rfl⟩; rw [HDI.out]))
         go_ret
         exact ⟨by rw [HE.out]; rfl, (drewN_low HWW.out _)⟩
       have HDI := zH hd
       cases hn : allNm ys
       · have HAN := zH hn
         have HE := zH (show headOk r = false by rw [HH.out, hnm, decide_eq_true h5, decide_eq_true h4, hd, hn]; simp)
         clear hnm
         go_wp2_with (first | (go_at_call 75; refine (isname_any _ _ HNS.out).mono ?_; rintro e w2 ⟨rfl, rfl⟩; rw [HNM.out]) | (go_at_call 76; refine HDC.out.mono ?_; rintro e w2 ⟨rfl, q, rfl⟩; rw [HDI.out]) | (go_at_call 77; refine (HNC.out _).mono ?_; rintro e w2 ⟨rfl, rfl⟩; rw [HAN.out]))
         go_ret
         exact ⟨by rw [HE.out]; rfl, (drewN_low HWW.out _)⟩
       have HAN := zH hn
       have HE := zH (show headOk r = true by rw [HH.out, hnm, decide_eq_true h5, decide_eq_true h4, hd, hn]; simp)
       clear hnm
       go_wp2_with (first | (go_at_call 75; refine (isname_any _ _ HNS.out).mono ?_; rintro e w2 ⟨rfl, rfl⟩; rw [HNM.out]) | (go_at_call 76; refine HDC.out.mono ?_; rintro e w2 ⟨rfl, q, rfl⟩; rw [HDI.out]) | (go_at_call 77; refine (HNC.out _).mono ?_; rintro e w2 ⟨rfl, rfl⟩; rw [HAN.out]))
       go_ret
       exact ⟨by rw [HE.out]; rfl, (drewN_low HWW.out _)⟩
     have h4i : ¬ (n2 : Int) ≤ 4 := by omega
     have h4j : (4 : Int) < (n2 : Int) := by omega
     have HE := zH (show headOk r = false by rw [HH.out, hnm, decide_eq_true h5, decide_eq_false h4]; simp)
     clear hnm
     go_wp2_with (first | (go_at_call 75; refine (isname_any _ _ HNS.out).mono ?_; rintro e w2 ⟨rfl, rfl⟩; rw [HNM.out]))
     go_ret
     exact ⟨by rw [HE.out]; rfl, HWW.out⟩
   have hv0i : (0 : Int) < (n1 : Int) := by omega
   rw [if_pos hcon, decide_eq_false hv0, Bool.false_and] at HH
   go_wp2_with fail
   go_ret
   exact ⟨by rw [HH.out]; rfl, HWW.out⟩
 have hbe := empty_not hcon
 rw [if_neg hcon] at HH
 cases hcn : isCn r.con
 · have HCN := zH (show nameL 65 90 r.con.data.toList = false from hcn)
   rw [hcn, Bool.false_and] at HH
   go_wp2_with (go_at_call 74; refine (iscon_any _ _ HCS.out).mono ?_; rintro e w2 ⟨rfl, rfl⟩; rw [HCN.out])
   go_ret
   exact ⟨by rw [HH.out]; rfl, HWW.out⟩
 have HCN := zH (show nameL 65 90 r.con.data.toList = true from hcn)
 rw [hcn, Bool.true_and] at HH
 cases hnm : isNm r.name
 · have HNM := zH (show nameL 97 122 r.name.data.toList = false from hnm)
   have HE := zH (show headOk r = false by rw [HH.out, hnm]; rfl)
   clear hnm
   go_wp2_with (first | (go_at_call 74; refine (iscon_any _ _ HCS.out).mono ?_; rintro e w2 ⟨rfl, rfl⟩; rw [HCN.out]) | (go_at_call 75; refine (isname_any _ _ HNS.out).mono ?_; rintro e w2 ⟨rfl, rfl⟩; rw [HNM.out]))
   go_ret
   exact ⟨by rw [HE.out]; rfl, HWW.out⟩
 have HNM := zH (show nameL 97 122 r.name.data.toList = true from hnm)
 by_cases h5 : n1 ≤ 5
 · have h5i : (n1 : Int) ≤ 5 := by omega
   by_cases h4 : n2 ≤ 4
   · have h4i : (n2 : Int) ≤ 4 := by omega
     cases hd : distinct ys
     · have HDI := zH hd
       have HE := zH (show headOk r = false by rw [HH.out, hnm, decide_eq_true h5, decide_eq_true h4, hd]; simp)
       clear hnm
       go_wp2_with (first | (go_at_call 74; refine (iscon_any _ _ HCS.out).mono ?_; rintro e w2 ⟨rfl, rfl⟩; rw [HCN.out]) | (go_at_call 75; refine (isname_any _ _ HNS.out).mono ?_; rintro e w2 ⟨rfl, rfl⟩; rw [HNM.out]) | (go_at_call 76; refine HDC.out.mono ?_; rintro e w2 ⟨rfl, q, rfl⟩; rw [HDI.out]))
       go_ret
       exact ⟨by rw [HE.out]; rfl, (drewN_low HWW.out _)⟩
     have HDI := zH hd
     cases hn : allNm ys
     · have HAN := zH hn
       have HE := zH (show headOk r = false by rw [HH.out, hnm, decide_eq_true h5, decide_eq_true h4, hd, hn]; simp)
       clear hnm
       go_wp2_with (first | (go_at_call 74; refine (iscon_any _ _ HCS.out).mono ?_; rintro e w2 ⟨rfl, rfl⟩; rw [HCN.out]) | (go_at_call 75; refine (isname_any _ _ HNS.out).mono ?_; rintro e w2 ⟨rfl, rfl⟩; rw [HNM.out]) | (go_at_call 76; refine HDC.out.mono ?_; rintro e w2 ⟨rfl, q, rfl⟩; rw [HDI.out]) | (go_at_call 77; refine (HNC.out _).mono ?_; rintro e w2 ⟨rfl, rfl⟩; rw [HAN.out]))
       go_ret
       exact ⟨by rw [HE.out]; rfl, (drewN_low HWW.out _)⟩
     have HAN := zH hn
     have HE := zH (show headOk r = true by rw [HH.out, hnm, decide_eq_true h5, decide_eq_true h4, hd, hn]; simp)
     clear hnm
     go_wp2_with (first | (go_at_call 74; refine (iscon_any _ _ HCS.out).mono ?_; rintro e w2 ⟨rfl, rfl⟩; rw [HCN.out]) | (go_at_call 75; refine (isname_any _ _ HNS.out).mono ?_; rintro e w2 ⟨rfl, rfl⟩; rw [HNM.out]) | (go_at_call 76; refine HDC.out.mono ?_; rintro e w2 ⟨rfl, q, rfl⟩; rw [HDI.out]) | (go_at_call 77; refine (HNC.out _).mono ?_; rintro e w2 ⟨rfl, rfl⟩; rw [HAN.out]))
     go_ret
     exact ⟨by rw [HE.out]; rfl, (drewN_low HWW.out _)⟩
   have h4i : ¬ (n2 : Int) ≤ 4 := by omega
   have h4j : (4 : Int) < (n2 : Int) := by omega
   have HE := zH (show headOk r = false by rw [HH.out, hnm, decide_eq_true h5, decide_eq_false h4]; simp)
   clear hnm
   go_wp2_with (first | (go_at_call 74; refine (iscon_any _ _ HCS.out).mono ?_; rintro e w2 ⟨rfl, rfl⟩; rw [HCN.out]) | (go_at_call 75; refine (isname_any _ _ HNS.out).mono ?_; rintro e w2 ⟨rfl, rfl⟩; rw [HNM.out]))
   go_ret
   exact ⟨by rw [HE.out]; rfl, HWW.out⟩
 have h5i : ¬ (n1 : Int) ≤ 5 := by omega
 have h5j : (5 : Int) < (n1 : Int) := by omega
 have HE := zH (show headOk r = false by rw [HH.out, hnm, decide_eq_false h5]; simp)
 clear hnm
 go_wp2_with (first | (go_at_call 74; refine (iscon_any _ _ HCS.out).mono ?_; rintro e w2 ⟨rfl, rfl⟩; rw [HCN.out]) | (go_at_call 75; refine (isname_any _ _ HNS.out).mono ?_; rintro e w2 ⟨rfl, rfl⟩; rw [HNM.out]))
 go_ret
 exact ⟨by rw [HE.out]; rfl, HWW.out⟩
end Go.Proofs.YtiaknfnhmoinpaaGreat
