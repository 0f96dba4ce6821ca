/- A part of the proof of the seat's statement: OwnAllRu. Condition: as each says. -/
import Derived.Test.YthljhiklpopmgaaGreatDoorOwnMet
import Derived.Test.YthljhiklpopmgaaGreatDoorOwnValid
import Derived.Test.YthljhiklpopmgaaGreatDoorOwnAlone2
set_option maxHeartbeats 8000000
namespace Go.Proofs.YthljhiklpopmgaaGreatDoor
open Go Go.RowKit Go.Shelf
attribute [local go_sem] Oper.semAt_some
theorem own_met (l : List Ru) (e : Ex) (v : Value) (bs : List Nat) (mb mb2 : Nat) (M1 M2 : List (Value × Value)) (wq : World) (xs : List (Rt wq)) (G : List Cn) (w : World) (hv : ExIs w v e bs) (hb : exSize e ≤ 1099511627776) (hp : ∀ r ∈ l, r.params.length ≤ 1099511627776)
 (h1 : MapIs w mb M1 ∧ (∀ x ∈ M1, StrK x.1) ∧ xs.map Rt.pair = numd 0 l ∧ Firsts rname Rt.val xs M1) (h2 : MapIs w mb2 M2 ∧ (∀ x ∈ M2, StrK x.1) ∧ Firsts ckey cval G M2 ∧ ∀ q, G.find? q = (consAll l).find? q) :
 Calls Tryz.prog 119 #[.agg #[.map (some mb), .map (some mb2)], v] w (RetPost (.bool (fitE l e e)) w) :=
 callsIn_wide.1 (met_in Fence.wide 9 rfl rfl (fun _ => trivial) (Nat.le_refl _) l e v bs mb mb2 M1 M2 wq xs G w hv hb hp h1.1 h1.2.1 h1.2.2.1 h1.2.2.2 h2.1 h2.2.1 h2.2.2.1 h2.2.2.2)
end Go.Proofs.YthljhiklpopmgaaGreatDoor
namespace Go.Proofs.YthljhiklpopmgaaGreatDoor
open Go Go.RowKit Go.Sort
structure DemIs (l : List Ru) (w : World) (mb mb2 : Nat) (M1 M2 : List (Value × Value)) (wq : World) (xs : List (Rt wq)) (G : List Cn) : Prop where
 m1 : MapIs w mb M1 ∧ (∀ x ∈ M1, StrK x.1) ∧ xs.map Rt.pair = numd 0 l ∧ Firsts rname Rt.val xs M1
 m2 : MapIs w mb2 M2 ∧ (∀ x ∈ M2, StrK x.1) ∧ Firsts ckey cval G M2 ∧ ∀ q, G.find? q = (consAll l).find? q
theorem DemIs.below {l : List Ru} {w W : World} {mb mb2 : Nat} {M1 M2 : List (Value × Value)} {wq : World} {xs : List (Rt wq)} {G : List Cn} (h : DemIs l w mb mb2 M1 M2 wq xs G) (hb : Below w.heap.size w W) : DemIs l W mb mb2 M1 M2 wq xs G :=
 ⟨⟨h.m1.1.on (hb.block _ h.m1.1.lt), h.m1.2⟩, ⟨h.m2.1.on (hb.block _ h.m2.1.lt), h.m2.2⟩⟩
theorem first_look {l : List Ru} {W : World} {mb mb2 : Nat} {M1 M2 : List (Value × Value)} {wq : World} {xs : List (Rt wq)} {G : List Cn} (h : DemIs l W mb mb2 M1 M2 wq xs G) {r : Ru} (hr : r ∈ l) :
 ∃ (f : Ru) (F1 : Option Addr) (d1 : Nat) (F2 : Option Addr) (d2 : Nat) (F3 : Option Addr) (d3 : Nat), l.find? (named r.name) = some f ∧ (d1 : Int) ≤ 9223372036854775807 ∧ (d2 : Int) ≤ 9223372036854775807 ∧ (d3 : Int) ≤ 9223372036854775807 ∧ f ∈ l ∧ (Instr.lookup 135 (.map (some mb)) (.string r.name) false).run Tryz.prog W = .ok (.agg #[.string f.name, .string f.con, .slice F1 f.vars.length d1, .slice F2 f.params.length d2, .int .i64 f.body.kind, .string f.body.name, .slice F3 f.body.args.length d3]) W := by
 obtain ⟨hm, hK, hxs, hF⟩ := h.m1
 obtain ⟨x, has, hrun, hit⟩ := hm.look (strT W) Tryz.underlying135 (zeroRule W) (key := .string r.name) ⟨r.name, rfl⟩ hK
 have hr2 := hrun false
 simp only [Bool.false_eq_true, if_false] at hr2
 obtain ⟨hi1, hi2⟩ := idx_first (rname_named r.name) xs 0 l hxs
 rcases hF.hits hit with ⟨p, hp1, rfl, rfl⟩ | ⟨hp1, rfl, rfl⟩
 · obtain ⟨A1, d1, A2, d2, A3, d3, hv1, hv2, hv3, k1, k2, k3, -⟩ := p.slices
   have hv : p.val = .agg #[.string p.ru.name, .string p.ru.con, .slice A1 p.ru.vars.length d1, .slice A2 p.ru.params.length d2, .int .i64 p.ru.body.kind, .string p.ru.body.name, .slice A3 p.ru.body.args.length d3] := by rw [← hv1, ← hv2, ← hv3]; rfl
   rw [hv] at hr2
   exact ⟨p.ru, A1, d1, A2, d2, A3, d3, (hi1 p hp1).2, k1, k2, k3, List.mem_of_find?_eq_some (hi1 p hp1).2, hr2⟩
 have hn := (hi2 hp1).2
 rw [List.find?_eq_none] at hn
 exact absurd (by simp [named]) (hn r hr)
theorem con_look {l : List Ru} {W : World} {mb mb2 : Nat} {M1 M2 : List (Value × Value)} {wq : World} {xs : List (Rt wq)} {G : List Cn} (h : DemIs l W mb mb2 M1 M2 wq xs G) {r : Ru} (hr : r ∈ l) (hc : ¬ r.con.size = 0) :
 (Instr.lookup 136 (.map (some mb2)) (.string r.con) false).run Tryz.prog W = .ok (.int .i64 (conR r.con l)) W := by
 obtain ⟨hm, hK, hF, hG⟩ := h.m2
 obtain ⟨x, has, hrun, hit⟩ := hm.look (strT W) Tryz.underlying136 (zeroInt W) (key := .string r.con) ⟨r.con, rfl⟩ hK
 have hr2 := hrun false
 simp only [Bool.false_eq_true, if_false] at hr2
 rcases hF.hits hit with ⟨p, hp1, rfl, rfl⟩ | ⟨hp1, rfl, rfl⟩
 · rw [conR_find, ← hG, first_find _ _ _ hp1]
   exact hr2
 have hn := none_find _ _ hp1
 rw [hG, List.find?_eq_none] at hn
 have hmem : (r.con, r.vars.length) ∈ consAll l := by
  unfold consAll
  rw [List.mem_flatMap]
  exact ⟨r, hr, by unfold consRu headOf; rw [if_neg hc]; simp⟩
 exact absurd (by simp [isC]) (hn _ hmem)
theorem con_le {l : List Ru} {r : Ru} (hr : r ∈ l) (hc : ¬ r.con.size = 0) : 0 ≤ conR r.con l := by
 rw [conR_find]
 cases h : (consAll l).find? (isC r.con) with
 | some x => rw [arOf_some]; omega
 | none =>
  rw [List.find?_eq_none] at h
  have hmem : (r.con, r.vars.length) ∈ consAll l := by
   unfold consAll
   rw [List.mem_flatMap]
   exact ⟨r, hr, by unfold consRu headOf; rw [if_neg hc]; simp⟩
  exact absurd (by simp [isC]) (h _ hmem)
set_option maxRecDepth 100000 in
theorem own_rule (l : List Ru) (r : Ru) (hr : r ∈ l) (v : Value) (b : List Nat) (mb mb2 : Nat) (M1 M2 : List (Value × Value)) (wq : World) (xs : List (Rt wq)) (G : List Cn) (w : World) (hv : RuIs w v r b) (hz : ruTot r ≤ 1048576) (hp : ∀ r ∈ l, r.params.length ≤ 1048576) (hd : DemIs l w mb mb2 M1 M2 wq xs G) :
 Calls Tryz.prog 90 #[.agg #[.map (some mb), .map (some mb2)], v] w (RetPost (.bool (metOk l r)) w) := by
 obtain ⟨wd, hwd⟩ : ∃ wd, wd = w.alloc (.cells #[.map (some mb), .map (some mb2)] 138) := ⟨_, rfl⟩
 have hbd : Below w.heap.size w wd := by rw [hwd]; exact (Below.refl _ w).alloc (Nat.le_refl _) _
 have hsd : wd.heap.size = w.heap.size + 1 := by rw [hwd]; simp
 obtain ⟨A1, A2, A3, c1, c2, q3, c3, b3, rfl, hop⟩ := ru_opened (hv.below hbd)
 obtain ⟨W0, hW0⟩ : ∃ W0, W0 = wd.alloc (.cells #[.string r.name, .string r.con, .slice A1 r.vars.length c1, .slice A2 r.params.length c2, .int .i64 r.body.kind, .string r.body.name, .slice A3 q3 c3] 36) := ⟨_, rfl⟩
 rw [← hW0] at hop
 have hs0 : W0.heap.size = w.heap.size + 1 + 1 := by rw [hW0]; simp [hsd]
 have hb0 : Below w.heap.size w W0 := hbd.trans (hop.low.mono hbd.size)
 obtain ⟨f, F1, d1, F2, d2, F3, d3, hf, hd1, hd2, hd3, hfl, hlk⟩ := first_look (hd.below hb0) hr
 obtain ⟨W1, hW1⟩ : ∃ W1, W1 = W0.alloc (.cells #[.string f.name, .string f.con, .slice F1 f.vars.length d1, .slice F2 f.params.length d2, .int .i64 f.body.kind, .string f.body.name, .slice F3 f.body.args.length d3] 36) := ⟨_, rfl⟩
 have hb1 : Below W0.heap.size W0 W1 := by rw [hW1]; exact (Below.refl _ _).alloc (Nat.le_refl _) _
 have hx1 : Box7 W1 (w.heap.size + 1 + 1) 36 (.string f.name) (.string f.con) (.slice F1 f.vars.length d1) (.slice F2 f.params.length d2) (.int .i64 f.body.kind) (.string f.body.name) (.slice F3 f.body.args.length d3) := by rw [hW1, ← hs0]; exact heap_alloc_new W0 _
 have hxd : wd.heap[w.heap.size]? = some (.cells #[.map (some mb), .map (some mb2)] 138 (0, 0)) := by rw [hwd]; exact heap_alloc_new w _
 have HBF := zH (fun (W : World) (hb : Below W1.heap.size W1 W) => (show Box7 W (w.heap.size + 1 + 1) 36 (.string f.name) (.string f.con) (.slice F1 f.vars.length d1) (.slice F2 f.params.length d2) (.int .i64 f.body.kind) (.string f.body.name) (.slice F3 f.body.args.length d3) from (hb.block _ hx1.lt).trans hx1).cells)
 have HBR := zH (fun (W : World) (hb : Below W1.heap.size W1 W) => by have h9 := hop.box W (hb1.trans (hb.mono hb1.size)); rw [hsd] at h9; exact h9)
 have HBD := zH (fun (W : World) (hb : Below W1.heap.size W1 W) => show W.cell? ⟨w.heap.size, 0, none⟩ = some (.map (some mb)) ∧ W.cell? ⟨w.heap.size, 1, none⟩ = some (.map (some mb2)) from by
  have h9 : W.heap[w.heap.size]? = some (.cells #[.map (some mb), .map (some mb2)] 138 (0, 0)) := ((hop.low.trans ((hb1.trans (hb.mono hb1.size)).mono hop.low.size)).block _ (by rw [hsd]; omega)).trans hxd
  exact ⟨by simp [World.cell?, h9], by simp [World.cell?, h9]⟩)
 have HLO := zH (fun (W : World) (hb : Below W1.heap.size W1 W) => hb0.trans ((hb1.trans (hb.mono hb1.size)).mono hb0.size))
 have HMET := zH (fun (W : World) (hb : Below W1.heap.size W1 W) => own_met l r.body _ b3 mb mb2 M1 M2 wq xs G W (hop.bd W (hb1.trans (hb.mono hb1.size))) (by have := (tot_size _).1 r.body (Nat.le_refl _); unfold ruTot at hz; omega) (fun r hr => by have := hp r hr; omega) (hd.below (hb0.trans ((hb1.trans (hb.mono hb1.size)).mono hb0.size))).m1 (hd.below (hb0.trans ((hb1.trans (hb.mono hb1.size)).mono hb0.size))).m2)
 have HCON := zH (fun (hc : ¬ r.con.size = 0) (W : World) (hb : Below W1.heap.size W1 W) => con_look (hd.below (hb0.trans ((hb1.trans (hb.mono hb1.size)).mono hb0.size))) hr hc)
 have HKR := zH (fun (d : Nat) (os : Array Obj) => Calls.regrown_of ((flat_kind r.name r.con r.body.name A1 A2 A3 r.vars.length c1 r.params.length c2 q3 c3 r.body.kind (grow (redrawn W1 d) os)).mono (fun _ _ h => h)))
 have HKF := zH (fun (d : Nat) (os : Array Obj) => Calls.regrown_of ((flat_kind f.name f.con f.body.name F1 F2 F3 f.vars.length d1 f.params.length d2 f.body.args.length d3 f.body.kind (grow (redrawn W1 d) os)).mono (fun _ _ h => h)))
 have HSA := zH (show metOk l r = (((decide (f.con.size = 0) == decide (r.con.size = 0)) && (decide (f.params.length = r.params.length) && (decide (r.con.size = 0) || decide (conR r.con l = (r.vars.length : Int))))) && fitE l r.body r.body) by unfold metOk sameAs; rw [hf])
 have hpr : (r.params.length : Int) ≤ 1048576 := by have := hp r hr; omega
 have hpf : (f.params.length : Int) ≤ 1048576 := by have := hp f hfl; omega
 have hvr : (r.vars.length : Int) ≤ 1048576 := by unfold ruTot ssTot at hz; omega
 rw [hW0, hwd] at hlk
 rw [hW0, hwd] at hW1
 have HW1 := zH hW1
 have HCL := zH (fun (hc : ¬ r.con.size = 0) => con_le hr hc)
 obtain ⟨x0, x1, x2, x3, x4, x5, x6⟩ := HBR.out W1 (Below.refl _ _)
 obtain ⟨y0, y1, y2, y3, y4, y5, y6⟩ := HBF.out W1 (Below.refl _ _)
 have r0 := fun d os => cell_regrown x0 d os
 have r1 := fun d os => cell_regrown x1 d os
 have r2 := fun d os => cell_regrown x2 d os
 have r3 := fun d os => cell_regrown x3 d os
 have r4 := fun d os => cell_regrown x4 d os
 have r5 := fun d os => cell_regrown x5 d os
 have r6 := fun d os => cell_regrown x6 d os
 have f0 := fun d os => cell_regrown y0 d os
 have f1 := fun d os => cell_regrown y1 d os
 have f2 := fun d os => cell_regrown y2 d os
 have f3 := fun d os => cell_regrown y3 d os
 have f4 := fun d os => cell_regrown y4 d os
 have f5 := fun d os => cell_regrown y5 d os
 have f6 := fun d os => cell_regrown y6 d os
 clear x0 x1 x2 x3 x4 x5 x6 y0 y1 y2 y3 y4 y5 y6 hwd hbd hsd hop hW0 hs0 hb0 hf hW1 hb1 hx1 hxd hv hz hp hd hr hfl
 generalize metOk l r = R at *
 generalize fitE l r.body r.body = ft at *
 generalize conR r.con l = cn at *
 by_cases hf0 : f.con.size = 0
 · by_cases hr0 : r.con.size = 0
   · have hbr := empty_yes hr0
     by_cases hpe : f.params.length = r.params.length
     · have hpi : ((r.params.length : Int) == (f.params.length : Int)) = true := by simp [hpe]
       have HE := zH (show R = ft by rw [HSA.out, decide_eq_true hf0, decide_eq_true hr0, decide_eq_true hpe]; simp)
       have cR := fun (d : Nat) (os : Array Obj) => HKR.out d os
       have cF := fun (d : Nat) (os : Array Obj) => HKF.out d os
       rw [show kindS r.con = 1 from by unfold kindS; rw [if_pos hr0]] at cR
       rw [show kindS f.con = 1 from by unfold kindS; rw [if_pos hf0]] at cF
       have HR0 := zH hr0
       clear hr0 hf0 hpe
       go_enter Tryz.func90, Tryz.ntmps90
       go_wp2_with fail
       rw [← HW1.out]
       refine wp_region_quiet_below (by kernel_rfl) (by kernel_rfl) ?_
       repeat (go_big_quiet_step (first | exact cR _ _ | exact cF _ _))
       refine wpQuiet_nil ?_
       intro _ hw'
       obtain ⟨⟨dq, osq⟩, hw''⟩ := hw'
       subst hw''
       have hb2 := below_regrown W1 dq osq
       generalize grow (redrawn W1 dq) osq = W2 at *
       have HB2 := zH hb2
       obtain ⟨x0, x1, x2, x3, x4, x5, x6⟩ := HBR.out W2 HB2.out
       obtain ⟨e0, e1⟩ := HBD.out W2 HB2.out
       clear hb2 cR cF
       go_wp2_with (go_at_call 119; refine (HMET.out W2 HB2.out).mono ?_; rintro e w3 ⟨rfl, hb3⟩; have HB3 := zH (HB2.out.trans (hb3.mono HB2.out.size)); clear hb3)
       go_ret
       exact ⟨by rw [HE.out]; rfl, HLO.out w3 HB3.out⟩
     have hpi : ((r.params.length : Int) == (f.params.length : Int)) = false := by simp; omega
     have HE := zH (show R = false by rw [HSA.out, decide_eq_false hpe]; simp)
     have cR := fun (d : Nat) (os : Array Obj) => HKR.out d os
     have cF := fun (d : Nat) (os : Array Obj) => HKF.out d os
     rw [show kindS r.con = 1 from by unfold kindS; rw [if_pos hr0]] at cR
     rw [show kindS f.con = 1 from by unfold kindS; rw [if_pos hf0]] at cF
     have HR0 := zH hr0
     clear hr0 hf0 hpe
     go_enter Tryz.func90, Tryz.ntmps90
     go_wp2_with fail
     rw [← HW1.out]
     refine wp_region_quiet_below (by kernel_rfl) (by kernel_rfl) ?_
     repeat (go_big_quiet_step (first | exact cR _ _ | exact cF _ _))
     refine wpQuiet_nil ?_
     intro _ hw'
     obtain ⟨⟨dq, osq⟩, hw''⟩ := hw'
     subst hw''
     have hb2 := below_regrown W1 dq osq
     generalize grow (redrawn W1 dq) osq = W2 at *
     have HB2 := zH hb2
     obtain ⟨x0, x1, x2, x3, x4, x5, x6⟩ := HBR.out W2 HB2.out
     obtain ⟨e0, e1⟩ := HBD.out W2 HB2.out
     clear hb2 cR cF
     go_wp2_with fail
     go_ret
     exact ⟨by rw [HE.out]; rfl, HLO.out W2 HB2.out⟩
   have hbr := empty_not hr0
   have hcl := HCL.out hr0
   by_cases hce : cn = (r.vars.length : Int)
   · have hci : ((r.vars.length : Int) == cn) = true := by simp [hce]
     have HE := zH (show R = false by rw [HSA.out, decide_eq_true hf0, decide_eq_false hr0]; simp)
     have cR := fun (d : Nat) (os : Array Obj) => HKR.out d os
     have cF := fun (d : Nat) (os : Array Obj) => HKF.out d os
     rw [show kindS r.con = 2 from by unfold kindS; rw [if_neg hr0]] at cR
     rw [show kindS f.con = 1 from by unfold kindS; rw [if_pos hf0]] at cF
     have HR0 := zH hr0
     clear hr0 hf0 hce
     go_enter Tryz.func90, Tryz.ntmps90
     go_wp2_with fail
     rw [← HW1.out]
     refine wp_region_quiet_below (by kernel_rfl) (by kernel_rfl) ?_
     repeat (go_big_quiet_step (first | exact cR _ _ | exact cF _ _))
     refine wpQuiet_nil ?_
     intro _ hw'
     obtain ⟨⟨dq, osq⟩, hw''⟩ := hw'
     subst hw''
     have hb2 := below_regrown W1 dq osq
     generalize grow (redrawn W1 dq) osq = W2 at *
     have HB2 := zH hb2
     obtain ⟨x0, x1, x2, x3, x4, x5, x6⟩ := HBR.out W2 HB2.out
     obtain ⟨e0, e1⟩ := HBD.out W2 HB2.out
     have hlc := HCON.out HR0.out W2 HB2.out
     clear hb2 cR cF
     go_wp2_with fail
     go_ret
     exact ⟨by rw [HE.out]; rfl, HLO.out W2 HB2.out⟩
   have hci : ((r.vars.length : Int) == cn) = false := by simp; omega
   have HE := zH (show R = false by rw [HSA.out, decide_eq_true hf0, decide_eq_false hr0]; simp)
   have cR := fun (d : Nat) (os : Array Obj) => HKR.out d os
   have cF := fun (d : Nat) (os : Array Obj) => HKF.out d os
   rw [show kindS r.con = 2 from by unfold kindS; rw [if_neg hr0]] at cR
   rw [show kindS f.con = 1 from by unfold kindS; rw [if_pos hf0]] at cF
   have HR0 := zH hr0
   clear hr0 hf0 hce
   go_enter Tryz.func90, Tryz.ntmps90
   go_wp2_with fail
   rw [← HW1.out]
   refine wp_region_quiet_below (by kernel_rfl) (by kernel_rfl) ?_
   repeat (go_big_quiet_step (first | exact cR _ _ | exact cF _ _))
   refine wpQuiet_nil ?_
   intro _ hw'
   obtain ⟨⟨dq, osq⟩, hw''⟩ := hw'
   subst hw''
   have hb2 := below_regrown W1 dq osq
   generalize grow (redrawn W1 dq) osq = W2 at *
   have HB2 := zH hb2
   obtain ⟨x0, x1, x2, x3, x4, x5, x6⟩ := HBR.out W2 HB2.out
   obtain ⟨e0, e1⟩ := HBD.out W2 HB2.out
   have hlc := HCON.out HR0.out W2 HB2.out
   clear hb2 cR cF
   go_wp2_with fail
   go_ret
   exact ⟨by rw [HE.out]; rfl, HLO.out W2 HB2.out⟩
 by_cases hr0 : r.con.size = 0
 · have hbr := empty_yes hr0
   have HE := zH (show R = false by rw [HSA.out, decide_eq_false hf0, decide_eq_true hr0]; simp)
   have cR := fun (d : Nat) (os : Array Obj) => HKR.out d os
   have cF := fun (d : Nat) (os : Array Obj) => HKF.out d os
   rw [show kindS r.con = 1 from by unfold kindS; rw [if_pos hr0]] at cR
   rw [show kindS f.con = 2 from by unfold kindS; rw [if_neg hf0]] at cF
   have HR0 := zH hr0
   clear hr0 hf0
   go_enter Tryz.func90, Tryz.ntmps90
   go_wp2_with fail
   rw [← HW1.out]
   refine wp_region_quiet_below (by kernel_rfl) (by kernel_rfl) ?_
   repeat (go_big_quiet_step (first | exact cR _ _ | exact cF _ _))
   refine wpQuiet_nil ?_
   intro _ hw'
   obtain ⟨⟨dq, osq⟩, hw''⟩ := hw'
   subst hw''
   have hb2 := below_regrown W1 dq osq
   generalize grow (redrawn W1 dq) osq = W2 at *
   have HB2 := zH hb2
   obtain ⟨x0, x1, x2, x3, x4, x5, x6⟩ := HBR.out W2 HB2.out
   obtain ⟨e0, e1⟩ := HBD.out W2 HB2.out
   clear hb2 cR cF
   go_wp2_with fail
   go_ret
   exact ⟨by rw [HE.out]; rfl, HLO.out W2 HB2.out⟩
 have hbr := empty_not hr0
 have hcl := HCL.out hr0
 by_cases hpe : f.params.length = r.params.length
 · have hpi : ((r.params.length : Int) == (f.params.length : Int)) = true := by simp [hpe]
   by_cases hce : cn = (r.vars.length : Int)
   · have hci : ((r.vars.length : Int) == cn) = true := by simp [hce]
     have HE := zH (show R = ft by rw [HSA.out, decide_eq_false hf0, decide_eq_false hr0, decide_eq_true hpe, decide_eq_true hce]; simp)
     have cR := fun (d : Nat) (os : Array Obj) => HKR.out d os
     have cF := fun (d : Nat) (os : Array Obj) => HKF.out d os
     rw [show kindS r.con = 2 from by unfold kindS; rw [if_neg hr0]] at cR
     rw [show kindS f.con = 2 from by unfold kindS; rw [if_neg hf0]] at cF
     have HR0 := zH hr0
     clear hr0 hf0 hpe hce
     go_enter Tryz.func90, Tryz.ntmps90
     go_wp2_with fail
     rw [← HW1.out]
     refine wp_region_quiet_below (by kernel_rfl) (by kernel_rfl) ?_
     repeat (go_big_quiet_step (first | exact cR _ _ | exact cF _ _))
     refine wpQuiet_nil ?_
     intro _ hw'
     obtain ⟨⟨dq, osq⟩, hw''⟩ := hw'
     subst hw''
     have hb2 := below_regrown W1 dq osq
     generalize grow (redrawn W1 dq) osq = W2 at *
     have HB2 := zH hb2
     obtain ⟨x0, x1, x2, x3, x4, x5, x6⟩ := HBR.out W2 HB2.out
     obtain ⟨e0, e1⟩ := HBD.out W2 HB2.out
     have hlc := HCON.out HR0.out W2 HB2.out
     clear hb2 cR cF
     go_wp2_with (go_at_call 119; refine (HMET.out W2 HB2.out).mono ?_; rintro e w3 ⟨rfl, hb3⟩; have HB3 := zH (HB2.out.trans (hb3.mono HB2.out.size)); clear hb3)
     go_ret
     exact ⟨by rw [HE.out]; rfl, HLO.out w3 HB3.out⟩
   have hci : ((r.vars.length : Int) == cn) = false := by simp; omega
   have HE := zH (show R = false by rw [HSA.out, decide_eq_false hce, decide_eq_false hr0]; simp)
   have cR := fun (d : Nat) (os : Array Obj) => HKR.out d os
   have cF := fun (d : Nat) (os : Array Obj) => HKF.out d os
   rw [show kindS r.con = 2 from by unfold kindS; rw [if_neg hr0]] at cR
   rw [show kindS f.con = 2 from by unfold kindS; rw [if_neg hf0]] at cF
   have HR0 := zH hr0
   clear hr0 hf0 hpe hce
   go_enter Tryz.func90, Tryz.ntmps90
   go_wp2_with fail
   rw [← HW1.out]
   refine wp_region_quiet_below (by kernel_rfl) (by kernel_rfl) ?_
   repeat (go_big_quiet_step (first | exact cR _ _ | exact cF _ _))
   refine wpQuiet_nil ?_
   intro _ hw'
   obtain ⟨⟨dq, osq⟩, hw''⟩ := hw'
   subst hw''
   have hb2 := below_regrown W1 dq osq
   generalize grow (redrawn W1 dq) osq = W2 at *
   have HB2 := zH hb2
   obtain ⟨x0, x1, x2, x3, x4, x5, x6⟩ := HBR.out W2 HB2.out
   obtain ⟨e0, e1⟩ := HBD.out W2 HB2.out
   have hlc := HCON.out HR0.out W2 HB2.out
   clear hb2 cR cF
   go_wp2_with fail
   go_ret
   exact ⟨by rw [HE.out]; rfl, HLO.out W2 HB2.out⟩
 have hpi : ((r.params.length : Int) == (f.params.length : Int)) = false := by simp; omega
 by_cases hce : cn = (r.vars.length : Int)
 · have hci : ((r.vars.length : Int) == cn) = true := by simp [hce]
   have HE := zH (show R = false by rw [HSA.out, decide_eq_false hpe]; simp)
   have cR := fun (d : Nat) (os : Array Obj) => HKR.out d os
   have cF := fun (d : Nat) (os : Array Obj) => HKF.out d os
   rw [show kindS r.con = 2 from by unfold kindS; rw [if_neg hr0]] at cR
   rw [show kindS f.con = 2 from by unfold kindS; rw [if_neg hf0]] at cF
   have HR0 := zH hr0
   clear hr0 hf0 hpe hce
   go_enter Tryz.func90, Tryz.ntmps90
   go_wp2_with fail
   rw [← HW1.out]
   refine wp_region_quiet_below (by kernel_rfl) (by kernel_rfl) ?_
   repeat (go_big_quiet_step (first | exact cR _ _ | exact cF _ _))
   refine wpQuiet_nil ?_
   intro _ hw'
   obtain ⟨⟨dq, osq⟩, hw''⟩ := hw'
   subst hw''
   have hb2 := below_regrown W1 dq osq
   generalize grow (redrawn W1 dq) osq = W2 at *
   have HB2 := zH hb2
   obtain ⟨x0, x1, x2, x3, x4, x5, x6⟩ := HBR.out W2 HB2.out
   obtain ⟨e0, e1⟩ := HBD.out W2 HB2.out
   have hlc := HCON.out HR0.out W2 HB2.out
   clear hb2 cR cF
   go_wp2_with fail
   go_ret
   exact ⟨by rw [HE.out]; rfl, HLO.out W2 HB2.out⟩
 have hci : ((r.vars.length : Int) == cn) = false := by simp; omega
 have HE := zH (show R = false by rw [HSA.out, decide_eq_false hpe]; simp)
 have cR := fun (d : Nat) (os : Array Obj) => HKR.out d os
 have cF := fun (d : Nat) (os : Array Obj) => HKF.out d os
 rw [show kindS r.con = 2 from by unfold kindS; rw [if_neg hr0]] at cR
 rw [show kindS f.con = 2 from by unfold kindS; rw [if_neg hf0]] at cF
 have HR0 := zH hr0
 clear hr0 hf0 hpe hce
 go_enter Tryz.func90, Tryz.ntmps90
 go_wp2_with fail
 rw [← HW1.out]
 refine wp_region_quiet_below (by kernel_rfl) (by kernel_rfl) ?_
 repeat (go_big_quiet_step (first | exact cR _ _ | exact cF _ _))
 refine wpQuiet_nil ?_
 intro _ hw'
 obtain ⟨⟨dq, osq⟩, hw''⟩ := hw'
 subst hw''
 have hb2 := below_regrown W1 dq osq
 generalize grow (redrawn W1 dq) osq = W2 at *
 have HB2 := zH hb2
 obtain ⟨x0, x1, x2, x3, x4, x5, x6⟩ := HBR.out W2 HB2.out
 obtain ⟨e0, e1⟩ := HBD.out W2 HB2.out
 have hlc := HCON.out HR0.out W2 HB2.out
 clear hb2 cR cF
 go_wp2_with fail
 go_ret
 exact ⟨by rw [HE.out]; rfl, HLO.out W2 HB2.out⟩
open Go Go.RowKit
set_option maxRecDepth 100000 in
theorem own_all1 (l : List Ru) (v : Value) (bs : List Nat) (w : World) (hv : PrIs w v l bs) (hz : rusTot l ≤ 1048576) :
 Calls Tryz.prog 86 #[v, .func (.func 87) #[] #[]] w (RetPost (.bool (l.all (aloneOk))) w) := by
 have hll := rusTot_ge l
 have HCALL := zH (fun (r : Ru) (hm : r ∈ l) (v2 : Value) (b2 : List Nat) (W : World) (hW : Below w.heap.size w W) (h2 : RuIs W v2 r b2) => own_alone r v2 b2 W h2 (by have := rusTot_mem hm; omega))
 obtain ⟨u, rfl, hu⟩ := id hv
 obtain ⟨A, c, rfl, hc1, hc2, -⟩ := id hu
 obtain ⟨m, hm⟩ : ∃ m, m = l.length := ⟨_, rfl⟩
 have HU := zH hu
 rw [← hm] at hc1 HU hll ⊢
 have HM := zH hm
 have HB0 := zH ((Below.refl w.heap.size w).alloc (Nat.le_refl _) (.cells #[.slice A m c] 24))
 have HBX := zH (fun (W : World) (h : Below (w.alloc (.cells #[.slice A m c] 24)).heap.size (w.alloc (.cells #[.slice A m c] 24)) W) => pbox h)
 have HV := zH (show l.all (aloneOk) = (l.drop 0).all (aloneOk) from rfl)
 have hmi : (m : Int) ≤ 1048576 := by omega
 clear hu hm hv hz
 generalize l.all (aloneOk) = R at *
 go_enter Tryz.func86, Tryz.ntmps86
 go_wp2_with fail
 go_loopw [10] (fun i wr => ∃ (k : Nat), k ≤ m ∧ i = .int .i64 (k : Int) ∧ Hid (R = (l.drop k).all (aloneOk)) ∧ Hid (Below (w.alloc (.cells #[.slice A m c] 24)).heap.size (w.alloc (.cells #[.slice A m c] 24)) wr)) (fun i _ => m - (intOf i).toNat)
 case atStart => exact ⟨0, Nat.zero_le _, rfl, HV, zH (Below.refl _ _)⟩
 case round =>
  obtain ⟨k, hk, rfl, HK, HB⟩ := hrel
  have x0 := HBX.out wr HB.out
  have HL := zH (HB0.out.trans (HB.out.mono HB0.out.size))
  by_cases hlt : k < m
  · obtain ⟨g, o, r, v1, v2, y, b, hA⟩ := (HU.out.below HL.out).get k (by rw [← HM.out]; exact hlt)
    obtain rfl := hA.eq
    obtain ⟨e0, e1, e2, e3, e4, e5, e6⟩ := hA.cells
    obtain ⟨b1, b2, b3, -, -, -, h3, h4, h5⟩ := hA.is.parts
    obtain ⟨A1, c1, rfl⟩ := h3.slice
    obtain ⟨A2, c2, rfl⟩ := h4.slice
    obtain ⟨A3, q3, c3, rfl⟩ := his_slice0 h5
    have hlo2 : Below wr.heap.size wr (wr.alloc (.cells #[.string r.name, .string r.con, .slice A1 r.vars.length c1, .slice A2 r.params.length c2, .int .i64 r.body.kind, .string r.body.name, .slice A3 q3 c3] 36)) := (Below.refl _ wr).alloc (Nat.le_refl _) _
    have HC2 := zH (HCALL.out r hA.mem _ b (wr.alloc (.cells #[.string r.name, .string r.con, .slice A1 r.vars.length c1, .slice A2 r.params.length c2, .int .i64 r.body.kind, .string r.body.name, .slice A3 q3 c3] 36)) (HL.out.trans (hlo2.mono HL.out.size)) (hA.is.below hlo2))
    have HB2 := zH (HB.out.trans (hlo2.mono HB.out.size))
    have HD := zH (show (l.drop k).all (aloneOk) = ((aloneOk) r && (l.drop (k + 1)).all (aloneOk)) by
     obtain ⟨h1, h2⟩ := List.getElem?_eq_some_iff.1 hA.get
     rw [List.drop_eq_getElem_cons h1, h2, List.all_cons])
    have hk0 : (0 : Int) ≤ (k : Int) := by omega
    have hkn : (k : Int) < (m : Int) := by omega
    clear hA h3 h4 h5 hlo2
    cases hx : (aloneOk) r
    · rw [hx] at HC2
      have HE := zH (show R = false by rw [HK.out, HD.out, hx]; rfl)
      clear hx
      go_wp2_with (go_at_call 87; refine HC2.out.mono ?_; rintro e w3 ⟨rfl, hb3⟩; have HB3 := zH (HB2.out.trans (hb3.mono HB2.out.size)); clear hb3)
      go_ret
      exact ⟨by rw [HE.out]; rfl, HB0.out.trans (HB3.out.mono HB0.out.size)⟩
    rw [hx] at HC2
    have HE := zH (show R = (l.drop (k + 1)).all (aloneOk) by rw [HK.out, HD.out, hx, Bool.true_and])
    clear hx
    go_wp2_with (go_at_call 87; refine HC2.out.mono ?_; rintro e w3 ⟨rfl, hb3⟩; have HB3 := zH (HB2.out.trans (hb3.mono HB2.out.size)); clear hb3)
    go_roundw
    case rel => exact ⟨k + 1, by omega, by go_num, HE, HB3⟩
    case measure => simp [intOf]; omega
  have HE := zH (show R = true by rw [HK.out, List.drop_eq_nil_of_le (by rw [← HM.out]; omega)]; rfl)
  go_wp2
  go_ret
  exact ⟨by rw [HE.out]; rfl, HL.out⟩
set_option maxRecDepth 100000 in
theorem own_all2 (l : List Ru) (v : Value) (bs : List Nat) (mb mb2 : Nat) (M1 M2 : List (Value × Value)) (wq : World) (xs : List (Rt wq)) (G : List Cn) (w : World) (hv : PrIs w v l bs) (hz : rusTot l ≤ 1048576) (hd : DemIs l w mb mb2 M1 M2 wq xs G) :
 Calls Tryz.prog 86 #[v, .func (.func 90) #[.agg #[.map (some mb), .map (some mb2)]] #[]] w (RetPost (.bool (l.all (metOk l))) w) := by
 have hll := rusTot_ge l
 have HCALL := zH (fun (r : Ru) (hm : r ∈ l) (v2 : Value) (b2 : List Nat) (W : World) (hW : Below w.heap.size w W) (h2 : RuIs W v2 r b2) => own_rule l r hm v2 b2 mb mb2 M1 M2 wq xs G W h2 (by have := rusTot_mem hm; omega) (fun q hq => by have := rusTot_mem hq; unfold ruTot ssTot at this; omega) (hd.below hW))
 obtain ⟨u, rfl, hu⟩ := id hv
 obtain ⟨A, c, rfl, hc1, hc2, -⟩ := id hu
 obtain ⟨m, hm⟩ : ∃ m, m = l.length := ⟨_, rfl⟩
 have HU := zH hu
 rw [← hm] at hc1 HU hll ⊢
 have HM := zH hm
 have HB0 := zH ((Below.refl w.heap.size w).alloc (Nat.le_refl _) (.cells #[.slice A m c] 24))
 have HBX := zH (fun (W : World) (h : Below (w.alloc (.cells #[.slice A m c] 24)).heap.size (w.alloc (.cells #[.slice A m c] 24)) W) => pbox h)
 have HV := zH (show l.all (metOk l) = (l.drop 0).all (metOk l) from rfl)
 have hmi : (m : Int) ≤ 1048576 := by omega
 clear hu hm hv hz
 generalize l.all (metOk l) = R at *
 go_enter Tryz.func86, Tryz.ntmps86
 go_wp2_with fail
 go_loopw [10] (fun i wr => ∃ (k : Nat), k ≤ m ∧ i = .int .i64 (k : Int) ∧ Hid (R = (l.drop k).all (metOk l)) ∧ Hid (Below (w.alloc (.cells #[.slice A m c] 24)).heap.size (w.alloc (.cells #[.slice A m c] 24)) wr)) (fun i _ => m - (intOf i).toNat)
 case atStart => exact ⟨0, Nat.zero_le _, rfl, HV, zH (Below.refl _ _)⟩
 case round =>
  obtain ⟨k, hk, rfl, HK, HB⟩ := hrel
  have x0 := HBX.out wr HB.out
  have HL := zH (HB0.out.trans (HB.out.mono HB0.out.size))
  by_cases hlt : k < m
  · obtain ⟨g, o, r, v1, v2, y, b, hA⟩ := (HU.out.below HL.out).get k (by rw [← HM.out]; exact hlt)
    obtain rfl := hA.eq
    obtain ⟨e0, e1, e2, e3, e4, e5, e6⟩ := hA.cells
    obtain ⟨b1, b2, b3, -, -, -, h3, h4, h5⟩ := hA.is.parts
    obtain ⟨A1, c1, rfl⟩ := h3.slice
    obtain ⟨A2, c2, rfl⟩ := h4.slice
    obtain ⟨A3, q3, c3, rfl⟩ := his_slice0 h5
    have hlo2 : Below wr.heap.size wr (wr.alloc (.cells #[.string r.name, .string r.con, .slice A1 r.vars.length c1, .slice A2 r.params.length c2, .int .i64 r.body.kind, .string r.body.name, .slice A3 q3 c3] 36)) := (Below.refl _ wr).alloc (Nat.le_refl _) _
    have HC2 := zH (HCALL.out r hA.mem _ b (wr.alloc (.cells #[.string r.name, .string r.con, .slice A1 r.vars.length c1, .slice A2 r.params.length c2, .int .i64 r.body.kind, .string r.body.name, .slice A3 q3 c3] 36)) (HL.out.trans (hlo2.mono HL.out.size)) (hA.is.below hlo2))
    have HB2 := zH (HB.out.trans (hlo2.mono HB.out.size))
    have HD := zH (show (l.drop k).all (metOk l) = ((metOk l) r && (l.drop (k + 1)).all (metOk l)) by
     obtain ⟨h1, h2⟩ := List.getElem?_eq_some_iff.1 hA.get
     rw [List.drop_eq_getElem_cons h1, h2, List.all_cons])
    have hk0 : (0 : Int) ≤ (k : Int) := by omega
    have hkn : (k : Int) < (m : Int) := by omega
    clear hA h3 h4 h5 hlo2
    cases hx : (metOk l) r
    · rw [hx] at HC2
      have HE := zH (show R = false by rw [HK.out, HD.out, hx]; rfl)
      clear hx
      go_wp2_with (go_at_call 90; refine HC2.out.mono ?_; rintro e w3 ⟨rfl, hb3⟩; have HB3 := zH (HB2.out.trans (hb3.mono HB2.out.size)); clear hb3)
      go_ret
      exact ⟨by rw [HE.out]; rfl, HB0.out.trans (HB3.out.mono HB0.out.size)⟩
    rw [hx] at HC2
    have HE := zH (show R = (l.drop (k + 1)).all (metOk l) by rw [HK.out, HD.out, hx, Bool.true_and])
    clear hx
    go_wp2_with (go_at_call 90; refine HC2.out.mono ?_; rintro e w3 ⟨rfl, hb3⟩; have HB3 := zH (HB2.out.trans (hb3.mono HB2.out.size)); clear hb3)
    go_roundw
    case rel => exact ⟨k + 1, by omega, by go_num, HE, HB3⟩
    case measure => simp [intOf]; omega
  have HE := zH (show R = true by rw [HK.out, List.drop_eq_nil_of_le (by rw [← HM.out]; omega)]; rfl)
  go_wp2
  go_ret
  exact ⟨by rw [HE.out]; rfl, HL.out⟩
end Go.Proofs.YthljhiklpopmgaaGreatDoor
