/- A part of the proof of the seat's statement: OwnRule. Condition: as each says. -/
import Derived.Test.YtiaknfnhmoinpaaGreatOwnMet
import Derived.Test.YtiaknfnhmoinpaaGreatParts
import Derived.Test.YtiaknfnhmoinpaaGreatOwnAlone
set_option maxHeartbeats 8000000
namespace Go.Proofs.YtiaknfnhmoinpaaGreat
open Go Go.RowKit Go.Shelf
attribute [local go_sem] Oper.semAt_some
theorem own_met (l : List Ru) (e : Ex) (v : Value) (bs : List Nat) (mb mb2 : Nat) (M1 M2 : List (Value × Value)) (wq : World) (xs : List (Rt wq)) (G : List Cn) (w : World) (hv : ExIs w v e bs) (hb : exSize e ≤ 1099511627776) (hp : ∀ r ∈ l, r.params.length ≤ 1099511627776)
 (h1 : MapIs w mb M1 ∧ (∀ x ∈ M1, StrK x.1) ∧ xs.map Rt.pair = numd 0 l ∧ Firsts rname Rt.val xs M1) (h2 : MapIs w mb2 M2 ∧ (∀ x ∈ M2, StrK x.1) ∧ Firsts ckey cval G M2 ∧ ∀ q, G.find? q = (consAll l).find? q) :
 Calls Tryz.prog 33 #[.agg #[.map (some mb), .map (some mb2)], v] w (RetPost (.bool (fitE l e e)) w) :=
 callsIn_wide.1 (met_in Fence.wide 9 rfl rfl (fun _ => trivial) (nR _) l e v bs mb mb2 M1 M2 wq xs G w hv hb hp h1.1 h1.2.1 h1.2.2.1 h1.2.2.2 h2.1 h2.2.1 h2.2.2.1 h2.2.2.2)
theorem for_cells {w W : World} {A A2 : Option Addr} {m c m2 c2 : Nat} {k : Int} {s : ByteArray} (hb : Below ((w.alloc (.cells #[.slice A m c] 26)).alloc (.cells #[.int .i64 k, .string s, .slice A2 m2 c2] 32)).heap.size ((w.alloc (.cells #[.slice A m c] 26)).alloc (.cells #[.int .i64 k, .string s, .slice A2 m2 c2] 32)) W) :
 W.cell? ⟨w.heap.size, 0, none⟩ = some (.slice A m c) ∧ W.cell? ⟨w.heap.size + 1, 0, none⟩ = some (.int .i64 k) ∧ W.cell? ⟨w.heap.size + 1, 1, none⟩ = some (.string s) ∧ W.cell? ⟨w.heap.size + 1, 2, none⟩ = some (.slice A2 m2 c2) := by
 have h1 : W.heap[w.heap.size]? = some (.cells #[.slice A m c] 26 (0, 0)) := (hb.block _ (by simp; omega)).trans ((Below.heap_alloc _ _ _ (by simp)).trans (World.alloc_heap_new w _))
 have h2 : W.heap[w.heap.size + 1]? = some (.cells #[.int .i64 k, .string s, .slice A2 m2 c2] 32 (0, 0)) := by
  have h9 := World.alloc_heap_new (w.alloc (.cells #[.slice A m c] 26)) (.cells #[.int .i64 k, .string s, .slice A2 m2 c2] 32)
  rw [World.size_alloc] at h9
  exact (hb.block _ (by simp)).trans h9
 exact ⟨by simp [World.cell?, h1], by simp [World.cell?, h2], by simp [World.cell?, h2], by simp [World.cell?, h2]⟩
set_option maxRecDepth 100000 in
theorem own_for (l : List Ru) (e : Ex) (v v2 : Value) (bs b2 : List Nat) (w : World) (hv : PrIs w v l bs) (hv2 : ExIs w v2 e b2) (hfr : Thawed w (bs ++ b2)) (hb : ∀ r ∈ l, exSize r.body ≤ 1099511627776) (hlb : l.length ≤ 1099511627776) (hp : ∀ r ∈ l, r.params.length ≤ 1099511627776) (he : exSize e ≤ 1099511627776) :
 Calls Tryz.prog 11 #[v, v2] w (RetPost (.bool (exFor l e)) w) := by
 have HV := zH (fun (W : World) (hW : Below w.heap.size w W) => own_valid e v2 b2 W (hv2.below hW) he)
 have HD := zH (fun (W : World) (hW : Below w.heap.size w W) => own_dem l v bs W (hv.below hW) ((show Thawed w bs from fun x hx => hfr x (by simp [hx])).below hW) hb hlb)
 have HM := zH (fun (mb mb2 : Nat) (M1 M2 : List (Value × Value)) (wq : World) (xs : List (Rt wq)) (G : List Cn) (W : World) (hW : Below w.heap.size w W) => own_met l e v2 b2 mb mb2 M1 M2 wq xs G W (hv2.below hW) he hp)
 have HE := zH (show exFor l e = (exValid e && fitE l e e) from rfl)
 obtain ⟨u, rfl, hu⟩ := id hv
 obtain ⟨A, c, rfl, hc1, hc2, -⟩ := id hu
 obtain ⟨u2, rfl, hs2, hu2⟩ := id hv2
 obtain ⟨A2, c2, rfl, -⟩ := id hu2
 generalize hR : exFor l e = R at *
 generalize hva : exValid e = va at *
 generalize fitE l e e = f at *
 obtain ⟨m, hm⟩ : ∃ m, m = l.length := ⟨_, rfl⟩
 obtain ⟨m2, hm2⟩ : ∃ m2, m2 = e.args.length := ⟨_, rfl⟩
 rw [← hm] at HD ⊢
 rw [← hm2] at HV HM ⊢
 have HBX := zH (fun (W : World) (hb : Below ((w.alloc (.cells #[.slice A m c] 26)).alloc (.cells #[.int .i64 e.kind, .string e.name, .slice A2 m2 c2] 32)).heap.size ((w.alloc (.cells #[.slice A m c] 26)).alloc (.cells #[.int .i64 e.kind, .string e.name, .slice A2 m2 c2] 32)) W) => for_cells hb)
 have HB0 := zH (((wB _ w).alloc (nR _) (.cells #[.slice A m c] 26)).alloc (by simp) (.cells #[.int .i64 e.kind, .string e.name, .slice A2 m2 c2] 32))
 clear hv hv2 hu hu2 hs2 hfr hb hlb hp he hm hm2 hR hva hc1
 go_enter Tryz.func11, Tryz.ntmps11
 go_wp2_with fail
 obtain ⟨W0, hW0⟩ : ∃ W0, W0 = (w.alloc (.cells #[.slice A m c] 26)).alloc (.cells #[.int .i64 e.kind, .string e.name, .slice A2 m2 c2] 32) := ⟨_, rfl⟩
 rw [← hW0] at HBX HB0 ⊢
 obtain ⟨x0, x1, x2, x3⟩ := HBX.out W0 (wB _ _)
 have HDR := zH (Below.drew (wB W0.heap.size W0))
 clear hW0
 cases va
 · go_region_law
    (first
    | (go_simp; go_at_call 32; refine (HV.out W0.drew (HB0.out.trans (HDR.out.mono HB0.out.size))).mono ?_; rintro r w1 ⟨rfl, hb1⟩; have HB1 := zH (HDR.out.trans hb1); clear hb1; obtain ⟨y0, y1, y2, y3⟩ := HBX.out w1 HB1.out))
   all_goals
    go_wp2_with fail
    go_ret
    exact ⟨by rw [HE.out]; rfl, HB0.out.trans (HB1.out.mono HB0.out.size)⟩
 go_region_law
  (first
  | (go_simp; go_at_call 32; refine (HV.out W0.drew (HB0.out.trans (HDR.out.mono HB0.out.size))).mono ?_; rintro r w1 ⟨rfl, hb1⟩; have HB1 := zH (HDR.out.trans hb1); clear hb1; obtain ⟨y0, y1, y2, y3⟩ := HBX.out w1 HB1.out)
  | (go_simp; go_at_call 26; refine (HD.out w1 (HB0.out.trans (HB1.out.mono HB0.out.size))).mono ?_; rintro r w2 ⟨mb, mb2, M1, M2, wq, xs, G, rfl, hq1, hq2, hb2⟩; have HQ1 := zH hq1; have HQ2 := zH hq2; have HB2 := zH (HB1.out.trans (hb2.mono HB1.out.size)); clear hb2 hq1 hq2; obtain ⟨z0, z1, z2, z3⟩ := HBX.out w2 HB2.out)
  | (go_simp; go_at_call 33; refine (HM.out mb mb2 M1 M2 wq xs G w2 (HB0.out.trans (HB2.out.mono HB0.out.size)) HQ1.out HQ2.out).mono ?_; rintro r w3 ⟨rfl, hb3⟩; have HB3 := zH (HB2.out.trans (hb3.mono HB2.out.size)); clear hb3))
 all_goals
  go_wp2_with fail
  go_ret
  exact ⟨by rw [HE.out]; rfl, HB0.out.trans (HB3.out.mono HB0.out.size)⟩
end Go.Proofs.YtiaknfnhmoinpaaGreat
namespace Go.Proofs.YtiaknfnhmoinpaaGreat
open Go Go.RowKit Go.Sort
structure DemIs (l : List Ru) (w : World) (mb mb2 : Nat) (M1 M2 : List (Value × Value)) (wq : World) (xs : List (Rt wq)) (G : List Cn) : Prop where
 m1 : MapIs w mb M1 ∧ (∀ x ∈ M1, StrK x.1) ∧ xs.map Rt.pair = numd 0 l ∧ Firsts rname Rt.val xs M1
 m2 : MapIs w mb2 M2 ∧ (∀ x ∈ M2, StrK x.1) ∧ Firsts ckey cval G M2 ∧ ∀ q, G.find? q = (consAll l).find? q
theorem DemIs.below {l : List Ru} {w W : World} {mb mb2 : Nat} {M1 M2 : List (Value × Value)} {wq : World} {xs : List (Rt wq)} {G : List Cn} (h : DemIs l w mb mb2 M1 M2 wq xs G) (hb : Below w.heap.size w W) : DemIs l W mb mb2 M1 M2 wq xs G :=
 ⟨⟨h.m1.1.on (hb.block _ h.m1.1.lt), h.m1.2⟩, ⟨h.m2.1.on (hb.block _ h.m2.1.lt), h.m2.2⟩⟩
theorem first_look {l : List Ru} {W : World} {mb mb2 : Nat} {M1 M2 : List (Value × Value)} {wq : World} {xs : List (Rt wq)} {G : List Cn} (h : DemIs l W mb mb2 M1 M2 wq xs G) {r : Ru} (hr : r ∈ l) :
 ∃ (f : Ru) (F1 : Option Addr) (d1 : Nat) (F2 : Option Addr) (d2 : Nat) (F3 : Option Addr) (d3 : Nat), l.find? (named r.name) = some f ∧ (d1 : Int) ≤ 9223372036854775807 ∧ (d2 : Int) ≤ 9223372036854775807 ∧ (d3 : Int) ≤ 9223372036854775807 ∧ f ∈ l ∧ (Instr.lookup 52 (.map (some mb)) (.string r.name) false).run Tryz.prog W = .ok (.agg #[.string f.name, .string f.con, .slice F1 f.vars.length d1, .slice F2 f.params.length d2, .int .i64 f.body.kind, .string f.body.name, .slice F3 f.body.args.length d3]) W := by
 obtain ⟨hm, hK, hxs, hF⟩ := h.m1
 obtain ⟨x, has, hrun, hit⟩ := hm.look (strT W) Tryz.underlying52 (zeroRule W) (key := .string r.name) ⟨r.name, rfl⟩ hK
 have hr2 := hrun false
 simp only [Bool.false_eq_true, if_false] at hr2
 obtain ⟨hi1, hi2⟩ := idx_first (rname_named r.name) xs 0 l hxs
 rcases hF.hits hit with ⟨p, hp1, rfl, rfl⟩ | ⟨hp1, rfl, rfl⟩
 · obtain ⟨A1, d1, A2, d2, A3, d3, hv1, hv2, hv3, k1, k2, k3, -⟩ := p.slices
   have hv : p.val = .agg #[.string p.ru.name, .string p.ru.con, .slice A1 p.ru.vars.length d1, .slice A2 p.ru.params.length d2, .int .i64 p.ru.body.kind, .string p.ru.body.name, .slice A3 p.ru.body.args.length d3] := by rw [← hv1, ← hv2, ← hv3]; rfl
   rw [hv] at hr2
   exact ⟨p.ru, A1, d1, A2, d2, A3, d3, (hi1 p hp1).2, k1, k2, k3, List.mem_of_find?_eq_some (hi1 p hp1).2, hr2⟩
 have hn := (hi2 hp1).2
 rw [List.find?_eq_none] at hn
 exact absurd (by simp [named]) (hn r hr)
theorem con_look {l : List Ru} {W : World} {mb mb2 : Nat} {M1 M2 : List (Value × Value)} {wq : World} {xs : List (Rt wq)} {G : List Cn} (h : DemIs l W mb mb2 M1 M2 wq xs G) {r : Ru} (hr : r ∈ l) (hc : ¬ r.con.size = 0) :
 (Instr.lookup 53 (.map (some mb2)) (.string r.con) false).run Tryz.prog W = .ok (.int .i64 (conR r.con l)) W := by
 obtain ⟨hm, hK, hF, hG⟩ := h.m2
 obtain ⟨x, has, hrun, hit⟩ := hm.look (strT W) Tryz.underlying53 (zeroInt W) (key := .string r.con) ⟨r.con, rfl⟩ hK
 have hr2 := hrun false
 simp only [Bool.false_eq_true, if_false] at hr2
 rcases hF.hits hit with ⟨p, hp1, rfl, rfl⟩ | ⟨hp1, rfl, rfl⟩
 · rw [conR_find, ← hG, first_find _ _ _ hp1]
   exact hr2
 have hn := none_find _ _ hp1
 rw [hG, List.find?_eq_none] at hn
 have hmem : (r.con, r.vars.length) ∈ consAll l := by
  unfold consAll
  rw [List.mem_flatMap]
  exact ⟨r, hr, by unfold consRu headOf; rw [if_neg hc]; simp⟩
 exact absurd (by simp [isC]) (hn _ hmem)
theorem con_le {l : List Ru} {r : Ru} (hr : r ∈ l) (hc : ¬ r.con.size = 0) : 0 ≤ conR r.con l := by
 rw [conR_find]
 cases h : (consAll l).find? (isC r.con) with
 | some x => rw [arOf_some]; omega
 | none =>
  rw [List.find?_eq_none] at h
  have hmem : (r.con, r.vars.length) ∈ consAll l := by
   unfold consAll
   rw [List.mem_flatMap]
   exact ⟨r, hr, by unfold consRu headOf; rw [if_neg hc]; simp⟩
  exact absurd (by simp [isC]) (h _ hmem)
set_option maxRecDepth 100000 in
theorem own_rule (l : List Ru) (r : Ru) (hr : r ∈ l) (v : Value) (b : List Nat) (mb mb2 : Nat) (M1 M2 : List (Value × Value)) (wq : World) (xs : List (Rt wq)) (G : List Cn) (w : World) (hv : RuIs w v r b) (hz : ruTot r ≤ 1048576) (hp : ∀ r ∈ l, r.params.length ≤ 1048576) (hd : DemIs l w mb mb2 M1 M2 wq xs G) :
 Calls Tryz.prog 27 #[.agg #[.map (some mb), .map (some mb2)], v] w (RetPost (.bool (metOk l r)) w) := by
 obtain ⟨wd, hwd⟩ : ∃ wd, wd = w.alloc (.cells #[.map (some mb), .map (some mb2)] 55) := ⟨_, rfl⟩
 have hbd : Below w.heap.size w wd := by rw [hwd]; exact (wB _ w).alloc (nR _) _
 have hsd : wd.heap.size = w.heap.size + 1 := by rw [hwd]; simp
 obtain ⟨A1, A2, A3, c1, c2, q3, c3, b3, rfl, hop⟩ := ru_opened (hv.below hbd)
 obtain ⟨W0, hW0⟩ : ∃ W0, W0 = wd.alloc (.cells #[.string r.name, .string r.con, .slice A1 r.vars.length c1, .slice A2 r.params.length c2, .int .i64 r.body.kind, .string r.body.name, .slice A3 q3 c3] 34) := ⟨_, rfl⟩
 rw [← hW0] at hop
 have hs0 : W0.heap.size = w.heap.size + 1 + 1 := by rw [hW0]; simp [hsd]
 have hb0 : Below w.heap.size w W0 := hbd.trans (hop.low.mono hbd.size)
 obtain ⟨f, F1, d1, F2, d2, F3, d3, hf, hd1, hd2, hd3, hfl, hlk⟩ := first_look (hd.below hb0) hr
 obtain ⟨W1, hW1⟩ : ∃ W1, W1 = W0.alloc (.cells #[.string f.name, .string f.con, .slice F1 f.vars.length d1, .slice F2 f.params.length d2, .int .i64 f.body.kind, .string f.body.name, .slice F3 f.body.args.length d3] 34) := ⟨_, rfl⟩
 have hb1 : Below W0.heap.size W0 W1 := by rw [hW1]; exact (wB _ _).alloc (nR _) _
 have hx1 : Box7 W1 (w.heap.size + 1 + 1) 34 (.string f.name) (.string f.con) (.slice F1 f.vars.length d1) (.slice F2 f.params.length d2) (.int .i64 f.body.kind) (.string f.body.name) (.slice F3 f.body.args.length d3) := by rw [hW1, ← hs0]; exact heap_alloc_new W0 _
 have hxd : wd.heap[w.heap.size]? = some (.cells #[.map (some mb), .map (some mb2)] 55 (0, 0)) := by rw [hwd]; exact heap_alloc_new w _
 have HBF := zH (fun (W : World) (hb : Below W1.heap.size W1 W) => (show Box7 W (w.heap.size + 1 + 1) 34 (.string f.name) (.string f.con) (.slice F1 f.vars.length d1) (.slice F2 f.params.length d2) (.int .i64 f.body.kind) (.string f.body.name) (.slice F3 f.body.args.length d3) from (hb.block _ hx1.lt).trans hx1).cells)
 have HBR := zH (fun (W : World) (hb : Below W1.heap.size W1 W) => by have h9 := hop.box W (hb1.trans (hb.mono hb1.size)); rw [hsd] at h9; exact h9)
 have HBD := zH (fun (W : World) (hb : Below W1.heap.size W1 W) => show W.cell? ⟨w.heap.size, 0, none⟩ = some (.map (some mb)) ∧ W.cell? ⟨w.heap.size, 1, none⟩ = some (.map (some mb2)) from by
  have h9 : W.heap[w.heap.size]? = some (.cells #[.map (some mb), .map (some mb2)] 55 (0, 0)) := ((hop.low.trans ((hb1.trans (hb.mono hb1.size)).mono hop.low.size)).block _ (by rw [hsd]; omega)).trans hxd
  exact ⟨by simp [World.cell?, h9], by simp [World.cell?, h9]⟩)
 have HLO := zH (fun (W : World) (hb : Below W1.heap.size W1 W) => hb0.trans ((hb1.trans (hb.mono hb1.size)).mono hb0.size))
 have HMET := zH (fun (W : World) (hb : Below W1.heap.size W1 W) => own_met l r.body _ b3 mb mb2 M1 M2 wq xs G W (hop.bd W (hb1.trans (hb.mono hb1.size))) (by have := (tot_size _).1 r.body (nR _); unfold ruTot at hz; omega) (fun r hr => by have := hp r hr; omega) (hd.below (hb0.trans ((hb1.trans (hb.mono hb1.size)).mono hb0.size))).m1 (hd.below (hb0.trans ((hb1.trans (hb.mono hb1.size)).mono hb0.size))).m2)
 have HCON := zH (fun (hc : ¬ r.con.size = 0) (W : World) (hb : Below W1.heap.size W1 W) => con_look (hd.below (hb0.trans ((hb1.trans (hb.mono hb1.size)).mono hb0.size))) hr hc)
 have HKR := zH (fun (d : Nat) (os : Array Obj) => Calls.regrown_of ((flat_kind r.name r.con r.body.name A1 A2 A3 r.vars.length c1 r.params.length c2 q3 c3 r.body.kind (grow (redrawn W1 d) os)).mono (fun _ _ h => h)))
 have HKF := zH (fun (d : Nat) (os : Array Obj) => Calls.regrown_of ((flat_kind f.name f.con f.body.name F1 F2 F3 f.vars.length d1 f.params.length d2 f.body.args.length d3 f.body.kind (grow (redrawn W1 d) os)).mono (fun _ _ h => h)))
 have HSA := zH (show metOk l r = (((decide (f.con.size = 0) == decide (r.con.size = 0)) && (decide (f.params.length = r.params.length) && (decide (r.con.size = 0) || decide (conR r.con l = (r.vars.length : Int))))) && fitE l r.body r.body) by unfold metOk sameAs; rw [hf])
 have hpr : (r.params.length : Int) ≤ 1048576 := by have := hp r hr; omega
 have hpf : (f.params.length : Int) ≤ 1048576 := by have := hp f hfl; omega
 have hvr : (r.vars.length : Int) ≤ 1048576 := by unfold ruTot ssTot at hz; omega
 rw [hW0, hwd] at hlk
 rw [hW0, hwd] at hW1
 have HW1 := zH hW1
 have HCL := zH (fun (hc : ¬ r.con.size = 0) => con_le hr hc)
 obtain ⟨x0, x1, x2, x3, x4, x5, x6⟩ := HBR.out W1 (wB _ _)
 obtain ⟨y0, y1, y2, y3, y4, y5, y6⟩ := HBF.out W1 (wB _ _)
 have r0 := fun d os => cell_regrown x0 d os
 have r1 := fun d os => cell_regrown x1 d os
 have r2 := fun d os => cell_regrown x2 d os
 have r3 := fun d os => cell_regrown x3 d os
 have r4 := fun d os => cell_regrown x4 d os
 have r5 := fun d os => cell_regrown x5 d os
 have r6 := fun d os => cell_regrown x6 d os
 have f0 := fun d os => cell_regrown y0 d os
 have f1 := fun d os => cell_regrown y1 d os
 have f2 := fun d os => cell_regrown y2 d os
 have f3 := fun d os => cell_regrown y3 d os
 have f4 := fun d os => cell_regrown y4 d os
 have f5 := fun d os => cell_regrown y5 d os
 have f6 := fun d os => cell_regrown y6 d os
 clear x0 x1 x2 x3 x4 x5 x6 y0 y1 y2 y3 y4 y5 y6 hwd hbd hsd hop hW0 hs0 hb0 hf hW1 hb1 hx1 hxd hv hz hp hd hr hfl
 generalize metOk l r = R at *
 generalize fitE l r.body r.body = ft at *
 generalize conR r.con l = cn at *
 by_cases hf0 : f.con.size = 0
 · by_cases hr0 : r.con.size = 0
   · have hbr := empty_yes hr0
     by_cases hpe : f.params.length = r.params.length
     · have hpi : ((r.params.length : Int) == (f.params.length : Int)) = true := by simp [hpe]
       have HE := zH (show R = ft by rw [HSA.out, decide_eq_true hf0, decide_eq_true hr0, decide_eq_true hpe]; simp)
       have cR := fun (d : Nat) (os : Array Obj) => HKR.out d os
       have cF := fun (d : Nat) (os : Array Obj) => HKF.out d os
       rw [show kindS r.con = 1 from by unfold kindS; rw [if_pos hr0]] at cR
       rw [show kindS f.con = 1 from by unfold kindS; rw [if_pos hf0]] at cF
       have HR0 := zH hr0
       clear hr0 hf0 hpe
       go_enter Tryz.func27, Tryz.ntmps27
       go_wp2_with fail
       rw [← HW1.out]
       refine wp_region_quiet_below (by kernel_rfl) (by kernel_rfl) ?_
       repeat (go_big_quiet_step (first | exact cR _ _ | exact cF _ _))
       refine wpQuiet_nil ?_
       intro _ hw'
       obtain ⟨⟨dq, osq⟩, hw''⟩ := hw'
       subst hw''
       have hb2 := below_regrown W1 dq osq
       generalize grow (redrawn W1 dq) osq = W2 at *
       have HB2 := zH hb2
       obtain ⟨x0, x1, x2, x3, x4, x5, x6⟩ := HBR.out W2 HB2.out
       obtain ⟨e0, e1⟩ := HBD.out W2 HB2.out
       clear hb2 cR cF
       go_wp2_with (go_at_call 33; refine (HMET.out W2 HB2.out).mono ?_; rintro e w3 ⟨rfl, hb3⟩; have HB3 := zH (HB2.out.trans (hb3.mono HB2.out.size)); clear hb3)
       go_ret
       exact ⟨by rw [HE.out]; rfl, HLO.out w3 HB3.out⟩
     have hpi : ((r.params.length : Int) == (f.params.length : Int)) = false := by simp; omega
     have HE := zH (show R = false by rw [HSA.out, decide_eq_false hpe]; simp)
     have cR := fun (d : Nat) (os : Array Obj) => HKR.out d os
     have cF := fun (d : Nat) (os : Array Obj) => HKF.out d os
     rw [show kindS r.con = 1 from by unfold kindS; rw [if_pos hr0]] at cR
     rw [show kindS f.con = 1 from by unfold kindS; rw [if_pos hf0]] at cF
     have HR0 := zH hr0
     clear hr0 hf0 hpe
     go_enter Tryz.func27, Tryz.ntmps27
     go_wp2_with fail
     rw [← HW1.out]
     refine wp_region_quiet_below (by kernel_rfl) (by kernel_rfl) ?_
     repeat (go_big_quiet_step (first | exact cR _ _ | exact cF _ _))
     refine wpQuiet_nil ?_
     intro _ hw'
     obtain ⟨⟨dq, osq⟩, hw''⟩ := hw'
     subst hw''
     have hb2 := below_regrown W1 dq osq
     generalize grow (redrawn W1 dq) osq = W2 at *
     have HB2 := zH hb2
     obtain ⟨x0, x1, x2, x3, x4, x5, x6⟩ := HBR.out W2 HB2.out
     obtain ⟨e0, e1⟩ := HBD.out W2 HB2.out
     clear hb2 cR cF
     go_wp2_with fail
     go_ret
     exact ⟨by rw [HE.out]; rfl, HLO.out W2 HB2.out⟩
   have hbr := empty_not hr0
   have hcl := HCL.out hr0
   by_cases hce : cn = (r.vars.length : Int)
   · have hci : ((r.vars.length : Int) == cn) = true := by simp [hce]
     have HE := zH (show R = false by rw [HSA.out, decide_eq_true hf0, decide_eq_false hr0]; simp)
     have cR := fun (d : Nat) (os : Array Obj) => HKR.out d os
     have cF := fun (d : Nat) (os : Array Obj) => HKF.out d os
     rw [show kindS r.con = 2 from by unfold kindS; rw [if_neg hr0]] at cR
     rw [show kindS f.con = 1 from by unfold kindS; rw [if_pos hf0]] at cF
     have HR0 := zH hr0
     clear hr0 hf0 hce
     go_enter Tryz.func27, Tryz.ntmps27
     go_wp2_with fail
     rw [← HW1.out]
     refine wp_region_quiet_below (by kernel_rfl) (by kernel_rfl) ?_
     repeat (go_big_quiet_step (first | exact cR _ _ | exact cF _ _))
     refine wpQuiet_nil ?_
     intro _ hw'
     obtain ⟨⟨dq, osq⟩, hw''⟩ := hw'
     subst hw''
     have hb2 := below_regrown W1 dq osq
     generalize grow (redrawn W1 dq) osq = W2 at *
     have HB2 := zH hb2
     obtain ⟨x0, x1, x2, x3, x4, x5, x6⟩ := HBR.out W2 HB2.out
     obtain ⟨e0, e1⟩ := HBD.out W2 HB2.out
     have hlc := HCON.out HR0.out W2 HB2.out
     clear hb2 cR cF
     go_wp2_with fail
     go_ret
     exact ⟨by rw [HE.out]; rfl, HLO.out W2 HB2.out⟩
   have hci : ((r.vars.length : Int) == cn) = false := by simp; omega
   have HE := zH (show R = false by rw [HSA.out, decide_eq_true hf0, decide_eq_false hr0]; simp)
   have cR := fun (d : Nat) (os : Array Obj) => HKR.out d os
   have cF := fun (d : Nat) (os : Array Obj) => HKF.out d os
   rw [show kindS r.con = 2 from by unfold kindS; rw [if_neg hr0]] at cR
   rw [show kindS f.con = 1 from by unfold kindS; rw [if_pos hf0]] at cF
   have HR0 := zH hr0
   clear hr0 hf0 hce
   go_enter Tryz.func27, Tryz.ntmps27
   go_wp2_with fail
   rw [← HW1.out]
   refine wp_region_quiet_below (by kernel_rfl) (by kernel_rfl) ?_
   repeat (go_big_quiet_step (first | exact cR _ _ | exact cF _ _))
   refine wpQuiet_nil ?_
   intro _ hw'
   obtain ⟨⟨dq, osq⟩, hw''⟩ := hw'
   subst hw''
   have hb2 := below_regrown W1 dq osq
   generalize grow (redrawn W1 dq) osq = W2 at *
   have HB2 := zH hb2
   obtain ⟨x0, x1, x2, x3, x4, x5, x6⟩ := HBR.out W2 HB2.out
   obtain ⟨e0, e1⟩ := HBD.out W2 HB2.out
   have hlc := HCON.out HR0.out W2 HB2.out
   clear hb2 cR cF
   go_wp2_with fail
   go_ret
   exact ⟨by rw [HE.out]; rfl, HLO.out W2 HB2.out⟩
 by_cases hr0 : r.con.size = 0
 · have hbr := empty_yes hr0
   have HE := zH (show R = false by rw [HSA.out, decide_eq_false hf0, decide_eq_true hr0]; simp)
   have cR := fun (d : Nat) (os : Array Obj) => HKR.out d os
   have cF := fun (d : Nat) (os : Array Obj) => HKF.out d os
   rw [show kindS r.con = 1 from by unfold kindS; rw [if_pos hr0]] at cR
   rw [show kindS f.con = 2 from by unfold kindS; rw [if_neg hf0]] at cF
   have HR0 := zH hr0
   clear hr0 hf0
   go_enter Tryz.func27, Tryz.ntmps27
   go_wp2_with fail
   rw [← HW1.out]
   refine wp_region_quiet_below (by kernel_rfl) (by kernel_rfl) ?_
   repeat (go_big_quiet_step (first | exact cR _ _ | exact cF _ _))
   refine wpQuiet_nil ?_
   intro _ hw'
   obtain ⟨⟨dq, osq⟩, hw''⟩ := hw'
   subst hw''
   have hb2 := below_regrown W1 dq osq
   generalize grow (redrawn W1 dq) osq = W2 at *
   have HB2 := zH hb2
   obtain ⟨x0, x1, x2, x3, x4, x5, x6⟩ := HBR.out W2 HB2.out
   obtain ⟨e0, e1⟩ := HBD.out W2 HB2.out
   clear hb2 cR cF
   go_wp2_with fail
   go_ret
   exact ⟨by rw [HE.out]; rfl, HLO.out W2 HB2.out⟩
 have hbr := empty_not hr0
 have hcl := HCL.out hr0
 by_cases hpe : f.params.length = r.params.length
 · have hpi : ((r.params.length : Int) == (f.params.length : Int)) = true := by simp [hpe]
   by_cases hce : cn = (r.vars.length : Int)
   · have hci : ((r.vars.length : Int) == cn) = true := by simp [hce]
     have HE := zH (show R = ft by rw [HSA.out, decide_eq_false hf0, decide_eq_false hr0, decide_eq_true hpe, decide_eq_true hce]; simp)
     have cR := fun (d : Nat) (os : Array Obj) => HKR.out d os
     have cF := fun (d : Nat) (os : Array Obj) => HKF.out d os
     rw [show kindS r.con = 2 from by unfold kindS; rw [if_neg hr0]] at cR
     rw [show kindS f.con = 2 from by unfold kindS; rw [if_neg hf0]] at cF
     have HR0 := zH hr0
     clear hr0 hf0 hpe hce
     go_enter Tryz.func27, Tryz.ntmps27
     go_wp2_with fail
     rw [← HW1.out]
     refine wp_region_quiet_below (by kernel_rfl) (by kernel_rfl) ?_
     repeat (go_big_quiet_step (first | exact cR _ _ | exact cF _ _))
     refine wpQuiet_nil ?_
     intro _ hw'
     obtain ⟨⟨dq, osq⟩, hw''⟩ := hw'
     subst hw''
     have hb2 := below_regrown W1 dq osq
     generalize grow (redrawn W1 dq) osq = W2 at *
     have HB2 := zH hb2
     obtain ⟨x0, x1, x2, x3, x4, x5, x6⟩ := HBR.out W2 HB2.out
     obtain ⟨e0, e1⟩ := HBD.out W2 HB2.out
     have hlc := HCON.out HR0.out W2 HB2.out
     clear hb2 cR cF
     go_wp2_with (go_at_call 33; refine (HMET.out W2 HB2.out).mono ?_; rintro e w3 ⟨rfl, hb3⟩; have HB3 := zH (HB2.out.trans (hb3.mono HB2.out.size)); clear hb3)
     go_ret
     exact ⟨by rw [HE.out]; rfl, HLO.out w3 HB3.out⟩
   have hci : ((r.vars.length : Int) == cn) = false := by simp; omega
   have HE := zH (show R = false by rw [HSA.out, decide_eq_false hce, decide_eq_false hr0]; simp)
   have cR := fun (d : Nat) (os : Array Obj) => HKR.out d os
   have cF := fun (d : Nat) (os : Array Obj) => HKF.out d os
   rw [show kindS r.con = 2 from by unfold kindS; rw [if_neg hr0]] at cR
   rw [show kindS f.con = 2 from by unfold kindS; rw [if_neg hf0]] at cF
   have HR0 := zH hr0
   clear hr0 hf0 hpe hce
   go_enter Tryz.func27, Tryz.ntmps27
   go_wp2_with fail
   rw [← HW1.out]
   refine wp_region_quiet_below (by kernel_rfl) (by kernel_rfl) ?_
   repeat (go_big_quiet_step (first | exact cR _ _ | exact cF _ _))
   refine wpQuiet_nil ?_
   intro _ hw'
   obtain ⟨⟨dq, osq⟩, hw''⟩ := hw'
   subst hw''
   have hb2 := below_regrown W1 dq osq
   generalize grow (redrawn W1 dq) osq = W2 at *
   have HB2 := zH hb2
   obtain ⟨x0, x1, x2, x3, x4, x5, x6⟩ := HBR.out W2 HB2.out
   obtain ⟨e0, e1⟩ := HBD.out W2 HB2.out
   have hlc := HCON.out HR0.out W2 HB2.out
   clear hb2 cR cF
   go_wp2_with fail
   go_ret
   exact ⟨by rw [HE.out]; rfl, HLO.out W2 HB2.out⟩
 have hpi : ((r.params.length : Int) == (f.params.length : Int)) = false := by simp; omega
 by_cases hce : cn = (r.vars.length : Int)
 · have hci : ((r.vars.length : Int) == cn) = true := by simp [hce]
   have HE := zH (show R = false by rw [HSA.out, decide_eq_false hpe]; simp)
   have cR := fun (d : Nat) (os : Array Obj) => HKR.out d os
   have cF := fun (d : Nat) (os : Array Obj) => HKF.out d os
   rw [show kindS r.con = 2 from by unfold kindS; rw [if_neg hr0]] at cR
   rw [show kindS f.con = 2 from by unfold kindS; rw [if_neg hf0]] at cF
   have HR0 := zH hr0
   clear hr0 hf0 hpe hce
   go_enter Tryz.func27, Tryz.ntmps27
   go_wp2_with fail
   rw [← HW1.out]
   refine wp_region_quiet_below (by kernel_rfl) (by kernel_rfl) ?_
   repeat (go_big_quiet_step (first | exact cR _ _ | exact cF _ _))
   refine wpQuiet_nil ?_
   intro _ hw'
   obtain ⟨⟨dq, osq⟩, hw''⟩ := hw'
   subst hw''
   have hb2 := below_regrown W1 dq osq
   generalize grow (redrawn W1 dq) osq = W2 at *
   have HB2 := zH hb2
   obtain ⟨x0, x1, x2, x3, x4, x5, x6⟩ := HBR.out W2 HB2.out
   obtain ⟨e0, e1⟩ := HBD.out W2 HB2.out
   have hlc := HCON.out HR0.out W2 HB2.out
   clear hb2 cR cF
   go_wp2_with fail
   go_ret
   exact ⟨by rw [HE.out]; rfl, HLO.out W2 HB2.out⟩
 have hci : ((r.vars.length : Int) == cn) = false := by simp; omega
 have HE := zH (show R = false by rw [HSA.out, decide_eq_false hpe]; simp)
 have cR := fun (d : Nat) (os : Array Obj) => HKR.out d os
 have cF := fun (d : Nat) (os : Array Obj) => HKF.out d os
 rw [show kindS r.con = 2 from by unfold kindS; rw [if_neg hr0]] at cR
 rw [show kindS f.con = 2 from by unfold kindS; rw [if_neg hf0]] at cF
 have HR0 := zH hr0
 clear hr0 hf0 hpe hce
 go_enter Tryz.func27, Tryz.ntmps27
 go_wp2_with fail
 rw [← HW1.out]
 refine wp_region_quiet_below (by kernel_rfl) (by kernel_rfl) ?_
 repeat (go_big_quiet_step (first | exact cR _ _ | exact cF _ _))
 refine wpQuiet_nil ?_
 intro _ hw'
 obtain ⟨⟨dq, osq⟩, hw''⟩ := hw'
 subst hw''
 have hb2 := below_regrown W1 dq osq
 generalize grow (redrawn W1 dq) osq = W2 at *
 have HB2 := zH hb2
 obtain ⟨x0, x1, x2, x3, x4, x5, x6⟩ := HBR.out W2 HB2.out
 obtain ⟨e0, e1⟩ := HBD.out W2 HB2.out
 have hlc := HCON.out HR0.out W2 HB2.out
 clear hb2 cR cF
 go_wp2_with fail
 go_ret
 exact ⟨by rw [HE.out]; rfl, HLO.out W2 HB2.out⟩
end Go.Proofs.YtiaknfnhmoinpaaGreat
