/- A part of the proof of the seat's statement: OwnValidP. Condition: as each says. -/
import Derived.Test.YtiaknfnhmoinpaaGreatNest
import Derived.Test.YtiaknfnhmoinpaaGreatOwnRule
set_option maxHeartbeats 8000000
namespace Go.Proofs.YtiaknfnhmoinpaaGreat
open Go Go.RowKit
set_option maxRecDepth 100000 in
theorem own_all1 (l : List Ru) (v : Value) (bs : List Nat) (w : World) (hv : PrIs w v l bs) (hz : rusTot l ≤ 1048576) :
 Calls Tryz.prog 23 #[v, .func (.func 24) #[] #[]] w (RetPost (.bool (l.all (aloneOk))) w) := by
 have hll := rusTot_ge l
 have HCALL := zH (fun (r : Ru) (hm : r ∈ l) (v2 : Value) (b2 : List Nat) (W : World) (hW : Below w.heap.size w W) (h2 : RuIs W v2 r b2) => own_alone r v2 b2 W h2 (by have := rusTot_mem hm; omega))
 obtain ⟨u, rfl, hu⟩ := id hv
 obtain ⟨A, c, rfl, hc1, hc2, -⟩ := id hu
 obtain ⟨m, hm⟩ : ∃ m, m = l.length := ⟨_, rfl⟩
 have HU := zH hu
 rw [← hm] at hc1 HU hll ⊢
 have HM := zH hm
 have HB0 := zH ((wB w.heap.size w).alloc (nR _) (.cells #[.slice A m c] 26))
 have HBX := zH (fun (W : World) (h : Below (w.alloc (.cells #[.slice A m c] 26)).heap.size (w.alloc (.cells #[.slice A m c] 26)) W) => pbox h)
 have HV := zH (show l.all (aloneOk) = (l.drop 0).all (aloneOk) from rfl)
 have hmi : (m : Int) ≤ 1048576 := by omega
 clear hu hm hv hz
 generalize l.all (aloneOk) = R at *
 go_enter Tryz.func23, Tryz.ntmps23
 go_wp2_with fail
 go_loopw [10] (fun i wr => ∃ (k : Nat), k ≤ m ∧ i = .int .i64 (k : Int) ∧ Hid (R = (l.drop k).all (aloneOk)) ∧ Hid (Below (w.alloc (.cells #[.slice A m c] 26)).heap.size (w.alloc (.cells #[.slice A m c] 26)) wr)) (fun i _ => m - (intOf i).toNat)
 case atStart => exact ⟨0, Nat.zero_le _, rfl, HV, zH (wB _ _)⟩
 case round =>
  obtain ⟨k, hk, rfl, HK, HB⟩ := hrel
  have x0 := HBX.out wr HB.out
  have HL := zH (HB0.out.trans (HB.out.mono HB0.out.size))
  by_cases hlt : k < m
  · obtain ⟨g, o, r, v1, v2, y, b, hA⟩ := (HU.out.below HL.out).get k (by rw [← HM.out]; exact hlt)
    obtain rfl := hA.eq
    obtain ⟨e0, e1, e2, e3, e4, e5, e6⟩ := hA.cells
    obtain ⟨b1, b2, b3, -, -, -, h3, h4, h5⟩ := hA.is.parts
    obtain ⟨A1, c1, rfl⟩ := h3.slice
    obtain ⟨A2, c2, rfl⟩ := h4.slice
    obtain ⟨A3, q3, c3, rfl⟩ := his_slice0 h5
    have hlo2 : Below wr.heap.size wr (wr.alloc (.cells #[.string r.name, .string r.con, .slice A1 r.vars.length c1, .slice A2 r.params.length c2, .int .i64 r.body.kind, .string r.body.name, .slice A3 q3 c3] 34)) := (wB _ wr).alloc (nR _) _
    have HC2 := zH (HCALL.out r hA.mem _ b (wr.alloc (.cells #[.string r.name, .string r.con, .slice A1 r.vars.length c1, .slice A2 r.params.length c2, .int .i64 r.body.kind, .string r.body.name, .slice A3 q3 c3] 34)) (HL.out.trans (hlo2.mono HL.out.size)) (hA.is.below hlo2))
    have HB2 := zH (HB.out.trans (hlo2.mono HB.out.size))
    have HD := zH (show (l.drop k).all (aloneOk) = ((aloneOk) r && (l.drop (k + 1)).all (aloneOk)) by
     obtain ⟨h1, h2⟩ := List.getElem?_eq_some_iff.1 hA.get
     rw [List.drop_eq_getElem_cons h1, h2, List.all_cons])
    have hk0 : (0 : Int) ≤ (k : Int) := by omega
    have hkn : (k : Int) < (m : Int) := by omega
    clear hA h3 h4 h5 hlo2
    cases hx : (aloneOk) r
    · rw [hx] at HC2
      have HE := zH (show R = false by rw [HK.out, HD.out, hx]; rfl)
      clear hx
      go_wp2_with (go_at_call 24; refine HC2.out.mono ?_; rintro e w3 ⟨rfl, hb3⟩; have HB3 := zH (HB2.out.trans (hb3.mono HB2.out.size)); clear hb3)
      go_ret
      exact ⟨by rw [HE.out]; rfl, HB0.out.trans (HB3.out.mono HB0.out.size)⟩
    rw [hx] at HC2
    have HE := zH (show R = (l.drop (k + 1)).all (aloneOk) by rw [HK.out, HD.out, hx, Bool.true_and])
    clear hx
    go_wp2_with (go_at_call 24; refine HC2.out.mono ?_; rintro e w3 ⟨rfl, hb3⟩; have HB3 := zH (HB2.out.trans (hb3.mono HB2.out.size)); clear hb3)
    go_roundw
    case rel => exact ⟨k + 1, by omega, by go_num, HE, HB3⟩
    case measure => simp [intOf]; omega
  have HE := zH (show R = true by rw [HK.out, List.drop_eq_nil_of_le (by rw [← HM.out]; omega)]; rfl)
  go_wp2
  go_ret
  exact ⟨by rw [HE.out]; rfl, HL.out⟩
set_option maxRecDepth 100000 in
theorem own_all2 (l : List Ru) (v : Value) (bs : List Nat) (mb mb2 : Nat) (M1 M2 : List (Value × Value)) (wq : World) (xs : List (Rt wq)) (G : List Cn) (w : World) (hv : PrIs w v l bs) (hz : rusTot l ≤ 1048576) (hd : DemIs l w mb mb2 M1 M2 wq xs G) :
 Calls Tryz.prog 23 #[v, .func (.func 27) #[.agg #[.map (some mb), .map (some mb2)]] #[]] w (RetPost (.bool (l.all (metOk l))) w) := by
 have hll := rusTot_ge l
 have HCALL := zH (fun (r : Ru) (hm : r ∈ l) (v2 : Value) (b2 : List Nat) (W : World) (hW : Below w.heap.size w W) (h2 : RuIs W v2 r b2) => own_rule l r hm v2 b2 mb mb2 M1 M2 wq xs G W h2 (by have := rusTot_mem hm; omega) (fun q hq => by have := rusTot_mem hq; unfold ruTot ssTot at this; omega) (hd.below hW))
 obtain ⟨u, rfl, hu⟩ := id hv
 obtain ⟨A, c, rfl, hc1, hc2, -⟩ := id hu
 obtain ⟨m, hm⟩ : ∃ m, m = l.length := ⟨_, rfl⟩
 have HU := zH hu
 rw [← hm] at hc1 HU hll ⊢
 have HM := zH hm
 have HB0 := zH ((wB w.heap.size w).alloc (nR _) (.cells #[.slice A m c] 26))
 have HBX := zH (fun (W : World) (h : Below (w.alloc (.cells #[.slice A m c] 26)).heap.size (w.alloc (.cells #[.slice A m c] 26)) W) => pbox h)
 have HV := zH (show l.all (metOk l) = (l.drop 0).all (metOk l) from rfl)
 have hmi : (m : Int) ≤ 1048576 := by omega
 clear hu hm hv hz
 generalize l.all (metOk l) = R at *
 go_enter Tryz.func23, Tryz.ntmps23
 go_wp2_with fail
 go_loopw [10] (fun i wr => ∃ (k : Nat), k ≤ m ∧ i = .int .i64 (k : Int) ∧ Hid (R = (l.drop k).all (metOk l)) ∧ Hid (Below (w.alloc (.cells #[.slice A m c] 26)).heap.size (w.alloc (.cells #[.slice A m c] 26)) wr)) (fun i _ => m - (intOf i).toNat)
 case atStart => exact ⟨0, Nat.zero_le _, rfl, HV, zH (wB _ _)⟩
 case round =>
  obtain ⟨k, hk, rfl, HK, HB⟩ := hrel
  have x0 := HBX.out wr HB.out
  have HL := zH (HB0.out.trans (HB.out.mono HB0.out.size))
  by_cases hlt : k < m
  · obtain ⟨g, o, r, v1, v2, y, b, hA⟩ := (HU.out.below HL.out).get k (by rw [← HM.out]; exact hlt)
    obtain rfl := hA.eq
    obtain ⟨e0, e1, e2, e3, e4, e5, e6⟩ := hA.cells
    obtain ⟨b1, b2, b3, -, -, -, h3, h4, h5⟩ := hA.is.parts
    obtain ⟨A1, c1, rfl⟩ := h3.slice
    obtain ⟨A2, c2, rfl⟩ := h4.slice
    obtain ⟨A3, q3, c3, rfl⟩ := his_slice0 h5
    have hlo2 : Below wr.heap.size wr (wr.alloc (.cells #[.string r.name, .string r.con, .slice A1 r.vars.length c1, .slice A2 r.params.length c2, .int .i64 r.body.kind, .string r.body.name, .slice A3 q3 c3] 34)) := (wB _ wr).alloc (nR _) _
    have HC2 := zH (HCALL.out r hA.mem _ b (wr.alloc (.cells #[.string r.name, .string r.con, .slice A1 r.vars.length c1, .slice A2 r.params.length c2, .int .i64 r.body.kind, .string r.body.name, .slice A3 q3 c3] 34)) (HL.out.trans (hlo2.mono HL.out.size)) (hA.is.below hlo2))
    have HB2 := zH (HB.out.trans (hlo2.mono HB.out.size))
    have HD := zH (show (l.drop k).all (metOk l) = ((metOk l) r && (l.drop (k + 1)).all (metOk l)) by
     obtain ⟨h1, h2⟩ := List.getElem?_eq_some_iff.1 hA.get
     rw [List.drop_eq_getElem_cons h1, h2, List.all_cons])
    have hk0 : (0 : Int) ≤ (k : Int) := by omega
    have hkn : (k : Int) < (m : Int) := by omega
    clear hA h3 h4 h5 hlo2
    cases hx : (metOk l) r
    · rw [hx] at HC2
      have HE := zH (show R = false by rw [HK.out, HD.out, hx]; rfl)
      clear hx
      go_wp2_with (go_at_call 27; refine HC2.out.mono ?_; rintro e w3 ⟨rfl, hb3⟩; have HB3 := zH (HB2.out.trans (hb3.mono HB2.out.size)); clear hb3)
      go_ret
      exact ⟨by rw [HE.out]; rfl, HB0.out.trans (HB3.out.mono HB0.out.size)⟩
    rw [hx] at HC2
    have HE := zH (show R = (l.drop (k + 1)).all (metOk l) by rw [HK.out, HD.out, hx, Bool.true_and])
    clear hx
    go_wp2_with (go_at_call 27; refine HC2.out.mono ?_; rintro e w3 ⟨rfl, hb3⟩; have HB3 := zH (HB2.out.trans (hb3.mono HB2.out.size)); clear hb3)
    go_roundw
    case rel => exact ⟨k + 1, by omega, by go_num, HE, HB3⟩
    case measure => simp [intOf]; omega
  have HE := zH (show R = true by rw [HK.out, List.drop_eq_nil_of_le (by rw [← HM.out]; omega)]; rfl)
  go_wp2
  go_ret
  exact ⟨by rw [HE.out]; rfl, HL.out⟩
theorem nums_len {wo : World} {l : List Ru} {xs : List (Rt wo)} {M : List (Value × Value)} (hx : xs.map Rt.pair = numd 0 l) (hF : Firsts rkey rnum xs M) : ((M.length : Int) == (l.length : Int)) = decide ((l.map keyR).Nodup) := by
 have hl : xs.length = l.length := by
  have := congrArg List.length hx
  rw [List.length_map, numd_len] at this
  exact this
 have hru : xs.map Rt.ru = l := by
  have h2 : ∀ (t : List Ru) (k : Nat), (numd k t).map Prod.snd = t := by
   intro t
   induction t with
   | nil => intro k; rfl
   | cons a t ih => intro k; rw [numd, List.map_cons, ih]
  have := congrArg (List.map Prod.snd) hx
  rw [List.map_map, h2] at this
  exact this
 have hk : xs.map rkey = (l.map keyR).map (fun p => Value.agg #[.string p.1, .string p.2]) := by
  rw [← hru, List.map_map, List.map_map]; rfl
 have hn : (xs.map rkey).Nodup ↔ (l.map keyR).Nodup := by
  rw [hk]
  constructor
  · intro h
    exact (List.pairwise_map.1 h).imp (fun hne e => hne (by rw [e]))
  intro h
  refine List.pairwise_map.2 (List.Pairwise.imp (fun {a b} hne e => hne ?_) h)
  simp at e
  exact Prod.ext e.1 e.2
 rw [Bool.eq_iff_iff, decide_eq_true_eq, ← hn, ← hF.len.2, hl]
 simp only [beq_iff_eq]
 omega
def NumsLen (m : Nat) (nd : Bool) (w : World) (e : Ending) (w2 : World) : Prop :=
 ∃ (mb q : Nat), e = .returned (.map (some mb)) ∧ (∀ ty : TypeId, (Builtin.len_ #[50] ty #[.map (some mb)]).run Tryz.prog w2 = .ok (.int .i64 (q : Int)) w2) ∧ ((q : Int) == (m : Int)) = nd ∧ Below w.heap.size w w2
theorem own_numlen (l : List Ru) (v : Value) (bs : List Nat) (w : World) (hv : PrIs w v l bs) (hb : l.length ≤ 1099511627776) : Calls Tryz.prog 25 #[v] w (NumsLen l.length (decide ((l.map keyR).Nodup)) w) := by
 refine (own_nums l v bs w hv hb).mono ?_
 rintro e w2 ⟨mb, M, xs, rfl, hm, hK, hxs, hF, hlo, hb2⟩
 exact ⟨mb, M.length, rfl, fun ty => asc_len_run _ hm Tryz.underlying50 ty, nums_len hxs hF, hb2⟩
set_option maxRecDepth 100000 in
theorem own_validp (l : List Ru) (v : Value) (bs : List Nat) (w : World) (hv : PrIs w v l bs) (hfr : Thawed w bs) (hz : rusTot l ≤ 1048576) :
 Calls Tryz.prog 6 #[v] w (RetPost (.bool (validR l)) w) := by
 have hll := rusTot_ge l
 have hml : l.length ≤ 1048576 := by omega
 have HA1 := zH (fun (W : World) (hW : Below w.heap.size w W) => own_all1 l v bs W (hv.below hW) hz)
 have HA2 := zH (fun (mb mb2 : Nat) (M1 M2 : List (Value × Value)) (wq : World) (xs : List (Rt wq)) (G : List Cn) (W : World) (hW : Below w.heap.size w W) (hd : DemIs l W mb mb2 M1 M2 wq xs G) => own_all2 l v bs mb mb2 M1 M2 wq xs G W (hv.below hW) hz hd)
 have HNU := zH (fun (W : World) (hW : Below w.heap.size w W) => own_numlen l v bs W (hv.below hW) (by omega))
 have HDE := zH (fun (W : World) (hW : Below w.heap.size w W) => own_dem l v bs W (hv.below hW) (hfr.below hW) (fun r hr => by have := rusTot_mem hr; have := (tot_size _).1 r.body (nR _); unfold ruTot at *; omega) (by omega))
 have HVA := zH ((valid_eq l).trans (show validO l = (decide (l.length ≤ 24) && (l.all aloneOk && (decide ((l.map keyR).Nodup) && l.all (metOk l)))) from rfl))
 obtain ⟨u, rfl, hu⟩ := id hv
 obtain ⟨A, c, rfl, hc1, hc2, -⟩ := id hu
 have HB0 := zH ((wB w.heap.size w).alloc (nR _) (.cells #[.slice A l.length c] 26))
 have HBX := zH (fun (W : World) (h : Below (w.alloc (.cells #[.slice A l.length c] 26)).heap.size (w.alloc (.cells #[.slice A l.length c] 26)) W) => pbox h)
 clear hu hv hfr hz
 generalize validR l = R at *
 generalize ha1 : l.all aloneOk = a1 at *
 generalize ha2 : l.all (metOk l) = a2 at *
 generalize hnd : decide ((l.map keyR).Nodup) = nd at *
 clear ha1 ha2 hnd
 generalize l.length = m at *
 have hmi : (m : Int) ≤ 1048576 := by omega
 obtain ⟨W0, hW0⟩ : ∃ W0, W0 = w.alloc (.cells #[.slice A m c] 26) := ⟨_, rfl⟩
 rw [← hW0] at HB0 HBX
 have HW0 := zH hW0
 have x0 := HBX.out W0 (wB _ _)
 clear hW0 hll
 by_cases h24 : m ≤ 24
 · have h24i : ¬ (24 : Int) < (m : Int) := by omega
   have h24j : (m : Int) ≤ 24 := by omega
   rw [decide_eq_true h24, Bool.true_and] at HVA
   clear h24
   go_enter Tryz.func6, Tryz.ntmps6
   go_wp2_with fail
   rw [← HW0.out]
   go_at_call 23
   refine (HA1.out W0 HB0.out).mono ?_
   rintro e w1 ⟨rfl, hb1⟩
   have HB1 := zH hb1
   have y0 := HBX.out w1 hb1
   clear hb1
   cases a1
   · rw [Bool.false_and] at HVA
     go_wp2_with fail
     go_ret
     exact ⟨by rw [HVA.out]; rfl, HB0.out.trans (HB1.out.mono HB0.out.size)⟩
   rw [Bool.true_and] at HVA
   have HD1 := zH (HB1.out.trans (Below.drew (wB w1.heap.size w1) |>.mono HB1.out.size))
   cases nd
   · rw [Bool.false_and] at HVA
     go_wp2_with fail
     go_region_law
      (first
      | (go_simp; go_at_call 25; refine (HNU.out w1.drew (HB0.out.trans (HD1.out.mono HB0.out.size))).mono ?_; rintro e w2 ⟨mb, mq, rfl, hlen, hq, hb2⟩; have HB2 := zH (HD1.out.trans (hb2.mono HD1.out.size)); have z0 := HBX.out w2 HB2.out; clear hb2))
     all_goals
      go_wp2_with fail
      go_region_law (fail)
      all_goals
       go_wp2_with fail
       go_ret
       exact ⟨by rw [HVA.out]; rfl, HB0.out.trans (HB2.out.drew.mono HB0.out.size)⟩
   rw [Bool.true_and] at HVA
   go_wp2_with fail
   go_region_law
    (first
    | (go_simp; go_at_call 25; refine (HNU.out w1.drew (HB0.out.trans (HD1.out.mono HB0.out.size))).mono ?_; rintro e w2 ⟨mb, mq, rfl, hlen, hq, hb2⟩; have HB2 := zH (HD1.out.trans (hb2.mono HD1.out.size)); have z0 := HBX.out w2 HB2.out; have HD2 := zH (HB2.out.trans (Below.drew (wB w2.heap.size w2) |>.mono HB2.out.size)); clear hb2))
   all_goals
    go_wp2_with fail
    go_region_law
     (first
     | (go_simp; go_at_call 26; refine (HDE.out w2.drew (HB0.out.trans (HD2.out.mono HB0.out.size))).mono ?_; rintro e w3 ⟨mb1, mb2, M1, M2, wq, xs2, G, rfl, hq1, hq2, hb3⟩; have HQ := zH (show DemIs l w3 mb1 mb2 M1 M2 wq xs2 G from ⟨hq1, hq2⟩); have HB3 := zH (HD2.out.trans (hb3.mono HD2.out.size)); clear hb3 hq1 hq2; have u0 := HBX.out w3 HB3.out)
     | (go_simp; go_at_call 23; refine (HA2.out mb1 mb2 M1 M2 wq xs2 G w3 (HB0.out.trans (HB3.out.mono HB0.out.size)) HQ.out).mono ?_; rintro e w4 ⟨rfl, hb4⟩; have HB4 := zH (HB3.out.trans (hb4.mono HB3.out.size)); clear hb4))
    all_goals
     go_wp2_with fail
     go_ret
     exact ⟨by rw [HVA.out]; rfl, HB0.out.trans (HB4.out.mono HB0.out.size)⟩
 have h24i : (24 : Int) < (m : Int) := by omega
 rw [decide_eq_false h24, Bool.false_and] at HVA
 clear h24
 go_enter Tryz.func6, Tryz.ntmps6
 go_wp2_with fail
 rw [← HW0.out]
 go_ret
 exact ⟨by rw [HVA.out]; rfl, HB0.out⟩
end Go.Proofs.YtiaknfnhmoinpaaGreat
