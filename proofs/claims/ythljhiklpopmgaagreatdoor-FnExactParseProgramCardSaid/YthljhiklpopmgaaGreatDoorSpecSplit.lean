/- A part of the proof of the seat's statement: SpecSplit. Condition: as each says. -/
import Derived.Test.YthljhiklpopmgaaGreatDoorOwnAllRu
import Derived.Test.YthljhiklpopmgaaGreatDoorPrText
import Derived.Test.YthljhiklpopmgaaGreatDoorOwnRuText
import Derived.Test.YthljhiklpopmgaaGreatDoorOwnRuCon
import Derived.Deep.AppendLies
import Derived.Test.YthljhiklpopmgaaGreatDoorOwnsL
import Derived.Test.YthljhiklpopmgaaGreatDoorLineMath
set_option maxHeartbeats 8000000
namespace Go.Proofs.YthljhiklpopmgaaGreatDoor
open Go Go.RowKit
theorem nums_len {wo : World} {l : List Ru} {xs : List (Rt wo)} {M : List (Value × Value)} (hx : xs.map Rt.pair = numd 0 l) (hF : Firsts rkey rnum xs M) : ((M.length : Int) == (l.length : Int)) = decide ((l.map keyR).Nodup) := by
 have hl : xs.length = l.length := by
  have := congrArg List.length hx
  rw [List.length_map, numd_len] at this
  exact this
 have hru : xs.map Rt.ru = l := by
  have h2 : ∀ (t : List Ru) (k : Nat), (numd k t).map Prod.snd = t := by
   intro t
   induction t with
   | nil => intro k; rfl
   | cons a t ih => intro k; rw [numd, List.map_cons, ih]
  have := congrArg (List.map Prod.snd) hx
  rw [List.map_map, h2] at this
  exact this
 have hk : xs.map rkey = (l.map keyR).map (fun p => Value.agg #[.string p.1, .string p.2]) := by
  rw [← hru, List.map_map, List.map_map]; rfl
 have hn : (xs.map rkey).Nodup ↔ (l.map keyR).Nodup := by
  rw [hk]
  constructor
  · intro h
    exact (List.pairwise_map.1 h).imp (fun hne e => hne (by rw [e]))
  intro h
  refine List.pairwise_map.2 (List.Pairwise.imp (fun {a b} hne e => hne ?_) h)
  simp at e
  exact Prod.ext e.1 e.2
 rw [Bool.eq_iff_iff, decide_eq_true_eq, ← hn, ← hF.len.2, hl]
 simp only [beq_iff_eq]
 omega
def NumsLen (m : Nat) (nd : Bool) (w : World) (e : Ending) (w2 : World) : Prop :=
 ∃ (mb q : Nat), e = .returned (.map (some mb)) ∧ (∀ ty : TypeId, (Builtin.len_ #[133] ty #[.map (some mb)]).run Tryz.prog w2 = .ok (.int .i64 (q : Int)) w2) ∧ ((q : Int) == (m : Int)) = nd ∧ Below w.heap.size w w2
theorem own_numlen (l : List Ru) (v : Value) (bs : List Nat) (w : World) (hv : PrIs w v l bs) (hb : l.length ≤ 1099511627776) : Calls Tryz.prog 88 #[v] w (NumsLen l.length (decide ((l.map keyR).Nodup)) w) := by
 refine (own_nums l v bs w hv hb).mono ?_
 rintro e w2 ⟨mb, M, xs, rfl, hm, hK, hxs, hF, hlo, hb2⟩
 exact ⟨mb, M.length, rfl, fun ty => asc_len_run _ hm Tryz.underlying133 ty, nums_len hxs hF, hb2⟩
set_option maxRecDepth 100000 in
theorem own_validp (l : List Ru) (v : Value) (bs : List Nat) (w : World) (hv : PrIs w v l bs) (hfr : Thawed w bs) (hz : rusTot l ≤ 1048576) :
 Calls Tryz.prog 52 #[v] w (RetPost (.bool (validR l)) w) := by
 have hll := rusTot_ge l
 have hml : l.length ≤ 1048576 := by omega
 have HA1 := zH (fun (W : World) (hW : Below w.heap.size w W) => own_all1 l v bs W (hv.below hW) hz)
 have HA2 := zH (fun (mb mb2 : Nat) (M1 M2 : List (Value × Value)) (wq : World) (xs : List (Rt wq)) (G : List Cn) (W : World) (hW : Below w.heap.size w W) (hd : DemIs l W mb mb2 M1 M2 wq xs G) => own_all2 l v bs mb mb2 M1 M2 wq xs G W (hv.below hW) hz hd)
 have HNU := zH (fun (W : World) (hW : Below w.heap.size w W) => own_numlen l v bs W (hv.below hW) (by omega))
 have HDE := zH (fun (W : World) (hW : Below w.heap.size w W) => own_dem l v bs W (hv.below hW) (hfr.below hW) (fun r hr => by have := rusTot_mem hr; have := (tot_size _).1 r.body (Nat.le_refl _); unfold ruTot at *; omega) (by omega))
 have HVA := zH ((valid_eq l).trans (show validO l = (decide (l.length ≤ 24) && (l.all aloneOk && (decide ((l.map keyR).Nodup) && l.all (metOk l)))) from rfl))
 obtain ⟨u, rfl, hu⟩ := id hv
 obtain ⟨A, c, rfl, hc1, hc2, -⟩ := id hu
 have HB0 := zH ((Below.refl w.heap.size w).alloc (Nat.le_refl _) (.cells #[.slice A l.length c] 24))
 have HBX := zH (fun (W : World) (h : Below (w.alloc (.cells #[.slice A l.length c] 24)).heap.size (w.alloc (.cells #[.slice A l.length c] 24)) W) => pbox h)
 clear hu hv hfr hz
 generalize validR l = R at *
 generalize ha1 : l.all aloneOk = a1 at *
 generalize ha2 : l.all (metOk l) = a2 at *
 generalize hnd : decide ((l.map keyR).Nodup) = nd at *
 clear ha1 ha2 hnd
 generalize l.length = m at *
 have hmi : (m : Int) ≤ 1048576 := by omega
 obtain ⟨W0, hW0⟩ : ∃ W0, W0 = w.alloc (.cells #[.slice A m c] 24) := ⟨_, rfl⟩
 rw [← hW0] at HB0 HBX
 have HW0 := zH hW0
 have x0 := HBX.out W0 (Below.refl _ _)
 clear hW0 hll
 by_cases h24 : m ≤ 24
 · have h24i : ¬ (24 : Int) < (m : Int) := by omega
   have h24j : (m : Int) ≤ 24 := by omega
   rw [decide_eq_true h24, Bool.true_and] at HVA
   clear h24
   go_enter Tryz.func52, Tryz.ntmps52
   go_wp2_with fail
   rw [← HW0.out]
   go_at_call 86
   refine (HA1.out W0 HB0.out).mono ?_
   rintro e w1 ⟨rfl, hb1⟩
   have HB1 := zH hb1
   have y0 := HBX.out w1 hb1
   clear hb1
   cases a1
   · rw [Bool.false_and] at HVA
     go_wp2_with fail
     go_ret
     exact ⟨by rw [HVA.out]; rfl, HB0.out.trans (HB1.out.mono HB0.out.size)⟩
   rw [Bool.true_and] at HVA
   have HD1 := zH (HB1.out.trans (Below.drew (Below.refl w1.heap.size w1) |>.mono HB1.out.size))
   cases nd
   · rw [Bool.false_and] at HVA
     go_wp2_with fail
     go_region_law
      (first
      | (go_simp; go_at_call 88; refine (HNU.out w1.drew (HB0.out.trans (HD1.out.mono HB0.out.size))).mono ?_; rintro e w2 ⟨mb, mq, rfl, hlen, hq, hb2⟩; have HB2 := zH (HD1.out.trans (hb2.mono HD1.out.size)); have z0 := HBX.out w2 HB2.out; clear hb2))
     all_goals
      go_wp2_with fail
      go_region_law (fail)
      all_goals
       go_wp2_with fail
       go_ret
       exact ⟨by rw [HVA.out]; rfl, HB0.out.trans (HB2.out.drew.mono HB0.out.size)⟩
   rw [Bool.true_and] at HVA
   go_wp2_with fail
   go_region_law
    (first
    | (go_simp; go_at_call 88; refine (HNU.out w1.drew (HB0.out.trans (HD1.out.mono HB0.out.size))).mono ?_; rintro e w2 ⟨mb, mq, rfl, hlen, hq, hb2⟩; have HB2 := zH (HD1.out.trans (hb2.mono HD1.out.size)); have z0 := HBX.out w2 HB2.out; have HD2 := zH (HB2.out.trans (Below.drew (Below.refl w2.heap.size w2) |>.mono HB2.out.size)); clear hb2))
   all_goals
    go_wp2_with fail
    go_region_law
     (first
     | (go_simp; go_at_call 89; refine (HDE.out w2.drew (HB0.out.trans (HD2.out.mono HB0.out.size))).mono ?_; rintro e w3 ⟨mb1, mb2, M1, M2, wq, xs2, G, rfl, hq1, hq2, hb3⟩; have HQ := zH (show DemIs l w3 mb1 mb2 M1 M2 wq xs2 G from ⟨hq1, hq2⟩); have HB3 := zH (HD2.out.trans (hb3.mono HD2.out.size)); clear hb3 hq1 hq2; have u0 := HBX.out w3 HB3.out)
     | (go_simp; go_at_call 86; refine (HA2.out mb1 mb2 M1 M2 wq xs2 G w3 (HB0.out.trans (HB3.out.mono HB0.out.size)) HQ.out).mono ?_; rintro e w4 ⟨rfl, hb4⟩; have HB4 := zH (HB3.out.trans (hb4.mono HB3.out.size)); clear hb4))
    all_goals
     go_wp2_with fail
     go_ret
     exact ⟨by rw [HVA.out]; rfl, HB0.out.trans (HB4.out.mono HB0.out.size)⟩
 have h24i : (24 : Int) < (m : Int) := by omega
 rw [decide_eq_false h24, Bool.false_and] at HVA
 clear h24
 go_enter Tryz.func52, Tryz.ntmps52
 go_wp2_with fail
 rw [← HW0.out]
 go_ret
 exact ⟨by rw [HVA.out]; rfl, HB0.out⟩
theorem acc_sizeO {l : List Ru} (k : Nat) (hz : rusTot l ≤ 1048576) (h24 : l.length ≤ 24) : (linesOf ⟨#[]⟩ (l.take k)).size ≤ 104857600 := by
 have h1 := linesOf_size (l.take k) ⟨#[]⟩ (fun r hr => by have := rusTot_mem (List.mem_of_mem_take hr); omega)
 have h2 : (l.take k).length ≤ 24 := by rw [List.length_take]; omega
 have h3 : (⟨#[]⟩ : ByteArray).size = 0 := rfl
 have h4 : (l.take k).length * 4194305 ≤ 24 * 4194305 := Nat.mul_le_mul_right _ h2
 omega
set_option maxRecDepth 100000 in
theorem own_prtext (l : List Ru) (v : Value) (bs : List Nat) (w : World) (hv : PrIs w v l bs) (hfr : Thawed w bs) (hz : rusTot l ≤ 1048576) :
 Calls Tryz.prog 25 #[v] w (RetPost (.string (prStr l)) w) := by
 have hll := rusTot_ge l
 have HVAL := zH (fun (W : World) (hW : Below w.heap.size w W) => own_validp l v bs W (hv.below hW) (hfr.below hW) hz)
 have HRU := zH (fun (r : Ru) (hm : r ∈ l) (v2 : Value) (b2 : List Nat) (W : World) (h2 : RuIs W v2 r b2) => own_rutext r v2 b2 W h2 (by have := rusTot_mem hm; omega))
 have HPR := zH (show prStr l = if validR l then linesOf ⟨#[]⟩ l else ⟨#[]⟩ from rfl)
 have HVL := zH (fun (h : validR l = true) => validR_len h)
 have HRS := zH (fun (r : Ru) (hm : r ∈ l) => ruStr_size (r := r) (by have := rusTot_mem hm; omega))
 have HAC := zH (fun (k : Nat) (h24 : l.length ≤ 24) => acc_sizeO (l := l) k hz h24)
 obtain ⟨u, rfl, hu⟩ := id hv
 obtain ⟨A, c, rfl, hc1, hc2, -⟩ := id hu
 obtain ⟨m, hm⟩ : ∃ m, m = l.length := ⟨_, rfl⟩
 have HU := zH hu
 rw [← hm] at hc1 HU hll HVAL HVL HAC ⊢
 have HM := zH hm
 have hb0 : Below w.heap.size w (w.alloc (.cells #[.slice A m c] 24)) := (Below.refl w.heap.size w).alloc (Nat.le_refl _) (.cells #[.slice A m c] 24)
 have HBX := zH (fun (W : World) (h : Below (w.alloc (.cells #[.slice A m c] 24)).heap.size (w.alloc (.cells #[.slice A m c] 24)) W) => pbox h)
 have hmi : (m : Int) ≤ 1048576 := by omega
 obtain ⟨W0, hW0⟩ : ∃ W0, W0 = w.alloc (.cells #[.slice A m c] 24) := ⟨_, rfl⟩
 rw [← hW0] at hb0 HBX
 have HB0 := zH hb0
 have HW0 := zH hW0
 clear hu hm hv hz hll hfr hW0 hb0
 generalize prStr l = R at *
 go_enter Tryz.func25, Tryz.ntmps25
 go_wp2_with fail
 rw [← HW0.out]
 go_at_call 52
 refine (HVAL.out W0 HB0.out).mono ?_
 rintro e w1 ⟨rfl, hb1⟩
 have HB1 := zH hb1
 have y0 := HBX.out w1 hb1
 clear hb1
 cases hva : validR l
 · rw [hva] at HPR
   have HE := zH (show R = ⟨#[]⟩ by rw [HPR.out]; rfl)
   clear hva
   go_wp2_with fail
   go_ret
   exact ⟨by rw [HE.out]; rfl, HB0.out.trans (HB1.out.mono HB0.out.size)⟩
 rw [hva] at HPR
 have h24 := HVL.out hva
 have HE := zH (show R = linesOf ⟨#[]⟩ l by rw [HPR.out]; rfl)
 clear hva
 go_wp2_with fail
 go_loopw [3, 12] (fun out i wr => ∃ (k : Nat), k ≤ m ∧ out = .string (linesOf ⟨#[]⟩ (l.take k)) ∧ i = .int .i64 (k : Int) ∧ Hid (Below W0.heap.size W0 wr)) (fun _ i _ => m - (intOf i).toNat)
 case atStart => exact ⟨0, Nat.zero_le _, rfl, rfl, HB1⟩
 case round =>
  obtain ⟨k, hk, rfl, rfl, HB⟩ := hrel
  have HL := zH (HB0.out.trans (HB.out.mono HB0.out.size))
  by_cases hlt : k < m
  · obtain ⟨g, o, r, v1, v2, y, b, hA⟩ := (HU.out.below HL.out).get k (by rw [← HM.out]; exact hlt)
    obtain rfl := hA.eq
    obtain ⟨e0, e1, e2, e3, e4, e5, e6⟩ := hA.cells
    obtain ⟨b1, b2, b3, -, -, -, h3, h4, h5⟩ := hA.is.parts
    obtain ⟨A1, c1, rfl⟩ := h3.slice
    obtain ⟨A2, c2, rfl⟩ := h4.slice
    obtain ⟨A3, q3, c3, rfl⟩ := his_slice0 h5
    have hlo2 : Below wr.heap.size wr (wr.alloc (.cells #[.string r.name, .string r.con, .slice A1 r.vars.length c1, .slice A2 r.params.length c2, .int .i64 r.body.kind, .string r.body.name, .slice A3 q3 c3] 36)) := (Below.refl _ wr).alloc (Nat.le_refl _) _
    have HRT := zH (HRU.out r hA.mem _ b (wr.alloc (.cells #[.string r.name, .string r.con, .slice A1 r.vars.length c1, .slice A2 r.params.length c2, .int .i64 r.body.kind, .string r.body.name, .slice A3 q3 c3] 36)) (hA.is.below hlo2))
    have HB2 := zH (HB.out.trans (hlo2.mono HB.out.size))
    have hs1 := HAC.out k h24
    have hs2 := HRS.out r hA.mem
    have htk := take_ru l k r hA.get
    obtain ⟨p1, hp1⟩ : ∃ x : ByteArray, x = ruStr r ++ nlStr := ⟨_, rfl⟩
    have hp2 : linesOf ⟨#[]⟩ (l.take (k + 1)) = linesOf ⟨#[]⟩ (l.take k) ++ p1 := by rw [htk, linesOf_snoc, hp1]
    have hq1 : p1.size = (ruStr r).size + 1 := by rw [hp1]; exact ByteArray.size_append
    have hA1 : ∀ W, (Op.stringOp .add (ruStr r) ⟨#[10]⟩).run Tryz.prog W = .ok (.string p1) W := fun W => by
     rw [hp1]; exact run_string_add_sum W _ ⟨#[10]⟩ (by show _ + 1 ≤ _; omega)
    have hA2 : ∀ W, (Op.stringOp .add (linesOf ⟨#[]⟩ (l.take k)) p1).run Tryz.prog W = .ok (.string (linesOf ⟨#[]⟩ (l.take (k + 1)))) W := fun W => by
     rw [hp2]; exact run_string_add_sum W _ p1 (by omega)
    have hk0 : (0 : Int) ≤ (k : Int) := by omega
    have hkn : (k : Int) < (m : Int) := by omega
    clear hA h3 h4 h5 hs1 hs2 htk hp1 hp2 hq1 hlo2
    generalize linesOf ⟨#[]⟩ (l.take k) = acc at *
    generalize hac2 : linesOf ⟨#[]⟩ (l.take (k + 1)) = acc2 at *
    have HAC2 := zH hac2
    generalize ruStr r = rs at *
    clear hac2
    go_wp2_with (go_at_call 50; refine HRT.out.mono ?_; rintro e w3 ⟨rfl, hb3⟩; have HB3 := zH (HB2.out.trans (hb3.mono HB2.out.size)); clear hb3)
    go_roundw
    case rel => exact ⟨k + 1, by omega, by rw [HAC2.out], by go_num, HB3⟩
    case measure => simp [intOf]; omega
  have hE2 : linesOf ⟨#[]⟩ (l.take k) = R := by rw [HE.out, List.take_of_length_le (by rw [← HM.out]; omega)]
  rw [hE2]
  clear hE2
  go_wp2
  go_ret
  exact ⟨rfl, HL.out⟩
def RCells (W : World) : List Ru → List Value → List Nat → Prop
 | [], vs, bs => vs = [] ∧ bs = []
 | r :: t, vs, bs => ∃ v1 v2 u b1 vs2 b2, vs = [.string r.name, .string r.con, v1, v2, .int .i64 r.body.kind, .string r.body.name, u] ++ vs2 ∧ bs = b1 ++ b2 ∧ RuIs W (.agg #[.string r.name, .string r.con, v1, v2, .int .i64 r.body.kind, .string r.body.name, u]) r b1 ∧ RCells W t vs2 b2
theorem RCells.keeps {W W2 : World} : ∀ {l : List Ru} {vs : List Value} {bs : List Nat}, RCells W l vs bs → Keeps W W2 bs → RCells W2 l vs bs := by
 intro l
 induction l with
 | nil => intro vs bs h _; exact h
 | cons e r ih =>
  intro vs bs h hk
  obtain ⟨v1, v2, u, b1, vs2, b2, e1, rfl, h1, h2⟩ := h
  exact ⟨v1, v2, u, b1, vs2, b2, e1, rfl, h1.keeps ⟨hk.1, fun x hx => hk.2 x (List.mem_append_left _ hx)⟩, ih h2 ⟨hk.1, fun x hx => hk.2 x (List.mem_append_right _ hx)⟩⟩
theorem RCells.snoc {W : World} {r : Ru} {v1 v2 u : Value} {b1 : List Nat} (h1 : RuIs W (.agg #[.string r.name, .string r.con, v1, v2, .int .i64 r.body.kind, .string r.body.name, u]) r b1) : ∀ {l : List Ru} {vs : List Value} {bs : List Nat}, RCells W l vs bs → RCells W (l ++ [r]) (vs ++ [.string r.name, .string r.con, v1, v2, .int .i64 r.body.kind, .string r.body.name, u]) (bs ++ b1) := by
 intro l
 induction l with
 | nil =>
  intro vs bs h
  obtain ⟨rfl, rfl⟩ := h
  exact ⟨v1, v2, u, b1, [], [], rfl, by simp, h1, rfl, rfl⟩
 | cons x r ih =>
  intro vs bs h
  obtain ⟨y1, y2, y, b3, vs2, b2, rfl, rfl, h3, h2⟩ := h
  exact ⟨y1, y2, y, b3, _, _, by rw [List.append_assoc], by rw [List.append_assoc], h3, ih h2⟩
theorem RCells.rus {W : World} {g o : Nat} : ∀ {l : List Ru} {vs : List Value} {bs : List Nat} (i : Nat), RCells W l vs bs → (∀ j u, vs[j]? = some u → W.cell? ⟨g, o + i * 7 + j, none⟩ = some u) → RusAt W g o i l bs := by
 intro l
 induction l with
 | nil => intro vs bs i h _; exact h.2
 | cons e r ih =>
  intro vs bs i h hc
  obtain ⟨v1, v2, u, b1, vs2, b2, rfl, rfl, h1, h2⟩ := h
  refine ⟨b1, b2, rfl, ⟨v1, v2, u, ⟨hc 0 _ rfl, hc 1 _ rfl, hc 2 _ rfl, hc 3 _ rfl, hc 4 _ rfl, hc 5 _ rfl, hc 6 _ rfl⟩, h1⟩, ih (i + 1) h2 (fun j v hj => ?_)⟩
  have h3 := hc (j + 7) v (by rw [List.getElem?_append_right (by simp)]; simpa using hj)
  rw [show o + i * 7 + (j + 7) = o + (i + 1) * 7 + j by omega] at h3
  exact h3
structure RKids (base : Nat) (W : World) (v : Value) (l : List Ru) (bs : List Nat) : Prop where
 row : ∃ vs, W.ownsRow base 36 7 v l.length vs ∧ RCells W l vs bs
 mine : Mine W base bs
 apart : ∀ g, v.ownBlock = some g → g ∉ bs
theorem RKids.nilled (base : Nat) (W : World) : RKids base W (.slice none 0 0) [] [] := ⟨⟨[], World.ownsRow_nil _ _ _ _, rfl, rfl⟩, Mine.nil _ _, fun g h => by cases h⟩
theorem RKids.keep {base : Nat} {W W2 : World} {v : Value} {l : List Ru} {bs S : List Nat} (h : RKids base W v l bs) (hf : Fr S W W2) (hS : ∀ x ∈ S, x < base) : RKids base W2 v l bs := by
 obtain ⟨⟨vs, hr, hc⟩, hm, ha⟩ := h
 have hk : Keeps W W2 bs := ⟨hf.size, fun x hx hlt => hf.block x hlt (fun hs => by have := hS x hs; have := (hm.range x hx).1; omega)⟩
 exact ⟨⟨vs, row_on hr (fun k e => hf.block k (hr.lt k e).2 (fun hs => by have := hS k hs; have := (hr.lt k e).1; omega)), hc.keeps hk⟩, hm.keeps hk, ha⟩
theorem RKids.form {base : Nat} {W : World} {v : Value} {l : List Ru} {bs : List Nat} (h : RKids base W v l bs) : ∃ A c, v = .slice A l.length c ∧ l.length ≤ c ∧ c ≤ maxLen := by
 obtain ⟨⟨vs, hr, hc⟩, -, -⟩ := h
 rcases hr.2 with ⟨rfl, h0⟩ | ⟨g, cap, cur, rfl, -, -, h1, h2, -⟩
 · exact ⟨Option.none, 0, by rw [h0], by omega, by unfold maxLen; omega⟩
 exact ⟨_, cap, rfl, h1, h2⟩
theorem RKids.is {base : Nat} {W : World} {v : Value} {l : List Ru} {bs : List Nat} (h : RKids base W v l bs) : ∃ bs2, RsIs W v l bs2 ∧ Mine W base bs2 := by
 obtain ⟨⟨vs, hr, hc⟩, hm, ha⟩ := h
 rcases hr.2 with ⟨rfl, h0⟩ | ⟨g, cap, cur, rfl, hb, hg, h1, h2, -⟩
 · obtain rfl : l = [] := List.eq_nil_of_length_eq_zero h0
   obtain ⟨-, rfl⟩ := hc
   exact ⟨[], ⟨_, _, rfl, Nat.le_refl _, by omega, Or.inl ⟨rfl, rfl⟩⟩, Mine.nil _ _⟩
 have hlt : g < W.heap.size := (Array.getElem?_eq_some_iff.1 hg).1
 refine ⟨g :: bs, ⟨_, _, rfl, h1, by unfold maxLen at h2; omega, Or.inr ⟨g, 0, bs, rfl, hlt, rfl, hc.rus 0 (fun j u hj => ?_)⟩⟩, ?_⟩
 · have h3 := hr.cells (g := g) rfl j u hj
   rw [show (⟨g, 0, none⟩ : Addr).add j = ⟨g, 0 + 0 * 7 + j, none⟩ by unfold Addr.add; split <;> simp_all] at h3
   exact h3
 refine ⟨List.nodup_cons.2 ⟨ha g rfl, hm.nodup⟩, fun x hx => ?_, fun x hx o => ?_⟩
 · rcases List.mem_cons.1 hx with rfl | hx
   · exact ⟨hb, hlt⟩
   exact hm.range x hx
 rcases List.mem_cons.1 hx with rfl | hx
 · exact hr.frozenAt o
 exact hm.free x hx o
theorem RKids.push {base : Nat} {W W3 : World} {v : Value} {l : List Ru} {bs b1 : List Nat} {r : Ru} {v1 v2 u : Value} {vs : List Value} {o : Obj} {g cap C : Nat} (h : RKids base W v l bs) (hC : base ≤ C) (hC2 : ∀ x, x ∈ bs ∨ v.ownBlock = some x → x < C)
 (hvs : W.ownsRow base 36 7 v l.length vs ∧ RCells W l vs bs) (he : RuIs W (.agg #[.string r.name, .string r.con, v1, v2, .int .i64 r.body.kind, .string r.body.name, u]) r b1) (hm : Mine W C b1)
 (ho : W3.ownsRow base 36 7 (.slice (some ⟨g, 0, none⟩) (l.length + 1) cap) (l.length + 1) (vs ++ [.string r.name, .string r.con, v1, v2, .int .i64 r.body.kind, .string r.body.name, u])) (hg : (W.alloc o).grownBy W3 v.ownBlock) (hat : v.ownBlock = some g ∨ g = (W.alloc o).heap.size) :
 RKids base W3 (.slice (some ⟨g, 0, none⟩) (l.length + 1) cap) (l ++ [r]) (bs ++ b1) := by
 have hl : ∀ x ∈ bs ++ b1, x < W.heap.size ∧ v.ownBlock ≠ some x := fun x hx => by
  rcases List.mem_append.1 hx with hx | hx
  · exact ⟨(h.mine.range x hx).2, fun hh => h.apart x hh hx⟩
  exact ⟨(hm.range x hx).2, fun hh => by have := hC2 x (Or.inr hh); have := (hm.range x hx).1; omega⟩
 have hk : Keeps W W3 (bs ++ b1) := ⟨by have := hg.size; simp at this; omega, fun x hx hlt => (hg.block x (by simp; omega) (fun hh => (hl x hx).2 hh.symm)).trans (Below.heap_alloc W o x hlt)⟩
 refine ⟨⟨_, by rw [List.length_append]; exact ho, (hvs.2.snoc he).keeps hk⟩, ?_, fun k hkk hx => ?_⟩
 · have hj : Mine W base (bs ++ b1) := by
    refine ⟨?_, fun x hx => ?_, fun x hx => ?_⟩
    · rw [List.nodup_append]
      exact ⟨h.mine.nodup, hm.nodup, fun a ha b hb e => by have := hC2 a (Or.inl ha); have := (hm.range b hb).1; omega⟩
    · rcases List.mem_append.1 hx with hx | hx
      · exact h.mine.range x hx
      exact ⟨Nat.le_trans hC (hm.range x hx).1, (hm.range x hx).2⟩
    rcases List.mem_append.1 hx with hx | hx
    · exact h.mine.free x hx
    exact hm.free x hx
   exact hj.keeps hk
 obtain rfl : k = g := by simpa [Value.ownBlock, eq_comm] using hkk
 rcases hat with hat | hat
 · exact (hl k hx).2 hat
 have := (hl k hx).1; simp at hat; omega
theorem sizeP (s : ByteArray) : s.data.toList.length = s.size := Array.length_toList
def SplInv (s : ByteArray) (b : UInt8) (k f : Nat) (done : List ByteArray) : Prop :=
 (k ≤ s.size → parts b [] s.data.toList = done.map (·.data.toList) ++ parts b ((s.data.toList.drop f).take (k - f)) (s.data.toList.drop k)) ∧
 (k = s.size + 1 → parts b [] s.data.toList = done.map (·.data.toList))
theorem spl_start (s : ByteArray) (b : UInt8) : SplInv s b 0 0 [] := ⟨fun _ => by simp, fun h => by omega⟩
theorem drop_byteP (s : ByteArray) (k : Nat) (h : k < s.size) : s.data.toList.drop k = s[k] :: s.data.toList.drop (k + 1) := by
 rw [List.drop_eq_getElem_cons (by rw [sizeP]; exact h)]; rfl
theorem spl_hit {s : ByteArray} {b : UInt8} {k f : Nat} {done : List ByteArray} (h : SplInv s b k f done) (hk : k < s.size) (hb : s[k] = b) : SplInv s b (k + 1) (k + 1) (done ++ [s.extract f k]) := by
 refine ⟨fun _ => ?_, fun e => by omega⟩
 rw [h.1 (by omega), drop_byteP s k hk, hb, parts_hit, List.map_append, List.append_assoc]
 simp
theorem spl_miss {s : ByteArray} {b : UInt8} {k f : Nat} {done : List ByteArray} (h : SplInv s b k f done) (hk : k < s.size) (hf : f ≤ k) (hb : s[k] ≠ b) : SplInv s b (k + 1) f done := by
 refine ⟨fun _ => ?_, fun e => by omega⟩
 rw [h.1 (by omega), drop_byteP s k hk, parts_other b _ _ _ hb]
 congr 2
 rw [show k + 1 - f = (k - f) + 1 by omega, List.take_succ_eq_append_getElem (by rw [List.length_drop, sizeP]; omega)]
 congr 2
 rw [List.getElem_drop]
 have e : f + (k - f) = k := by omega
 have : ∀ (m : Nat) (hm : m < s.data.toList.length), m = k → s.data.toList[m] = s[k] := fun m hm e => by subst e; rfl
 exact (this _ _ e).symm
theorem spl_end {s : ByteArray} {b : UInt8} {k f : Nat} {done : List ByteArray} (h : SplInv s b k f done) (hk : k = s.size) : SplInv s b (k + 1) (k + 1) (done ++ [s.extract f k]) := by
 refine ⟨fun e => by omega, fun _ => ?_⟩
 have e : s.data.toList.drop k = [] := List.drop_eq_nil_of_le (by rw [sizeP]; omega)
 rw [h.1 (by omega), e, parts_nil, List.map_append]
 simp
theorem spl_done {s : ByteArray} {b : UInt8} {k f : Nat} {done : List ByteArray} (h : SplInv s b k f done) (hk : k = s.size + 1) : done = pieces s b := pieces_eq s b done (h.2 hk).symm
theorem byte_ofP (x : UInt8) (c : Int) (h : ((x.toNat : Int) == c) = true) : x = UInt8.ofNat c.toNat := by
 have e : (x.toNat : Int) = c := by simpa using h
 rw [← e, Int.toNat_natCast, UInt8.ofNat_toNat]
theorem byte_notP (x : UInt8) (c : Int) (h0 : 0 ≤ c) (h1 : c ≤ 255) (h : ((x.toNat : Int) == c) = false) : x ≠ UInt8.ofNat c.toNat := by
 intro e
 have h2 : x.toNat = c.toNat := by rw [e, UInt8.toNat_ofNat']; omega
 have h3 : (x.toNat : Int) = c := by omega
 simp [h3] at h
def SplitPost (s : ByteArray) (b : UInt8) (w : World) (e : Ending) (w' : World) : Prop := ∃ v, e = .returned v ∧ OwnsL w.heap.size w' v (pieces s b) ∧ Below w.heap.size w w'
theorem split_next {w0 w1 : World} {v : Value} {done : List ByteArray} {x : ByteArray} (h : w1.ownsRow w0.heap.size 9 1 v (done.length + 1) (done.map Value.string ++ [Value.string x])) : w1.ownsRow w0.heap.size 9 1 v (done ++ [x]).length ((done ++ [x]).map Value.string) := by
 rw [List.length_append, List.map_append]; exact h
theorem app_belowP {w wr w1 : World} {v : Value} {n : Nat} {l : List Value} (hb : Below w.heap.size w wr) (ho : wr.ownsRow w.heap.size 9 1 v n l) (hg : wr.grownBy w1 v.ownBlock) : Below w.heap.size w w1 :=
 hb.grown hg hb.size (fun k hk => (ho.lt k hk).1)
theorem spec_split (s : ByteArray) (c : Int) (hc0 : 0 ≤ c) (hc1 : c ≤ 255) (hs : s.size ≤ 1048576) (w : World) :
 Calls Tryz.prog 9 #[.string s, .int .u8 c] w (SplitPost s (UInt8.ofNat c.toNat) w) := by
 obtain ⟨i0, hi, hz0, hz1, hz2⟩ := info_parts Tryz.info9u
 have HI := zH (And.intro hi (And.intro hz0 (And.intro hz1 hz2)))
 clear hi hz0 hz1 hz2
 go_enter Tryz.func9, Tryz.ntmps9
 go_wp2
 have H0 := zH (show (w.alloc (.cells #[] 9)).ownsRow w.heap.size 9 1 (.slice (some ⟨w.heap.size, 0, none⟩) 0 0) 0 [] from World.ownsRow_made w #[] 0 (Nat.le_refl _) (Nat.zero_le _) rfl)
 have HB0 := zH ((Below.refl w.heap.size w).alloc (Nat.le_refl _) (.cells #[] 9))
 have HV0 := zH (spl_start s (UInt8.ofNat c.toNat))
 have HS := zH hs
 have hs2 : (s.size : Int) ≤ 1048576 := by omega
 go_loopw [5, 6, 7] (fun v fr i wr => ∃ (k f : Nat) (done : List ByteArray), k ≤ s.size + 1 ∧ f ≤ k ∧ i = .int .i64 (k : Int) ∧ fr = .int .i64 (f : Int) ∧ Hid (SplInv s (UInt8.ofNat c.toNat) k f done) ∧ done.length ≤ k ∧ Hid (wr.ownsRow w.heap.size 9 1 v done.length (done.map Value.string)) ∧ Hid (Below w.heap.size w wr)) (fun _ _ i _ => s.size + 1 - (intOf i).toNat)
 case atStart => exact ⟨0, 0, [], Nat.zero_le _, Nat.le_refl _, rfl, rfl, HV0, Nat.zero_le _, H0, HB0⟩
 case round =>
  obtain ⟨k, f, done, hk, hf, rfl, rfl, HV, hd, HO, HB⟩ := hrel
  have C1 := zH (show done.length + 1 ≤ maxLen by unfold maxLen; omega)
  have C2 := zH (show (done.length + 1) * 16 ≤ 140737488355328 by omega)
  have C3 := zH HB.out.size
  have C4 := zH (show w.heap.size ≤ (wr.alloc (.cells #[.string (s.extract f k)] 9)).heap.size by have := HB.out.size; simp; omega)
  have HO2 := zH (HO.out.alloc (.cells #[.string (s.extract f k)] 9))
  have HB2 := zH (HB.out.alloc HB.out.size (.cells #[.string (s.extract f k)] 9))
  have HNW := zH (show ∀ j u, [Value.string (s.extract f k)][j]? = some u → (wr.alloc (.cells #[.string (s.extract f k)] 9)).cell? ((⟨wr.heap.size, 0, none⟩ : Addr).add j) = some u from fun j u hu => by
   have hj : j = 0 := by
    rcases j with _ | j
    · rfl
    simp at hu
   subst hj
   simp at hu
   rw [← hu]; simp [go_sem])
  have H1C := zH (show ∀ u ∈ [Value.string (s.extract f k)], u.oneCell' = true from fun u hu => by rw [List.mem_singleton] at hu; rw [hu]; rfl)
  have hfk : (f : Int) ≤ (k : Int) := by omega
  have HDL := zH (show ∀ x : ByteArray, (done ++ [x]).length ≤ k + 1 from fun x => by rw [List.length_append]; simp; omega)
  have HDM := zH (show done.length ≤ k + 1 by omega)
  by_cases hlt : k < s.size
  · have hlt2 : (k : Int) < (s.size : Int) := by omega
    by_cases hb : ((s[k].toNat : Int) == c) = true
    · have HV1 := zH (spl_hit HV.out hlt (byte_ofP s[k] c hb))
      clear hd
      go_wp2_with (at_builtin; (refine wpList_append_own _ rfl (.tmp 26) (.tmp 31) 30 rfl w.heap.size 9 i0 (.string ⟨#[]⟩) 1 16 Tryz.underlying30 HI.out.1 HI.out.2.1 HI.out.2.2.1 HI.out.2.2.2 rfl (by decide) u5 _ _ rfl HO2.out ⟨wr.heap.size, 0, none⟩ 1 1 [.string (s.extract f k)] rfl rfl HNW.out H1C.out C1.out C2.out C4.out ?_); intro v1 w1 ho1 hg1 _; have HO3 := zH (split_next ho1); have HB3 := zH (app_belowP HB2.out HO2.out hg1); clear ho1 hg1)
      go_roundw
      case rel => exact ⟨k + 1, k + 1, _, by omega, Nat.le_refl _, by go_num, by go_num, HV1, HDL.out _, HO3, HB3⟩
      case measure => simp [intOf]; omega
    have hb' : ((s[k].toNat : Int) == c) = false := by simpa using hb
    have HV1 := zH (spl_miss HV.out hlt hf (byte_notP s[k] c hc0 hc1 hb'))
    have HB' := zH hb
    clear hd hb
    go_wp2
    go_roundw
    case rel => exact ⟨k + 1, f, done, by omega, by omega, by go_num, rfl, HV1, HDM.out, HO, HB⟩
    case measure => simp [intOf]; omega
  by_cases hke : k = s.size
  · subst hke
    have HV1 := zH (spl_end HV.out rfl)
    clear hd
    go_wp2_with (at_builtin; (refine wpList_append_own _ rfl (.tmp 26) (.tmp 31) 30 rfl w.heap.size 9 i0 (.string ⟨#[]⟩) 1 16 Tryz.underlying30 HI.out.1 HI.out.2.1 HI.out.2.2.1 HI.out.2.2.2 rfl (by decide) u5 _ _ rfl HO2.out ⟨wr.heap.size, 0, none⟩ 1 1 [.string (s.extract f s.size)] rfl rfl HNW.out H1C.out C1.out C2.out C4.out ?_); intro v1 w1 ho1 hg1 _; have HO3 := zH (split_next ho1); have HB3 := zH (app_belowP HB2.out HO2.out hg1); clear ho1 hg1)
    go_roundw
    case rel => exact ⟨s.size + 1, s.size + 1, _, by omega, Nat.le_refl _, by go_num, by go_num, HV1, HDL.out _, HO3, HB3⟩
    case measure => simp [intOf]
  have hlt2 : (s.size : Int) < (k : Int) := by omega
  have HE := zH (spl_done HV.out (by omega))
  go_wp2
  go_ret
  exact ⟨u5, rfl, by unfold OwnsL; rw [← HE.out]; exact HO.out, HB.out⟩
end Go.Proofs.YthljhiklpopmgaaGreatDoor
