/- The contract of the program's own IsValidProgram. Conditions: nodes and letters of the program together at most 1048576; no string shares the memory of the program. -/
import Derived.Test.YtmndlhbgacgnlaaOwnAllRu
namespace Go.Proofs.Ytmndlhbgacgnlaa
open Go Go.RowKit

theorem nums_len {wo : World} {l : List Ru} {xs : List (Rt wo)} {M : List (Value × Value)} (hx : xs.map Rt.pair = numd 0 l) (hF : Firsts rkey rnum xs M) : ((M.length : Int) == (l.length : Int)) = decide ((l.map keyR).Nodup) := by
  have hl : xs.length = l.length := by
    have := congrArg List.length hx
    rw [List.length_map, numd_len] at this
    exact this
  have hru : xs.map Rt.ru = l := by
    have h2 : ∀ (t : List Ru) (k : Nat), (numd k t).map Prod.snd = t := by
      intro t
      induction t with
      | nil => intro k; rfl
      | cons a t ih => intro k; rw [numd, List.map_cons, ih]
    have := congrArg (List.map Prod.snd) hx
    rw [List.map_map, h2] at this
    exact this
  have hk : xs.map rkey = (l.map keyR).map (fun p => Value.agg #[.string p.1, .string p.2]) := by
    rw [← hru, List.map_map, List.map_map]; rfl
  have hn : (xs.map rkey).Nodup ↔ (l.map keyR).Nodup := by
    rw [hk]
    constructor
    · intro h
      exact (List.pairwise_map.1 h).imp (fun hne e => hne (by rw [e]))
    · intro h
      refine List.pairwise_map.2 (List.Pairwise.imp (fun {a b} hne e => hne ?_) h)
      simp at e
      exact Prod.ext e.1 e.2
  rw [Bool.eq_iff_iff, decide_eq_true_eq, ← hn, ← hF.len.2, hl]
  simp only [beq_iff_eq]
  omega

/-- What ruleNumbers gives, as its length alone tells it. -/
def NumsLen (m : Nat) (nd : Bool) (w : World) (e : Ending) (w2 : World) : Prop :=
  ∃ (mb q : Nat), e = .returned (.map (some mb)) ∧ (∀ ty : TypeId, (Builtin.len_ #[127] ty #[.map (some mb)]).run Try.prog w2 = .ok (.int .i64 (q : Int)) w2) ∧ ((q : Int) == (m : Int)) = nd ∧ Below w.heap.size w w2
theorem own_numlen (l : List Ru) (v : Value) (bs : List Nat) (w : World) (hv : PrIs w v l bs) (hb : l.length ≤ 1099511627776) : Calls Try.prog 89 #[v] w (NumsLen l.length (decide ((l.map keyR).Nodup)) w) := by
  refine (own_nums l v bs w hv hb).mono ?_
  rintro e w2 ⟨mb, M, xs, rfl, hm, hK, hxs, hF, hlo, hb2⟩
  exact ⟨mb, M.length, rfl, fun ty => asc_len_run _ hm Try.underlying127 ty, nums_len hxs hF, hb2⟩

set_option maxRecDepth 100000 in
set_option maxHeartbeats 8000000 in
theorem own_validp (l : List Ru) (v : Value) (bs : List Nat) (w : World) (hv : PrIs w v l bs) (hfr : Thawed w bs) (hz : rusTot l ≤ 1048576) :
    Calls Try.prog 45 #[v] w (RetPost (.bool (validR l)) w) := by
  have hll := rusTot_ge l
  have hml : l.length ≤ 1048576 := by omega
  have HA1 := Lib.hid (fun (W : World) (hW : Below w.heap.size w W) => own_all1 l v bs W (hv.below hW) hz)
  have HA2 := Lib.hid (fun (mb mb2 : Nat) (M1 M2 : List (Value × Value)) (wq : World) (xs : List (Rt wq)) (G : List Cn) (W : World) (hW : Below w.heap.size w W) (hd : DemIs l W mb mb2 M1 M2 wq xs G) => own_all2 l v bs mb mb2 M1 M2 wq xs G W (hv.below hW) hz hd)
  have HNU := Lib.hid (fun (W : World) (hW : Below w.heap.size w W) => own_numlen l v bs W (hv.below hW) (by omega))
  have HDE := Lib.hid (fun (W : World) (hW : Below w.heap.size w W) => own_dem l v bs W (hv.below hW) (hfr.below hW) (fun r hr => by have := rusTot_mem hr; have := (tot_size _).1 r.body (Nat.le_refl _); unfold ruTot at *; omega) (by omega))
  have HVA := Lib.hid ((valid_eq l).trans (show validO l = (decide (l.length ≤ 24) && (l.all aloneOk && (decide ((l.map keyR).Nodup) && l.all (metOk l)))) from rfl))
  obtain ⟨u, rfl, hu⟩ := id hv
  obtain ⟨A, c, rfl, hc1, hc2, -⟩ := id hu
  have HB0 := Lib.hid ((Below.refl w.heap.size w).alloc (Nat.le_refl _) (.cells #[.slice A l.length c] 53))
  have HBX := Lib.hid (fun (W : World) (h : Below (w.alloc (.cells #[.slice A l.length c] 53)).heap.size (w.alloc (.cells #[.slice A l.length c] 53)) W) => pbox h)
  clear hu hv hfr hz
  generalize validR l = R at *
  generalize ha1 : l.all aloneOk = a1 at *
  generalize ha2 : l.all (metOk l) = a2 at *
  generalize hnd : decide ((l.map keyR).Nodup) = nd at *
  clear ha1 ha2 hnd
  generalize l.length = m at *
  have hmi : (m : Int) ≤ 1048576 := by omega
  obtain ⟨W0, hW0⟩ : ∃ W0, W0 = w.alloc (.cells #[.slice A m c] 53) := ⟨_, rfl⟩
  rw [← hW0] at HB0 HBX
  have HW0 := Lib.hid hW0
  have x0 := HBX.out W0 (Below.refl _ _)
  clear hW0 hll
  by_cases h24 : m ≤ 24
  · have h24i : ¬ (24 : Int) < (m : Int) := by omega
    have h24j : (m : Int) ≤ 24 := by omega
    rw [decide_eq_true h24, Bool.true_and] at HVA
    clear h24
    go_enter Try.func45, Try.ntmps45
    go_wp2_with fail
    rw [← HW0.out]
    go_at_call 87
    refine (HA1.out W0 HB0.out).mono ?_
    rintro e w1 ⟨rfl, hb1⟩
    have HB1 := Lib.hid hb1
    have y0 := HBX.out w1 hb1
    clear hb1
    cases a1
    · rw [Bool.false_and] at HVA
      go_wp2_with fail
      go_ret
      exact ⟨by rw [HVA.out]; rfl, HB0.out.trans (HB1.out.mono HB0.out.size)⟩
    · rw [Bool.true_and] at HVA
      have HD1 := Lib.hid (HB1.out.trans (Below.drew (Below.refl w1.heap.size w1) |>.mono HB1.out.size))
      cases nd
      · rw [Bool.false_and] at HVA
        go_wp2_with fail
        go_region_law
          (first
          | (go_simp; go_at_call 89; refine (HNU.out w1.drew (HB0.out.trans (HD1.out.mono HB0.out.size))).mono ?_; rintro e w2 ⟨mb, mq, rfl, hlen, hq, hb2⟩; have HB2 := Lib.hid (HD1.out.trans (hb2.mono HD1.out.size)); have z0 := HBX.out w2 HB2.out; clear hb2))
        all_goals
          go_wp2_with fail
          go_region_law (fail)
          all_goals
            go_wp2_with fail
            go_ret
            exact ⟨by rw [HVA.out]; rfl, HB0.out.trans (HB2.out.drew.mono HB0.out.size)⟩
      · rw [Bool.true_and] at HVA
        go_wp2_with fail
        go_region_law
          (first
          | (go_simp; go_at_call 89; refine (HNU.out w1.drew (HB0.out.trans (HD1.out.mono HB0.out.size))).mono ?_; rintro e w2 ⟨mb, mq, rfl, hlen, hq, hb2⟩; have HB2 := Lib.hid (HD1.out.trans (hb2.mono HD1.out.size)); have z0 := HBX.out w2 HB2.out; have HD2 := Lib.hid (HB2.out.trans (Below.drew (Below.refl w2.heap.size w2) |>.mono HB2.out.size)); clear hb2))
        all_goals
          go_wp2_with fail
          go_region_law
            (first
            | (go_simp; go_at_call 84; refine (HDE.out w2.drew (HB0.out.trans (HD2.out.mono HB0.out.size))).mono ?_; rintro e w3 ⟨mb1, mb2, M1, M2, wq, xs2, G, rfl, hq1, hq2, hb3⟩; have HQ := Lib.hid (show DemIs l w3 mb1 mb2 M1 M2 wq xs2 G from ⟨hq1, hq2⟩); have HB3 := Lib.hid (HD2.out.trans (hb3.mono HD2.out.size)); clear hb3 hq1 hq2; have u0 := HBX.out w3 HB3.out)
            | (go_simp; go_at_call 87; refine (HA2.out mb1 mb2 M1 M2 wq xs2 G w3 (HB0.out.trans (HB3.out.mono HB0.out.size)) HQ.out).mono ?_; rintro e w4 ⟨rfl, hb4⟩; have HB4 := Lib.hid (HB3.out.trans (hb4.mono HB3.out.size)); clear hb4))
          all_goals
            go_wp2_with fail
            go_ret
            exact ⟨by rw [HVA.out]; rfl, HB0.out.trans (HB4.out.mono HB0.out.size)⟩
  · have h24i : (24 : Int) < (m : Int) := by omega
    rw [decide_eq_false h24, Bool.false_and] at HVA
    clear h24
    go_enter Try.func45, Try.ntmps45
    go_wp2_with fail
    rw [← HW0.out]
    go_ret
    exact ⟨by rw [HVA.out]; rfl, HB0.out⟩
end Go.Proofs.Ytmndlhbgacgnlaa
