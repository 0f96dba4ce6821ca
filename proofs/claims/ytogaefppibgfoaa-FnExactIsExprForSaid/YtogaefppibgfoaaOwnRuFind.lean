/- The contracts of the program's own FindRule, kind, arity, FunctionKind and FunctionArity. Condition: fewer than 2^40 rules. -/
import Derived.Test.YtogaefppibgfoaaOwnRuMaps
namespace Go.Proofs.Ytogaefppibgfoaa
open Go Go.RowKit Go.Shelf

theorem idx_first {wo : World} {key : Rt wo → Value} {q : Ru → Bool} {K : Value} (hq : ∀ x : Rt wo, key x = K ↔ q x.ru = true) : ∀ (xs : List (Rt wo)) (k : Nat) (l : List Ru), xs.map Rt.pair = numd k l →
    (∀ p, FirstAt key xs K p → ruIdx q k l = (p.num : Int) ∧ l.find? q = some p.ru) ∧ ((∀ p ∈ xs, key p ≠ K) → ruIdx q k l = -1 ∧ l.find? q = none) := by
  intro xs
  induction xs with
  | nil =>
    intro k l h
    cases l with
    | nil => exact ⟨fun p ⟨A, B, h, _⟩ => by simp at h, fun _ => ⟨rfl, rfl⟩⟩
    | cons r t => simp [numd] at h
  | cons x t ih =>
    intro k l h
    cases l with
    | nil => simp [numd] at h
    | cons r s =>
      rw [List.map_cons, numd, List.cons.injEq, Rt.pair, Prod.mk.injEq] at h
      obtain ⟨⟨hn, hr⟩, ht⟩ := h
      obtain ⟨h1, h2⟩ := ih (k + 1) s ht
      refine ⟨fun p hp => ?_, fun hp => ?_⟩
      · rcases firstAt_cons.1 hp with ⟨e, rfl⟩ | ⟨e, hf⟩
        · have := (hq p).1 e
          rw [hr] at this
          rw [ruIdx, this, List.find?_cons, this]
          simp [hn, hr]
        · have : q r = false := by
            rw [← hr, Bool.eq_false_iff]
            exact fun hh => e ((hq x).2 hh)
          rw [ruIdx, this, List.find?_cons, this]
          simpa using h1 p hf
      · have : q r = false := by
          rw [← hr, Bool.eq_false_iff]
          exact fun hh => hp x (by simp) ((hq x).2 hh)
        rw [ruIdx, this, List.find?_cons, this]
        simpa using h2 (fun p hp2 => hp p (by simp [hp2]))
theorem rkey_named {wo : World} (s t : ByteArray) (x : Rt wo) : rkey x = .agg #[.string s, .string t] ↔ namedC s t x.ru = true := by
  simp [rkey, namedC]
theorem rname_named {wo : World} (s : ByteArray) (x : Rt wo) : rname x = .string s ↔ named s x.ru = true := by
  simp [rname, named]

theorem own_nums (l : List Ru) (v : Value) (bs : List Nat) (w : World) (hv : PrIs w v l bs) (hb : l.length ≤ 1099511627776) : Calls Try.prog 38 #[v] w (MapPost l TwoK rkey rnum w) :=
  callsIn_wide.1 (nums_in Fence.wide 9 rfl rfl (fun _ => trivial) (Nat.le_refl _) l v bs w hv hb)
theorem own_first (l : List Ru) (v : Value) (bs : List Nat) (w : World) (hv : PrIs w v l bs) (hb : l.length ≤ 1099511627776) : Calls Try.prog 33 #[v] w (MapPost l StrK rname Rt.val w) :=
  callsIn_wide.1 (first_in Fence.wide 9 rfl rfl (fun _ => trivial) (Nat.le_refl _) l v bs w hv hb)
theorem numd_le : ∀ (l : List Ru) (k : Nat), ∀ p ∈ numd k l, p.1 < k + l.length := by
  intro l
  induction l with
  | nil => intro k p hp; cases hp
  | cons r t ih =>
    intro k p hp
    rw [numd] at hp
    rcases List.mem_cons.1 hp with rfl | hp
    · simp
    · have := ih (k + 1) p hp
      rw [List.length_cons]; omega

theorem zeroNum (w : World) : (zeroValue 3).run Try.prog w = .ok (.int .i64 0) w := by kernel_rfl
theorem zeroRule (w : World) : (zeroValue 52).run Try.prog w = .ok (.agg #[.string ⟨#[]⟩, .string ⟨#[]⟩, .slice none 0 0, .slice none 0 0, .int .i64 0, .string ⟨#[]⟩, .slice none 0 0]) w := by kernel_rfl

set_option maxHeartbeats 1000000 in
theorem own_find (l : List Ru) (s t : ByteArray) (v : Value) (bs : List Nat) (w : World) (hv : PrIs w v l bs) (hb : l.length ≤ 1099511627776) :
    Calls Try.prog 18 #[v, .string s, .string t] w (RetPost (.int .i64 (findR l s t)) w) := by
  obtain ⟨u, rfl, hu⟩ := id hv
  obtain ⟨A, c, rfl, hc1, hc2, -⟩ := id hu
  have hb0 : Below w.heap.size w (w.alloc (.cells #[.slice A l.length c] 29)) := (Below.refl _ w).alloc (Nat.le_refl _) _
  have HC := Lib.hid (own_nums l _ bs _ (hv.below hb0) hb)
  have HB0 := Lib.hid hb0
  have HLB := Lib.hid hb
  generalize hq : l.length = q at *
  clear hu hv hb0 hq
  go_enter Try.func18, Try.ntmps18
  go_wp2_with fail
  go_at_call 38
  refine HC.out.mono ?_
  rintro r w1 ⟨mb, M, xs, rfl, hm, hK, hxs, hF, hlo, hb1⟩
  obtain ⟨x, has, hrun, hit⟩ := hm.look (twoT w1) Try.underlying61 (zeroNum w1) (key := .agg #[.string s, .string t]) ⟨s, t, rfl⟩ hK
  have hr2 := hrun true
  simp only [if_true] at hr2
  have HB1 := Lib.hid (HB0.out.trans (hb1.mono HB0.out.size))
  obtain ⟨hi1, hi2⟩ := idx_first (rkey_named s t) xs 0 l hxs
  rcases hF.hits hit with ⟨p, hp1, rfl, rfl⟩ | ⟨hp1, rfl, rfl⟩
  · have HE := Lib.hid (show findR l s t = (p.num : Int) from (hi1 p hp1).1)
    dsimp only [rnum] at hr2
    clear hrun hit hi1 hi2 hb1 hF hxs hK hm hp1
    go_wp2_with fail
    go_ret
    exact ⟨by rw [HE.out]; rfl, HB1.out⟩
  · have HE := Lib.hid (show findR l s t = -1 from (hi2 hp1).1)
    clear hrun hit hi1 hi2 hb1 hF hxs hK hm hp1
    go_wp2_with fail
    go_ret
    exact ⟨by rw [HE.out]; rfl, HB1.out⟩

/-- What kind and arity answer. -/
def kindOf (r : Ru) : Int := if r.con.size = 0 then 1 else 2
def arityOf (r : Ru) : Int := (r.params.length : Int) + (if r.con.size = 0 then 0 else 1)
theorem empty_len (s : ByteArray) : s.toList.length = s.size := by rw [ByteArray.toList_eq]; rfl
theorem empty_yes {s : ByteArray} (h : s.size = 0) : s.toList.isEmpty = true := by
  rw [List.isEmpty_iff]
  exact List.eq_nil_of_length_eq_zero (by rw [empty_len, h])
theorem empty_not {s : ByteArray} (h : ¬ s.size = 0) : s.toList.isEmpty = false := by
  rw [Bool.eq_false_iff]
  intro e
  rw [List.isEmpty_iff] at e
  exact h (by rw [← empty_len, e]; rfl)

set_option maxHeartbeats 1000000 in
theorem own_kind (r : Ru) (v : Value) (b : List Nat) (w : World) (hv : RuIs w v r b) : Calls Try.prog 34 #[v] w (RetPost (.int .i64 (kindOf r)) w) := by
  obtain ⟨v1, v2, u, b1, b2, b3, rfl, h1, h2, rfl, h3, h4, h5⟩ := hv
  obtain ⟨A1, c1, rfl, -⟩ := h3
  obtain ⟨A2, c2, rfl, -⟩ := h4
  obtain ⟨u', e3, -, A3, c3, rfl, -⟩ := h5
  simp only [Value.agg.injEq, Array.mk.injEq, List.cons.injEq, and_true, true_and] at e3
  subst e3
  by_cases hc : r.con.size = 0
  · have HE := Lib.hid (show kindOf r = 1 by unfold kindOf; rw [if_pos hc])
    have hbe := empty_yes hc
    clear hc
    go_enter Try.func34, Try.ntmps34
    go_wp2_with fail
    go_ret
    exact ⟨by rw [HE.out]; rfl, (Below.refl _ w).alloc (Nat.le_refl _) _⟩
  · have HE := Lib.hid (show kindOf r = 2 by unfold kindOf; rw [if_neg hc])
    have hbe := empty_not hc
    clear hc
    go_enter Try.func34, Try.ntmps34
    go_wp2_with fail
    go_ret
    exact ⟨by rw [HE.out]; rfl, (Below.refl _ w).alloc (Nat.le_refl _) _⟩

set_option maxHeartbeats 1000000 in
theorem own_arity (r : Ru) (v : Value) (b : List Nat) (w : World) (hv : RuIs w v r b) (hn : r.params.length ≤ 1099511627776) : Calls Try.prog 37 #[v] w (RetPost (.int .i64 (arityOf r)) w) := by
  have HR := Lib.hid hv
  obtain ⟨v1, v2, u, b1, b2, b3, rfl, h1, h2, rfl, h3, h4, h5⟩ := hv
  obtain ⟨A1, c1, rfl, -⟩ := h3
  obtain ⟨A2, c2, rfl, -⟩ := h4
  obtain ⟨u', e3, -, A3, c3, rfl, -⟩ := h5
  simp only [Value.agg.injEq, Array.mk.injEq, List.cons.injEq, and_true, true_and] at e3
  subst e3
  obtain ⟨W0, hW0⟩ : ∃ W0, W0 = w.alloc (.cells #[.string r.name, .string r.con, .slice A1 r.vars.length c1, .slice A2 r.params.length c2, .int .i64 r.body.kind, .string r.body.name, .slice A3 r.body.args.length c3] 52) := ⟨_, rfl⟩
  have hbx : Below w.heap.size w W0 := by rw [hW0]; exact (Below.refl _ w).alloc (Nat.le_refl _) _
  have HB0 := Lib.hid hbx
  have HC := Lib.hid (own_kind r _ _ W0 (HR.out.below hbx))
  have HBX := Lib.hid (fun (W : World) (hb : Below W0.heap.size W0 W) => show W.cell? ⟨w.heap.size, 3, none⟩ = some (.slice A2 r.params.length c2) from by
    have h9 : W.heap[w.heap.size]? = some (.cells #[.string r.name, .string r.con, .slice A1 r.vars.length c1, .slice A2 r.params.length c2, .int .i64 r.body.kind, .string r.body.name, .slice A3 r.body.args.length c3] 52 (0, 0)) := by
      rw [hW0] at hb
      exact (hb.block _ (by simp)).trans (World.alloc_heap_new w _)
    simp [World.cell?, h9])
  have hpl : (r.params.length : Int) ≤ 1099511627776 := by omega
  generalize hq : r.params.length = q at *
  by_cases hc : r.con.size = 0
  · have HE := Lib.hid (show arityOf r = (q : Int) by unfold arityOf; rw [if_pos hc, hq]; omega)
    have HK := Lib.hid (show kindOf r = 1 by unfold kindOf; rw [if_pos hc])
    clear hc h1 h2
    go_enter Try.func37, Try.ntmps37
    go_wp2_with (rw [← hW0]; go_at_call 34; refine HC.out.mono ?_; rintro e w1 ⟨rfl, hb1⟩; have hcl := HBX.out w1 hb1; have HB1 := Lib.hid (HB0.out.trans (hb1.mono HB0.out.size)); clear hb1; rw [HK.out])
    go_ret
    exact ⟨by rw [HE.out]; rfl, HB1.out⟩
  · have HE := Lib.hid (show arityOf r = (q : Int) + 1 by unfold arityOf; rw [if_neg hc, hq])
    have HK := Lib.hid (show kindOf r = 2 by unfold kindOf; rw [if_neg hc])
    clear hc h1 h2
    go_enter Try.func37, Try.ntmps37
    go_wp2_with (rw [← hW0]; go_at_call 34; refine HC.out.mono ?_; rintro e w1 ⟨rfl, hb1⟩; have hcl := HBX.out w1 hb1; have HB1 := Lib.hid (HB0.out.trans (hb1.mono HB0.out.size)); clear hb1; rw [HK.out])
    go_ret
    exact ⟨by rw [HE.out]; rfl, HB1.out⟩

theorem kind_find {l : List Ru} {s : ByteArray} {r : Ru} (h : l.find? (named s) = some r) : kindR l s = kindOf r := by unfold kindR; rw [h]; rfl
theorem arity_find {l : List Ru} {s : ByteArray} {r : Ru} (h : l.find? (named s) = some r) : arityR l s = arityOf r := by unfold arityR; rw [h]; rfl

set_option maxHeartbeats 1000000 in
theorem own_fkind (l : List Ru) (s : ByteArray) (v : Value) (bs : List Nat) (w : World) (hv : PrIs w v l bs) (hb : l.length ≤ 1099511627776) :
    Calls Try.prog 13 #[v, .string s] w (RetPost (.int .i64 (kindR l s)) w) := by
  obtain ⟨u, rfl, hu⟩ := id hv
  obtain ⟨A, c, rfl, hc1, hc2, -⟩ := id hu
  have hb0 : Below w.heap.size w (w.alloc (.cells #[.slice A l.length c] 29)) := (Below.refl _ w).alloc (Nat.le_refl _) _
  have HC := Lib.hid (own_first l _ bs _ (hv.below hb0) hb)
  have HB0 := Lib.hid hb0
  have HUU := Lib.hid hu
  generalize hq : l.length = q at *
  clear hu hv hb0 hq
  go_enter Try.func13, Try.ntmps13
  go_wp2_with fail
  go_at_call 33
  refine HC.out.mono ?_
  rintro r w1 ⟨mb, M, xs, rfl, hm, hK, hxs, hF, hlo, hb1⟩
  obtain ⟨x, has, hrun, hit⟩ := hm.look (strT w1) Try.underlying55 (zeroRule w1) (key := .string s) ⟨s, rfl⟩ hK
  have hr2 := hrun true
  simp only [if_true] at hr2
  have HB1 := Lib.hid (HB0.out.trans (hb1.mono HB0.out.size))
  obtain ⟨hi1, hi2⟩ := idx_first (rname_named s) xs 0 l hxs
  rcases hF.hits hit with ⟨p, hp1, rfl, rfl⟩ | ⟨hp1, rfl, rfl⟩
  · have HE := Lib.hid (show kindR l s = kindOf p.ru from kind_find (hi1 p hp1).2)
    have hsl := p.slices
    obtain ⟨A1, d1, A2, d2, A3, d3, hv1, hv2, hv3, -⟩ := hsl
    have hv : p.val = .agg #[.string p.ru.name, .string p.ru.con, .slice A1 p.ru.vars.length d1, .slice A2 p.ru.params.length d2, .int .i64 p.ru.body.kind, .string p.ru.body.name, .slice A3 p.ru.body.args.length d3] := by rw [← hv1, ← hv2, ← hv3]; rfl
    have hRI : RuIs (w.alloc (.cells #[.slice A q c] 29)) p.val p.ru p.1.2.2.2.2.2 := p.2
    dsimp only at hr2
    rw [hv] at hr2 hRI
    obtain ⟨W0, hW0⟩ : ∃ W0, W0 = w1.alloc (.cells #[.string p.ru.name, .string p.ru.con, .slice A1 p.ru.vars.length d1, .slice A2 p.ru.params.length d2, .int .i64 p.ru.body.kind, .string p.ru.body.name, .slice A3 p.ru.body.args.length d3] 52) := ⟨_, rfl⟩
    have hbx : Below w1.heap.size w1 W0 := by rw [hW0]; exact (Below.refl _ w1).alloc (Nat.le_refl _) _
    have HCK := Lib.hid (own_kind p.ru _ _ W0 ((hRI.below hb1).below hbx))
    have HBX := Lib.hid hbx
    clear hrun hit hi1 hi2 hb1 hF hxs hK hm hp1 hv hv1 hv2 hv3 hRI hbx
    go_wp2_with (rw [← hW0]; go_at_call 34; refine HCK.out.mono ?_; rintro e w2 ⟨rfl, hb2⟩; have HB2 := Lib.hid (HB1.out.trans ((HBX.out.trans (hb2.mono HBX.out.size)).mono HB1.out.size)); clear hb2)
    go_ret
    exact ⟨by rw [HE.out]; rfl, HB2.out⟩
  · have HE := Lib.hid (show kindR l s = 0 by unfold kindR; rw [(hi2 hp1).2])
    clear hrun hit hi1 hi2 hb1 hF hxs hK hm hp1
    go_wp2_with fail
    go_ret
    exact ⟨by rw [HE.out]; rfl, HB1.out.alloc HB1.out.size _⟩
set_option maxHeartbeats 1000000 in
theorem own_farity (l : List Ru) (s : ByteArray) (v : Value) (bs : List Nat) (w : World) (hv : PrIs w v l bs) (hb : l.length ≤ 1099511627776) (hp : ∀ r ∈ l, r.params.length ≤ 1099511627776) :
    Calls Try.prog 16 #[v, .string s] w (RetPost (.int .i64 (arityR l s)) w) := by
  obtain ⟨u, rfl, hu⟩ := id hv
  obtain ⟨A, c, rfl, hc1, hc2, -⟩ := id hu
  have hb0 : Below w.heap.size w (w.alloc (.cells #[.slice A l.length c] 29)) := (Below.refl _ w).alloc (Nat.le_refl _) _
  have HC := Lib.hid (own_first l _ bs _ (hv.below hb0) hb)
  have HB0 := Lib.hid hb0
  have HUU := Lib.hid hu
  generalize hq : l.length = q at *
  clear hu hv hb0 hq
  go_enter Try.func16, Try.ntmps16
  go_wp2_with fail
  go_at_call 33
  refine HC.out.mono ?_
  rintro r w1 ⟨mb, M, xs, rfl, hm, hK, hxs, hF, hlo, hb1⟩
  obtain ⟨x, has, hrun, hit⟩ := hm.look (strT w1) Try.underlying55 (zeroRule w1) (key := .string s) ⟨s, rfl⟩ hK
  have hr2 := hrun true
  simp only [if_true] at hr2
  have HB1 := Lib.hid (HB0.out.trans (hb1.mono HB0.out.size))
  obtain ⟨hi1, hi2⟩ := idx_first (rname_named s) xs 0 l hxs
  rcases hF.hits hit with ⟨p, hp1, rfl, rfl⟩ | ⟨hp1, rfl, rfl⟩
  · have HE := Lib.hid (show arityR l s = arityOf p.ru from arity_find (hi1 p hp1).2)
    have hsl := p.slices
    obtain ⟨A1, d1, A2, d2, A3, d3, hv1, hv2, hv3, -⟩ := hsl
    have hv : p.val = .agg #[.string p.ru.name, .string p.ru.con, .slice A1 p.ru.vars.length d1, .slice A2 p.ru.params.length d2, .int .i64 p.ru.body.kind, .string p.ru.body.name, .slice A3 p.ru.body.args.length d3] := by rw [← hv1, ← hv2, ← hv3]; rfl
    have hRI : RuIs (w.alloc (.cells #[.slice A q c] 29)) p.val p.ru p.1.2.2.2.2.2 := p.2
    dsimp only at hr2
    rw [hv] at hr2 hRI
    obtain ⟨W0, hW0⟩ : ∃ W0, W0 = w1.alloc (.cells #[.string p.ru.name, .string p.ru.con, .slice A1 p.ru.vars.length d1, .slice A2 p.ru.params.length d2, .int .i64 p.ru.body.kind, .string p.ru.body.name, .slice A3 p.ru.body.args.length d3] 52) := ⟨_, rfl⟩
    have hbx : Below w1.heap.size w1 W0 := by rw [hW0]; exact (Below.refl _ w1).alloc (Nat.le_refl _) _
    have HCK := Lib.hid (own_arity p.ru _ _ W0 ((hRI.below hb1).below hbx) (hp _ (List.mem_of_find?_eq_some (hi1 p hp1).2)))
    have HBX := Lib.hid hbx
    clear hrun hit hi1 hi2 hb1 hF hxs hK hm hp1 hv hv1 hv2 hv3 hRI hbx
    go_wp2_with (rw [← hW0]; go_at_call 37; refine HCK.out.mono ?_; rintro e w2 ⟨rfl, hb2⟩; have HB2 := Lib.hid (HB1.out.trans ((HBX.out.trans (hb2.mono HBX.out.size)).mono HB1.out.size)); clear hb2)
    go_ret
    exact ⟨by rw [HE.out]; rfl, HB2.out⟩
  · have HE := Lib.hid (show arityR l s = -1 by unfold arityR; rw [(hi2 hp1).2])
    clear hrun hit hi1 hi2 hb1 hF hxs hK hm hp1
    go_wp2_with fail
    go_ret
    exact ⟨by rw [HE.out]; rfl, HB1.out.alloc HB1.out.size _⟩
end Go.Proofs.Ytogaefppibgfoaa
