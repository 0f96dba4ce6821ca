/- A part of the proof of the seat's statement: RuGet. Condition: as each says. -/
import Derived.Test.YtiaknfnhmoinpaaGreatOwnRuMaps
import Derived.Test.YtiaknfnhmoinpaaGreatRuHead
import Derived.Test.YtiaknfnhmoinpaaGreatNest
import Derived.Test.YtiaknfnhmoinpaaGreatRuBack
import Derived.Test.YtiaknfnhmoinpaaGreatOwnSize
import Derived.Test.YtiaknfnhmoinpaaGreatRuCon
import Derived.Test.YtiaknfnhmoinpaaGreatRuSz
set_option maxHeartbeats 8000000
namespace Go.Proofs.YtiaknfnhmoinpaaGreat
open Go Go.RowKit Go.Shelf
theorem idx_first {wo : World} {key : Rt wo → Value} {q : Ru → Bool} {K : Value} (hq : ∀ x : Rt wo, key x = K ↔ q x.ru = true) : ∀ (xs : List (Rt wo)) (k : Nat) (l : List Ru), xs.map Rt.pair = numd k l →
 (∀ p, FirstAt key xs K p → ruIdx q k l = (p.num : Int) ∧ l.find? q = some p.ru) ∧ ((∀ p ∈ xs, key p ≠ K) → ruIdx q k l = -1 ∧ l.find? q = none) := by
 intro xs
 induction xs with
 | nil =>
  intro k l h
  cases l with
  | nil => exact ⟨fun p ⟨A, B, h, _⟩ => by simp at h, fun _ => ⟨rfl, rfl⟩⟩
  | cons r t => simp [numd] at h
 | cons x t ih =>
  intro k l h
  cases l with
  | nil => simp [numd] at h
  | cons r s =>
   rw [List.map_cons, numd, List.cons.injEq, Rt.pair, Prod.mk.injEq] at h
   obtain ⟨⟨hn, hr⟩, ht⟩ := h
   obtain ⟨h1, h2⟩ := ih (k + 1) s ht
   refine ⟨fun p hp => ?_, fun hp => ?_⟩
   · rcases firstAt_cons.1 hp with ⟨e, rfl⟩ | ⟨e, hf⟩
     · have := (hq p).1 e
       rw [hr] at this
       rw [ruIdx, this, List.find?_cons, this]
       simp [hn, hr]
     have : q r = false := by
      rw [← hr, Bool.eq_false_iff]
      exact fun hh => e ((hq x).2 hh)
     rw [ruIdx, this, List.find?_cons, this]
     simpa using h1 p hf
   have : q r = false := by
    rw [← hr, Bool.eq_false_iff]
    exact fun hh => hp x (by simp) ((hq x).2 hh)
   rw [ruIdx, this, List.find?_cons, this]
   simpa using h2 (fun p hp2 => hp p (by simp [hp2]))
theorem rkey_named {wo : World} (s t : ByteArray) (x : Rt wo) : rkey x = .agg #[.string s, .string t] ↔ namedC s t x.ru = true := by
 simp [rkey, namedC]
theorem rname_named {wo : World} (s : ByteArray) (x : Rt wo) : rname x = .string s ↔ named s x.ru = true := by
 simp [rname, named]
theorem own_nums (l : List Ru) (v : Value) (bs : List Nat) (w : World) (hv : PrIs w v l bs) (hb : l.length ≤ 1099511627776) : Calls Tryz.prog 25 #[v] w (MapPost l TwoK rkey rnum w) :=
 callsIn_wide.1 (nums_in Fence.wide 9 rfl rfl (fun _ => trivial) (nR _) l v bs w hv hb)
theorem own_first (l : List Ru) (v : Value) (bs : List Nat) (w : World) (hv : PrIs w v l bs) (hb : l.length ≤ 1099511627776) : Calls Tryz.prog 29 #[v] w (MapPost l StrK rname Rt.val w) :=
 callsIn_wide.1 (first_in Fence.wide 9 rfl rfl (fun _ => trivial) (nR _) l v bs w hv hb)
theorem zeroNum (w : World) : (zeroValue 3).run Tryz.prog w = .ok (.int .i64 0) w := by kernel_rfl
theorem zeroRule (w : World) : (zeroValue 34).run Tryz.prog w = .ok (.agg #[.string ⟨#[]⟩, .string ⟨#[]⟩, .slice none 0 0, .slice none 0 0, .int .i64 0, .string ⟨#[]⟩, .slice none 0 0]) w := by kernel_rfl
theorem own_find (l : List Ru) (s t : ByteArray) (v : Value) (bs : List Nat) (w : World) (hv : PrIs w v l bs) (hb : l.length ≤ 1099511627776) :
 Calls Tryz.prog 8 #[v, .string s, .string t] w (RetPost (.int .i64 (findR l s t)) w) := by
 obtain ⟨u, rfl, hu⟩ := id hv
 obtain ⟨A, c, rfl, hc1, hc2, -⟩ := id hu
 have hb0 : Below w.heap.size w (w.alloc (.cells #[.slice A l.length c] 26)) := (wB _ w).alloc (nR _) _
 have HC := zH (own_nums l _ bs _ (hv.below hb0) hb)
 have HB0 := zH hb0
 have HLB := zH hb
 generalize hq : l.length = q at *
 clear hu hv hb0 hq
 go_enter Tryz.func8, Tryz.ntmps8
 go_wp2_with fail
 go_at_call 25
 refine HC.out.mono ?_
 rintro r w1 ⟨mb, M, xs, rfl, hm, hK, hxs, hF, hlo, hb1⟩
 obtain ⟨x, has, hrun, hit⟩ := hm.look (twoT w1) Tryz.underlying50 (zeroNum w1) (key := .agg #[.string s, .string t]) ⟨s, t, rfl⟩ hK
 have hr2 := hrun true
 simp only [if_true] at hr2
 have HB1 := zH (HB0.out.trans (hb1.mono HB0.out.size))
 obtain ⟨hi1, hi2⟩ := idx_first (rkey_named s t) xs 0 l hxs
 rcases hF.hits hit with ⟨p, hp1, rfl, rfl⟩ | ⟨hp1, rfl, rfl⟩
 · have HE := zH (show findR l s t = (p.num : Int) from (hi1 p hp1).1)
   dsimp only [rnum] at hr2
   clear hrun hit hi1 hi2 hb1 hF hxs hK hm hp1
   go_wp2_with fail
   go_ret
   exact ⟨by rw [HE.out]; rfl, HB1.out⟩
 have HE := zH (show findR l s t = -1 from (hi2 hp1).1)
 clear hrun hit hi1 hi2 hb1 hF hxs hK hm hp1
 go_wp2_with fail
 go_ret
 exact ⟨by rw [HE.out]; rfl, HB1.out⟩
def kindOf (r : Ru) : Int := if r.con.size = 0 then 1 else 2
def arityOf (r : Ru) : Int := (r.params.length : Int) + (if r.con.size = 0 then 0 else 1)
theorem own_kind (r : Ru) (v : Value) (b : List Nat) (w : World) (hv : RuIs w v r b) : Calls Tryz.prog 31 #[v] w (RetPost (.int .i64 (kindOf r)) w) := by
 obtain ⟨v1, v2, u, b1, b2, b3, rfl, h1, h2, rfl, h3, h4, h5⟩ := hv
 obtain ⟨A1, c1, rfl, -⟩ := h3
 obtain ⟨A2, c2, rfl, -⟩ := h4
 obtain ⟨u', e3, -, A3, c3, rfl, -⟩ := h5
 simp only [Value.agg.injEq, Array.mk.injEq, List.cons.injEq, and_true, true_and] at e3
 subst e3
 by_cases hc : r.con.size = 0
 · have HE := zH (show kindOf r = 1 by unfold kindOf; rw [if_pos hc])
   have hbe := empty_yes hc
   clear hc
   go_enter Tryz.func31, Tryz.ntmps31
   go_wp2_with fail
   go_ret
   exact ⟨by rw [HE.out]; rfl, (wB _ w).alloc (nR _) _⟩
 have HE := zH (show kindOf r = 2 by unfold kindOf; rw [if_neg hc])
 have hbe := empty_not hc
 clear hc
 go_enter Tryz.func31, Tryz.ntmps31
 go_wp2_with fail
 go_ret
 exact ⟨by rw [HE.out]; rfl, (wB _ w).alloc (nR _) _⟩
theorem own_arity (r : Ru) (v : Value) (b : List Nat) (w : World) (hv : RuIs w v r b) (hn : r.params.length ≤ 1099511627776) : Calls Tryz.prog 30 #[v] w (RetPost (.int .i64 (arityOf r)) w) := by
 have HR := zH hv
 obtain ⟨v1, v2, u, b1, b2, b3, rfl, h1, h2, rfl, h3, h4, h5⟩ := hv
 obtain ⟨A1, c1, rfl, -⟩ := h3
 obtain ⟨A2, c2, rfl, -⟩ := h4
 obtain ⟨u', e3, -, A3, c3, rfl, -⟩ := h5
 simp only [Value.agg.injEq, Array.mk.injEq, List.cons.injEq, and_true, true_and] at e3
 subst e3
 obtain ⟨W0, hW0⟩ : ∃ W0, W0 = w.alloc (.cells #[.string r.name, .string r.con, .slice A1 r.vars.length c1, .slice A2 r.params.length c2, .int .i64 r.body.kind, .string r.body.name, .slice A3 r.body.args.length c3] 34) := ⟨_, rfl⟩
 have hbx : Below w.heap.size w W0 := by rw [hW0]; exact (wB _ w).alloc (nR _) _
 have HB0 := zH hbx
 have HC := zH (own_kind r _ _ W0 (HR.out.below hbx))
 have HBX := zH (fun (W : World) (hb : Below W0.heap.size W0 W) => show W.cell? ⟨w.heap.size, 3, none⟩ = some (.slice A2 r.params.length c2) from by
  have h9 : W.heap[w.heap.size]? = some (.cells #[.string r.name, .string r.con, .slice A1 r.vars.length c1, .slice A2 r.params.length c2, .int .i64 r.body.kind, .string r.body.name, .slice A3 r.body.args.length c3] 34 (0, 0)) := by
   rw [hW0] at hb
   exact (hb.block _ (by simp)).trans (World.alloc_heap_new w _)
  simp [World.cell?, h9])
 have hpl : (r.params.length : Int) ≤ 1099511627776 := by omega
 generalize hq : r.params.length = q at *
 by_cases hc : r.con.size = 0
 · have HE := zH (show arityOf r = (q : Int) by unfold arityOf; rw [if_pos hc, hq]; omega)
   have HK := zH (show kindOf r = 1 by unfold kindOf; rw [if_pos hc])
   clear hc h1 h2
   go_enter Tryz.func30, Tryz.ntmps30
   go_wp2_with (rw [← hW0]; go_at_call 31; refine HC.out.mono ?_; rintro e w1 ⟨rfl, hb1⟩; have hcl := HBX.out w1 hb1; have HB1 := zH (HB0.out.trans (hb1.mono HB0.out.size)); clear hb1; rw [HK.out])
   go_ret
   exact ⟨by rw [HE.out]; rfl, HB1.out⟩
 have HE := zH (show arityOf r = (q : Int) + 1 by unfold arityOf; rw [if_neg hc, hq])
 have HK := zH (show kindOf r = 2 by unfold kindOf; rw [if_neg hc])
 clear hc h1 h2
 go_enter Tryz.func30, Tryz.ntmps30
 go_wp2_with (rw [← hW0]; go_at_call 31; refine HC.out.mono ?_; rintro e w1 ⟨rfl, hb1⟩; have hcl := HBX.out w1 hb1; have HB1 := zH (HB0.out.trans (hb1.mono HB0.out.size)); clear hb1; rw [HK.out])
 go_ret
 exact ⟨by rw [HE.out]; rfl, HB1.out⟩
theorem kind_find {l : List Ru} {s : ByteArray} {r : Ru} (h : l.find? (named s) = some r) : kindR l s = kindOf r := by unfold kindR; rw [h]; rfl
theorem arity_find {l : List Ru} {s : ByteArray} {r : Ru} (h : l.find? (named s) = some r) : arityR l s = arityOf r := by unfold arityR; rw [h]; rfl
theorem own_fkind (l : List Ru) (s : ByteArray) (v : Value) (bs : List Nat) (w : World) (hv : PrIs w v l bs) (hb : l.length ≤ 1099511627776) :
 Calls Tryz.prog 10 #[v, .string s] w (RetPost (.int .i64 (kindR l s)) w) := by
 obtain ⟨u, rfl, hu⟩ := id hv
 obtain ⟨A, c, rfl, hc1, hc2, -⟩ := id hu
 have hb0 : Below w.heap.size w (w.alloc (.cells #[.slice A l.length c] 26)) := (wB _ w).alloc (nR _) _
 have HC := zH (own_first l _ bs _ (hv.below hb0) hb)
 have HB0 := zH hb0
 have HUU := zH hu
 generalize hq : l.length = q at *
 clear hu hv hb0 hq
 go_enter Tryz.func10, Tryz.ntmps10
 go_wp2_with fail
 go_at_call 29
 refine HC.out.mono ?_
 rintro r w1 ⟨mb, M, xs, rfl, hm, hK, hxs, hF, hlo, hb1⟩
 obtain ⟨x, has, hrun, hit⟩ := hm.look (strT w1) Tryz.underlying52 (zeroRule w1) (key := .string s) ⟨s, rfl⟩ hK
 have hr2 := hrun true
 simp only [if_true] at hr2
 have HB1 := zH (HB0.out.trans (hb1.mono HB0.out.size))
 obtain ⟨hi1, hi2⟩ := idx_first (rname_named s) xs 0 l hxs
 rcases hF.hits hit with ⟨p, hp1, rfl, rfl⟩ | ⟨hp1, rfl, rfl⟩
 · have HE := zH (show kindR l s = kindOf p.ru from kind_find (hi1 p hp1).2)
   have hsl := p.slices
   obtain ⟨A1, d1, A2, d2, A3, d3, hv1, hv2, hv3, -⟩ := hsl
   have hv : p.val = .agg #[.string p.ru.name, .string p.ru.con, .slice A1 p.ru.vars.length d1, .slice A2 p.ru.params.length d2, .int .i64 p.ru.body.kind, .string p.ru.body.name, .slice A3 p.ru.body.args.length d3] := by rw [← hv1, ← hv2, ← hv3]; rfl
   have hRI : RuIs (w.alloc (.cells #[.slice A q c] 26)) p.val p.ru p.1.2.2.2.2.2 := p.2
   dsimp only at hr2
   rw [hv] at hr2 hRI
   obtain ⟨W0, hW0⟩ : ∃ W0, W0 = w1.alloc (.cells #[.string p.ru.name, .string p.ru.con, .slice A1 p.ru.vars.length d1, .slice A2 p.ru.params.length d2, .int .i64 p.ru.body.kind, .string p.ru.body.name, .slice A3 p.ru.body.args.length d3] 34) := ⟨_, rfl⟩
   have hbx : Below w1.heap.size w1 W0 := by rw [hW0]; exact (wB _ w1).alloc (nR _) _
   have HCK := zH (own_kind p.ru _ _ W0 ((hRI.below hb1).below hbx))
   have HBX := zH hbx
   clear hrun hit hi1 hi2 hb1 hF hxs hK hm hp1 hv hv1 hv2 hv3 hRI hbx
   go_wp2_with (rw [← hW0]; go_at_call 31; refine HCK.out.mono ?_; rintro e w2 ⟨rfl, hb2⟩; have HB2 := zH (HB1.out.trans ((HBX.out.trans (hb2.mono HBX.out.size)).mono HB1.out.size)); clear hb2)
   go_ret
   exact ⟨by rw [HE.out]; rfl, HB2.out⟩
 have HE := zH (show kindR l s = 0 by unfold kindR; rw [(hi2 hp1).2])
 clear hrun hit hi1 hi2 hb1 hF hxs hK hm hp1
 go_wp2_with fail
 go_ret
 exact ⟨by rw [HE.out]; rfl, HB1.out.alloc HB1.out.size _⟩
theorem own_farity (l : List Ru) (s : ByteArray) (v : Value) (bs : List Nat) (w : World) (hv : PrIs w v l bs) (hb : l.length ≤ 1099511627776) (hp : ∀ r ∈ l, r.params.length ≤ 1099511627776) :
 Calls Tryz.prog 9 #[v, .string s] w (RetPost (.int .i64 (arityR l s)) w) := by
 obtain ⟨u, rfl, hu⟩ := id hv
 obtain ⟨A, c, rfl, hc1, hc2, -⟩ := id hu
 have hb0 : Below w.heap.size w (w.alloc (.cells #[.slice A l.length c] 26)) := (wB _ w).alloc (nR _) _
 have HC := zH (own_first l _ bs _ (hv.below hb0) hb)
 have HB0 := zH hb0
 have HUU := zH hu
 generalize hq : l.length = q at *
 clear hu hv hb0 hq
 go_enter Tryz.func9, Tryz.ntmps9
 go_wp2_with fail
 go_at_call 29
 refine HC.out.mono ?_
 rintro r w1 ⟨mb, M, xs, rfl, hm, hK, hxs, hF, hlo, hb1⟩
 obtain ⟨x, has, hrun, hit⟩ := hm.look (strT w1) Tryz.underlying52 (zeroRule w1) (key := .string s) ⟨s, rfl⟩ hK
 have hr2 := hrun true
 simp only [if_true] at hr2
 have HB1 := zH (HB0.out.trans (hb1.mono HB0.out.size))
 obtain ⟨hi1, hi2⟩ := idx_first (rname_named s) xs 0 l hxs
 rcases hF.hits hit with ⟨p, hp1, rfl, rfl⟩ | ⟨hp1, rfl, rfl⟩
 · have HE := zH (show arityR l s = arityOf p.ru from arity_find (hi1 p hp1).2)
   have hsl := p.slices
   obtain ⟨A1, d1, A2, d2, A3, d3, hv1, hv2, hv3, -⟩ := hsl
   have hv : p.val = .agg #[.string p.ru.name, .string p.ru.con, .slice A1 p.ru.vars.length d1, .slice A2 p.ru.params.length d2, .int .i64 p.ru.body.kind, .string p.ru.body.name, .slice A3 p.ru.body.args.length d3] := by rw [← hv1, ← hv2, ← hv3]; rfl
   have hRI : RuIs (w.alloc (.cells #[.slice A q c] 26)) p.val p.ru p.1.2.2.2.2.2 := p.2
   dsimp only at hr2
   rw [hv] at hr2 hRI
   obtain ⟨W0, hW0⟩ : ∃ W0, W0 = w1.alloc (.cells #[.string p.ru.name, .string p.ru.con, .slice A1 p.ru.vars.length d1, .slice A2 p.ru.params.length d2, .int .i64 p.ru.body.kind, .string p.ru.body.name, .slice A3 p.ru.body.args.length d3] 34) := ⟨_, rfl⟩
   have hbx : Below w1.heap.size w1 W0 := by rw [hW0]; exact (wB _ w1).alloc (nR _) _
   have HCK := zH (own_arity p.ru _ _ W0 ((hRI.below hb1).below hbx) (hp _ (List.mem_of_find?_eq_some (hi1 p hp1).2)))
   have HBX := zH hbx
   clear hrun hit hi1 hi2 hb1 hF hxs hK hm hp1 hv hv1 hv2 hv3 hRI hbx
   go_wp2_with (rw [← hW0]; go_at_call 30; refine HCK.out.mono ?_; rintro e w2 ⟨rfl, hb2⟩; have HB2 := zH (HB1.out.trans ((HBX.out.trans (hb2.mono HBX.out.size)).mono HB1.out.size)); clear hb2)
   go_ret
   exact ⟨by rw [HE.out]; rfl, HB2.out⟩
 have HE := zH (show arityR l s = -1 by unfold arityR; rw [(hi2 hp1).2])
 clear hrun hit hi1 hi2 hb1 hF hxs hK hm hp1
 go_wp2_with fail
 go_ret
 exact ⟨by rw [HE.out]; rfl, HB1.out.alloc HB1.out.size _⟩
open Go Go.RowKit
abbrev Cn : Type := ByteArray × Nat
def Cn.enc (x : Cn) : Array Value := #[.string x.1, .int .i64 (x.2 : Int)]
def conOf (e : Ex) : Option Cn := if e.kind = 2 then some (e.name, e.args.length) else none
def headOf (r : Ru) : List Cn := if r.con.size = 0 then [] else [(r.con, r.vars.length)]
def bodyOf (e : Ex) : List Cn := (exNodes e).filterMap conOf
def consRu (r : Ru) : List Cn := headOf r ++ bodyOf r.body
def consAll (l : List Ru) : List Cn := l.flatMap consRu
def cntR (l : List Ru) : Nat := (l.map (fun r => exSize r.body + 1)).sum
theorem cntR_snoc (l : List Ru) (r : Ru) : cntR (l ++ [r]) = cntR l + (exSize r.body + 1) := by simp [cntR]
theorem cntR_take (l : List Ru) (k : Nat) : cntR (l.take k) ≤ cntR l := by
 have h : cntR l = cntR (l.take k) + cntR (l.drop k) := by rw [cntR, cntR, cntR, ← List.sum_append, ← List.map_append, List.take_append_drop]
 omega
theorem consAll_snoc (l : List Ru) (r : Ru) : consAll (l ++ [r]) = consAll l ++ consRu r := by simp [consAll]
def arOf : Option Cn → Int
 | some x => (x.2 : Int)
 | none => -1
theorem arOf_none : arOf none = -1 := rfl
theorem arOf_some (x : Cn) : arOf (some x) = (x.2 : Int) := rfl
theorem arOf_app (A B : List Cn) (q : Cn → Bool) : arOf ((A ++ B).find? q) = if 0 ≤ arOf (A.find? q) then arOf (A.find? q) else arOf (B.find? q) := by
 rw [List.find?_append]
 cases h : A.find? q with
 | none => simp [arOf]
 | some x => simp [arOf]
def isC (c : ByteArray) (x : Cn) : Bool := decide (x.1 = c)
theorem conE_find (c : ByteArray) (n : Nat) : (∀ e : Ex, exSize e ≤ n → conE c e = arOf ((bodyOf e).find? (isC c))) ∧ (∀ l : List Ex, exSizes l ≤ n → conL c l = arOf (((exNodesL l).filterMap conOf).find? (isC c))) := by
 induction n with
 | zero =>
  refine ⟨fun e h => by have := exSize_pos e; omega, fun l h => ?_⟩
  cases l with
  | nil => rw [conL]; simp [exNodesL, arOf]
  | cons e r => rw [exSizes] at h; have := exSize_pos e; omega
 | succ n ih =>
  have hE : ∀ e : Ex, exSize e ≤ n + 1 → conE c e = arOf ((bodyOf e).find? (isC c)) := by
   intro e h
   cases e with
   | mk k s l =>
    rw [exSize] at h
    rw [conE, bodyOf, exNodes, ih.2 l (by omega)]
    by_cases hk : k = 2
    · by_cases hs : s = c
      · simp [hk, hs, conOf, Ex.kind, Ex.name, Ex.args, isC, arOf]
      simp [hk, hs, conOf, Ex.kind, Ex.name, Ex.args, isC]
    simp [hk, conOf, Ex.kind]
  refine ⟨hE, ?_⟩
  intro l
  induction l with
  | nil => intro _; rw [conL]; simp [exNodesL, arOf]
  | cons e r ihl =>
   intro h
   rw [exSizes] at h
   rw [conL, exNodesL, List.filterMap_append, arOf_app, hE e (by omega), ihl (by omega)]
   rfl
theorem conR_find (c : ByteArray) : ∀ l : List Ru, conR c l = arOf ((consAll l).find? (isC c)) := by
 intro l
 induction l with
 | nil => rfl
 | cons r t ih =>
  rw [conR, show consAll (r :: t) = (headOf r ++ bodyOf r.body) ++ consAll t by simp [consAll, consRu], arOf_app, arOf_app, ih, (conE_find c _).1 r.body (nR _)]
  unfold headOf
  by_cases h0 : r.con.size = 0
  · have : ¬ (r.con = c ∧ c.size ≠ 0) := by rintro ⟨rfl, h⟩; exact h h0
    rw [if_neg this, if_pos h0]
    simp [arOf_none]
  rw [if_neg h0]
  by_cases hc : r.con = c
  · rw [if_pos ⟨hc, by rw [← hc]; exact h0⟩]; simp [isC, hc, arOf_some]
  rw [if_neg (fun h => hc h.1)]; simp [isC, hc, arOf_none]
theorem find_map {A B : List Ex} (h : ∀ q : Ex → Bool, A.find? q = B.find? q) (q : Cn → Bool) : (A.filterMap conOf).find? q = (B.filterMap conOf).find? q := by
 rw [List.find?_filterMap, List.find?_filterMap, h]
theorem find_apps {A A2 B B2 : List Cn} (h1 : ∀ q, A.find? q = A2.find? q) (h2 : ∀ q, B.find? q = B2.find? q) (q : Cn → Bool) : (A ++ B).find? q = (A2 ++ B2).find? q := by
 rw [List.find?_append, List.find?_append, h1, h2]
def consO {wo : World} (ys : List (It wo)) : List Cn := (ys.map It.ex).filterMap conOf
theorem consO_yes {wo : World} (ys : List (It wo)) (x : It wo) (h : x.ex.kind = 2) : consO (ys ++ [x]) = consO ys ++ [(x.ex.name, x.ex.args.length)] := by simp [consO, conOf, h]
theorem consO_no {wo : World} (ys : List (It wo)) (x : It wo) (h : ¬ x.ex.kind = 2) : consO (ys ++ [x]) = consO ys := by simp [consO, conOf, h]
theorem consO_len {wo : World} (ys : List (It wo)) : (consO ys).length ≤ ys.length := by
 have := List.length_filterMap_le conOf (ys.map It.ex)
 simpa [consO] using this
theorem consAll_split {l : List Ru} {i : Nat} {r : Ru} (h : l[i]? = some r) : consAll l = consAll (l.take i) ++ (headOf r ++ (bodyOf r.body ++ consAll (l.drop (i + 1)))) := by
 obtain ⟨h1, h2⟩ := List.getElem?_eq_some_iff.1 h
 have : l = l.take i ++ (r :: l.drop (i + 1)) := by rw [← h2, ← List.drop_eq_getElem_cons h1, List.take_append_drop]
 conv => lhs; rw [this]
 simp [consAll, consRu]
theorem step_find {wo : World} {pre1 C : List Cn} {r : Ru} {ys : List (It wo)} (h1 : ∀ q, pre1.find? q = (C ++ headOf r).find? q) (h2 : ∀ q : Ex → Bool, (ys.map It.ex).find? q = (exNodes r.body).find? q) (q : Cn → Bool) : (pre1 ++ consO ys).find? q = (C ++ consRu r).find? q := by
 rw [consRu, ← List.append_assoc]
 exact find_apps h1 (find_map h2) q
theorem stop_find {wo : World} {pre1 : List Cn} {l : List Ru} {i : Nat} {r : Ru} {ys : List (It wo)} {rest : List Ex} (hg : l[i]? = some r) (h1 : ∀ q, pre1.find? q = (consAll (l.take i) ++ headOf r).find? q) (h2 : ∀ q : Ex → Bool, (ys.map It.ex ++ rest).find? q = (exNodes r.body).find? q) (q : Cn → Bool) : ((pre1 ++ consO ys) ++ (rest.filterMap conOf ++ consAll (l.drop (i + 1)))).find? q = (consAll l).find? q := by
 rw [consAll_split hg, show (pre1 ++ consO ys) ++ (rest.filterMap conOf ++ consAll (l.drop (i + 1))) = pre1 ++ ((ys.map It.ex ++ rest).filterMap conOf ++ consAll (l.drop (i + 1))) by simp [consO], ← List.append_assoc (consAll _)]
 exact find_apps h1 (find_apps (find_map h2) (fun _ => rfl)) q
theorem head_find {pre C : List Cn} {r : Ru} (h : ∀ q, pre.find? q = C.find? q) (hc : ¬ r.con.size = 0) (q : Cn → Bool) : (pre ++ [(r.con, r.vars.length)]).find? q = (C ++ headOf r).find? q := by
 rw [headOf, if_neg hc]
 exact find_apps h (fun _ => rfl) q
theorem nohead_find {pre C : List Cn} {r : Ru} (h : ∀ q, pre.find? q = C.find? q) (hc : r.con.size = 0) (q : Cn → Bool) : pre.find? q = (C ++ headOf r).find? q := by
 rw [headOf, if_pos hc, List.append_nil]
 exact h q
theorem halt_find {pre : List Cn} {l : List Ru} {i : Nat} {r : Ru} (hg : l[i]? = some r) (h : ∀ q, pre.find? q = (consAll (l.take i)).find? q) (hc : ¬ r.con.size = 0) (q : Cn → Bool) : ((pre ++ [(r.con, r.vars.length)]) ++ (bodyOf r.body ++ consAll (l.drop (i + 1)))).find? q = (consAll l).find? q := by
 rw [consAll_split hg, ← List.append_assoc (consAll _)]
 exact find_apps (head_find h hc) (fun _ => rfl) q
theorem asC_no (k : Int) (hk : ¬ k = 2) (v : Value) (w : World) : (Instr.typeAssert (.iface (formTy k) v) 91 98 true).run Tryz.prog w = .ok (.tuple #[.agg #[.string ⟨#[]⟩, .slice none 0 0], .bool false]) w := by
 unfold formTy
 by_cases h1 : k = 1
 · rw [if_pos h1]; exact asVC v w
 by_cases h3 : k = 3
 · rw [if_neg h1, if_neg hk, if_pos h3]; exact asKC v w
 by_cases h4 : k = 4
 · rw [if_neg h1, if_neg hk, if_neg h3, if_pos h4]; exact asSC v w
 rw [if_neg h1, if_neg hk, if_neg h3, if_neg h4]; exact asOC v w
section
variable {α : Type} {wo : World}
def Inn (G : List α → List Nat → World → Prop) (n₀ : Nat) (K : List Nat) (w1 : World) (pre : List α) (M : List Nat) (W : World) : Prop :=
 ∃ M', G pre M' W ∧ (∀ k ∈ M, k ∈ M') ∧ (∀ k ∈ K, k ∈ M' ∧ k ∉ M ∧ k < W.heap.size ∧ W.heap[k]? = w1.heap[k]?) ∧ (∀ k ∈ M', n₀ ≤ k ∧ (k ∈ M ∨ k < W.heap.size)) ∧ n₀ ≤ W.heap.size
theorem Inn.minds {G : List α → List Nat → World → Prop} {n₀ : Nat} {K : List Nat} {w1 : World} (hG : Minds G) : Minds (Inn G n₀ K w1) := by
 rintro pre M M2 A B ⟨M', g1, g2, g3, g4, g5⟩ hf hm
 refine ⟨M2 ++ M'.filter (fun k => decide (k < A.heap.size)), hG _ _ _ _ _ g1 (hf.mono (fun k hk => Or.inl (g2 k hk))) (fun k hk => ?_), fun k hk => by simp [hk], fun k hk => ?_, fun k hk => ?_, nT g5 hf.size⟩
 · simp only [List.mem_append, List.mem_filter] at hk
   rcases hk with hk | hk
   · exact (hm k hk).imp (g2 k) id
   exact Or.inl hk.1
 · obtain ⟨h1, h2, h3, h4⟩ := g3 k hk
   refine ⟨by simp [h1, h3], fun h => (hm k h).elim h2 (fun h => by omega), nL h3 hf.size, (hf.block k h3 h2).trans h4⟩
 simp only [List.mem_append, List.mem_filter, decide_eq_true_eq] at hk
 rcases hk with hk | hk
 · refine ⟨(hm k hk).elim (fun h => (g4 k (g2 k h)).1) (fun h => by omega), Or.inl hk⟩
 exact ⟨(g4 k hk.1).1, Or.inr (nL hk.2 hf.size)⟩
theorem Inn.turn {G2 : List α → List Nat → World → Prop} {n₀ : Nat} {K : List Nat} {w1 : World} {pre2 : List α} {M M' : List Nat} {W W2 : World} (g2 : ∀ k ∈ M, k ∈ M') (g3 : ∀ k ∈ K, k ∈ M' ∧ k ∉ M ∧ k < W.heap.size ∧ W.heap[k]? = w1.heap[k]?) (g4 : ∀ k ∈ M', n₀ ≤ k ∧ (k ∈ M ∨ k < W.heap.size)) (g5 : n₀ ≤ W.heap.size) (h : G2 pre2 M' W2) (hk : Kept n₀ M' W W2) : Inn G2 n₀ K w1 pre2 M W2 ∧ Kept n₀ M W W2 := by
 refine ⟨⟨M', h, g2, fun k hk2 => ?_, fun k hk2 => ⟨(g4 k hk2).1, (g4 k hk2).2.imp id (fun h => nL h hk.1.size)⟩, nT g5 hk.1.size⟩, hk.1, fun k hk2 => hk.2 k (g2 k hk2)⟩
 obtain ⟨h1, h2, h3, h4⟩ := g3 k hk2
 exact ⟨h1, h2, nL h3 hk.1.size, (hk.2 k h1).trans h4⟩
end
theorem yield_wide {F : Fence} {m : Nat} {P : Program} {l : Nat} {args : Array Value} {W : World} {R : Ending → World → Prop} (hF : F = Fence.wide) (h : YieldAt F m P l args W R) (l2 m2 : Nat) : YieldAt (F.inRound l2) m2 P l args W R := by
 subst hF
 obtain ⟨fn, tmps, assign, body, h1, h2, h3⟩ := h
 exact ⟨fn, tmps, assign, body, h1, h2, fun c cs _ => h3 c cs (fun d hd => by simp [Fence.wide] at hd)⟩
theorem RsIs.get2 {w : World} {A : Option Addr} {n c : Nat} {l : List Ru} {bs : List Nat} (h : RsIs w (.slice A n c) l bs) (k : Nat) (hk : k < l.length) : ∃ g o r v1 v2 u b, RuleAt w A l k g o r v1 v2 u b ∧ ∀ x ∈ b, x ∈ bs := by
 obtain ⟨A', c', e, h1, h2, h4⟩ := h
 cases e
 rcases h4 with ⟨rfl, -⟩ | ⟨g, o, bs', rfl, h5, rfl, h6⟩
 · simp at hk
 have hg : l[k]? = some l[k] := List.getElem?_eq_getElem hk
 obtain ⟨b1, ⟨v1, v2, u, h7, h8⟩, h9⟩ := h6.get l 0 bs' k _ hg
 rw [Nat.zero_add] at h7
 exact ⟨g, o, l[k], v1, v2, u, b1, ⟨rfl, h5, hg, List.getElem_mem hk, h7, h8⟩, fun x hx => List.mem_cons_of_mem _ (h9 x hx)⟩
end Go.Proofs.YtiaknfnhmoinpaaGreat
