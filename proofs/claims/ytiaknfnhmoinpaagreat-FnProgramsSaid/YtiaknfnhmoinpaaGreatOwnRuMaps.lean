/- A part of the proof of the seat's statement: OwnRuMaps. Condition: as each says. -/
import Derived.Test.YtiaknfnhmoinpaaGreatRuBack
import Derived.Test.YtiaknfnhmoinpaaGreatPlaceKey
import Derived.Test.YtiaknfnhmoinpaaGreatOwnSize
import Derived.Test.YtiaknfnhmoinpaaGreatAppStrs
set_option maxHeartbeats 8000000
namespace Go.Proofs.YtiaknfnhmoinpaaGreat
open Go Go.RowKit Go.Shelf
attribute [local go_sem] Oper.semAt_some
theorem rules_stops (F : Fence) (n : Nat) (hro : F.round = none) (hF : ∀ k, F.fn k) (hn : 1 ≤ n) (wo : World) (A : Option Addr) (m c : Nat) (L : List Ru) (bs : List Nat) (hsl : RsIs wo (.slice A m c) L bs) (b : Nat) (w : World) (hb : w.cell? ⟨b, 0, none⟩ = some (.slice A m c)) (hW : Below wo.heap.size wo w) :
 SeqF F n Tryz.prog 73 #[.pointer (some ⟨b, 0, none⟩)] (fun x : Rt wo => #[.int .i64 (x.1.1 : Int), x.val]) wo.heap.size (fun xs => xs.map Rt.pair = (numd 0 L).reverse) (fun _ => True) L.length [b] w := by
 intro l J Jx W hwW hJ hJx hY h0
 exact rback_in F n (hF _) hro hn l b wo A m c L bs hsl J Jx hY W ((hwW.cell (p := ⟨b, 0, none⟩) (World.block_lt_of_cell? w _ hb)).trans hb) (hW.trans (hwW.mono hW.size)) h0
theorem run_makeNums (n : Int) (w : World) : (Instr.makeMap 50 (some (.int .i64 n))).run Tryz.prog w = .ok (.map (some w.heap.size)) (w.alloc (.map #[] 0)) := by
 simp [Instr.makeMap, run_underlying Tryz.underlying50, asInt, asIntOf, Result.andThen]
theorem run_makeFirst (n : Int) (w : World) : (Instr.makeMap 52 (some (.int .i64 n))).run Tryz.prog w = .ok (.map (some w.heap.size)) (w.alloc (.map #[] 0)) := by
 simp [Instr.makeMap, run_underlying Tryz.underlying52, asInt, asIntOf, Result.andThen]
section
variable {wo : World}
def rkey (x : Rt wo) : Value := .agg #[.string x.ru.name, .string x.ru.con]
def rnum (x : Rt wo) : Value := .int .i64 (x.num : Int)
def rname (x : Rt wo) : Value := .string x.ru.name
def MapI (B mb : Nat) (bt : TypeId) (K : Value → Prop) (key val : Rt wo → Value) (pre : List (Rt wo)) (Fp : List Nat) (W : World) : Prop :=
 Fp = [B, mb] ∧ B ≠ mb ∧ Boxed W B bt (.map (some mb)) ∧ ∃ M, MapIs W mb M ∧ (∀ x ∈ M, K x.1) ∧ Firsts key val pre.reverse M
theorem mapi_foot (B mb : Nat) (bt : TypeId) (K : Value → Prop) (key val : Rt wo → Value) (pre : List (Rt wo)) : Foot (MapI B mb bt K key val pre) := by
 rintro Fp X Y ⟨rfl, hne, h1, M, h2, h3⟩ _ hk
 exact ⟨rfl, hne, box_on h1 (hk B (by simp)), M, h2.on (hk mb (by simp)), h3⟩
def Ruled (I : List (Rt wo) → List Nat → World → Prop) (tm : Nat → Rt wo → Array Value) (ks : List (Rt wo)) (x : Rt wo) (a : Act) (Fp : List Nat) (X : World) : Prop := ∃ nb Fp0, Fp = nb :: Fp0 ∧ X.heap[nb]? = some (.cells #[.string x.1.2.1.name, .string x.1.2.1.con, x.1.2.2.1, x.1.2.2.2.1, .int .i64 x.1.2.1.body.kind, .string x.1.2.1.body.name, x.1.2.2.2.2.1] 34 (0, 0)) ∧ nb ∉ Fp0 ∧ I ks Fp0 X ∧ a = { tmps := tm nb x, defers := [] }
theorem ruled_foot {I : List (Rt wo) → List Nat → World → Prop} (hI : ∀ ks, Foot (I ks)) (tm : Nat → Rt wo → Array Value) (ks : List (Rt wo)) (x : Rt wo) (a : Act) : Foot (Ruled I tm ks x a) := by
 rintro Fp X Y ⟨nb, Fp0, rfl, h1, h2, h3, h4⟩ hs hk
 exact ⟨nb, Fp0, rfl, (hk nb (by simp)).trans h1, h2, hI ks Fp0 X Y h3 hs (fun k h => hk k (by simp [h])), h4⟩
theorem Rt.slices (x : Rt wo) : ∃ A1 c1 A2 c2 A3 c3, x.1.2.2.1 = .slice A1 x.ru.vars.length c1 ∧ x.1.2.2.2.1 = .slice A2 x.ru.params.length c2 ∧ x.1.2.2.2.2.1 = .slice A3 x.ru.body.args.length c3 ∧ (c1 : Int) ≤ 9223372036854775807 ∧ (c2 : Int) ≤ 9223372036854775807 ∧ (c3 : Int) ≤ 9223372036854775807 ∧ (x.ru.vars.length ≤ c1 ∧ x.ru.params.length ≤ c2 ∧ x.ru.body.args.length ≤ c3) := by
 obtain ⟨b1, b2, b3, -, -, -, h1, h2, h3⟩ := x.2.parts
 obtain ⟨A1, c1, e1, l1, k1, -⟩ := h1
 obtain ⟨A2, c2, e2, l2, k2, -⟩ := h2
 obtain ⟨u, e3, -, A3, c3, e4, l3, k3, -⟩ := h3
 simp only [Value.agg.injEq, Array.mk.injEq, List.cons.injEq, and_true, true_and] at e3
 rw [← e3] at e4
 exact ⟨A1, c1, A2, c2, A3, c3, e1, e2, e4, by omega, by omega, by omega, l1, l2, l3⟩
theorem ruled_new {I : List (Rt wo) → List Nat → World → Prop} (hI : ∀ ks, Foot (I ks)) {tm : Nat → Rt wo → Array Value} {ks : List (Rt wo)} {x : Rt wo} {Fp : List Nat} {X : World} (h : I ks Fp X) (hFp : ∀ k ∈ Fp, k < X.heap.size) {v1 v2 u : Value} (hv1 : x.1.2.2.1 = v1) (hv2 : x.1.2.2.2.1 = v2) (hu : x.1.2.2.2.2.1 = u) {a : Act} (ha : a = { tmps := tm X.heap.size x, defers := [] }) :
 Fr Fp X (X.alloc (.cells #[.string x.1.2.1.name, .string x.1.2.1.con, v1, v2, .int .i64 x.1.2.1.body.kind, .string x.1.2.1.body.name, u] 34)) ∧ (∀ k ∈ X.heap.size :: Fp, (k ∈ Fp ∨ X.heap.size ≤ k) ∧ k < (X.alloc (.cells #[.string x.1.2.1.name, .string x.1.2.1.con, v1, v2, .int .i64 x.1.2.1.body.kind, .string x.1.2.1.body.name, u] 34)).heap.size) ∧ Ruled I tm ks x a (X.heap.size :: Fp) (X.alloc (.cells #[.string x.1.2.1.name, .string x.1.2.1.con, v1, v2, .int .i64 x.1.2.1.body.kind, .string x.1.2.1.body.name, u] 34)) := by
 subst hv1 hv2 hu
 refine ⟨Fr.alloc _ _, fun k hk => ?_, X.heap.size, Fp, rfl, World.alloc_heap_new X _, fun hm => by have := hFp _ hm; omega, hI ks Fp X _ h (by simp) (fun k hk => Below.heap_alloc X _ k (hFp k hk)), ha⟩
 rcases List.mem_cons.1 hk with rfl | hk
 · exact ⟨Or.inr (nR _), by simp⟩
 exact ⟨Or.inl hk, by have := hFp k hk; simp; omega⟩
theorem map_step {B mb nb : Nat} {bt : TypeId} {K : Value → Prop} {key val : Rt wo → Value} {pre : List (Rt wo)} {x : Rt wo} {M L2 : List (Value × Value)} {X W5 : World} (hne : B ≠ mb) (hB : Boxed X B bt (.map (some mb))) (hmi : MapIs X mb M) (hK : ∀ x ∈ M, K x.1) (hF : Firsts key val pre.reverse M) (hk : K (key x))
 (h2 : MapIs W5 mb L2) (hp : Put M (key x) (val x) L2) (hg : X.grownBy W5 (some mb)) :
 ∃ Fp2, Fr [nb, B, mb] X W5 ∧ (∀ k ∈ Fp2, (k ∈ [nb, B, mb] ∨ X.heap.size ≤ k) ∧ k < W5.heap.size) ∧ MapI B mb bt K key val (pre ++ [x]) Fp2 W5 := by
 refine ⟨[B, mb], Fr.grown hg (fun k e => by cases e; simp), fun k hk => ?_, rfl, hne, box_on hB (hg.block B hB.lt (fun e => hne (Option.some.inj e))), L2, h2, hp.nodup_keys hK hk, ?_⟩
 · simp at hk
   rcases hk with rfl | rfl
   · exact ⟨Or.inl (by simp), nL hB.lt hg.size⟩
   exact ⟨Or.inl (by simp), h2.lt⟩
 obtain ⟨es, clock, -, -, hn⟩ := hmi
 rw [List.reverse_append]
 exact hF.cons hn hp
end
theorem start_map (w W0 : World) (u : Value) (bt st pt : TypeId) (sl : Value) (h : W0 = (((w.alloc (.cells #[u] pt)).alloc (.map #[] 0)).alloc (.cells #[.map (some (w.heap.size + 1))] bt)).alloc (.cells #[sl] st)) :
 W0.heap.size = w.heap.size + 4 ∧ Below w.heap.size w W0 ∧ Boxed W0 (w.heap.size + 1 + 1) bt (.map (some (w.heap.size + 1))) ∧ MapIs W0 (w.heap.size + 1) [] ∧ W0.cell? ⟨w.heap.size + 1 + 1 + 1, 0, none⟩ = some sl := by
 subst h
 have b1 := MapIs.made (w.alloc (.cells #[u] pt))
 have b2 := Boxed.new ((w.alloc (.cells #[u] pt)).alloc (.map #[] 0)) bt (.map (some (w.heap.size + 1)))
 have b3 := Boxed.new (((w.alloc (.cells #[u] pt)).alloc (.map #[] 0)).alloc (.cells #[.map (some (w.heap.size + 1))] bt)) st sl
 simp only [World.size_alloc] at b1 b2 b3
 refine ⟨by simp, ((((wB _ w).alloc (nR _) _).alloc (by simp) _).alloc (by simp; omega) _).alloc (by simp; omega) _, b2.alloc _, ?_, b3.cell⟩
 exact b1.on ((Below.heap_alloc _ _ _ (by simp)).trans (Below.heap_alloc _ _ _ (by simp)))
def MapPost (l : List Ru) (K : Value → Prop) (key val : ∀ {wo : World}, Rt wo → Value) (w : World) (e : Ending) (w2 : World) : Prop :=
 ∃ (mb : Nat) (M : List (Value × Value)) (xs : List (Rt w)), e = .returned (.map (some mb)) ∧ MapIs w2 mb M ∧ (∀ x ∈ M, K x.1) ∧ xs.map Rt.pair = numd 0 l ∧ Firsts key val xs M ∧ w.heap.size ≤ mb ∧ Below w.heap.size w w2
set_option maxRecDepth 100000 in
theorem nums_in (F : Fence) (n : Nat) (hFw : F = Fence.wide) (hro : F.round = none) (hF : ∀ k, F.fn k) (hn : 9 ≤ n) (l : List Ru) (v : Value) (bs : List Nat) (w : World) (hv : PrIs w v l bs) (hb : l.length ≤ 1099511627776) :
 CallsIn F n Tryz.prog 25 #[v] w (MapPost l TwoK rkey rnum w) := by
 obtain ⟨u, rfl, hu⟩ := hv
 obtain ⟨A, c, rfl, hc1, hc2, -⟩ := id hu
 have HU := zH hu
 have h1 : 1 ≤ n := by omega
 have HFW := zH hFw
 obtain ⟨m, hm⟩ : ∃ m, m = l.length := ⟨_, rfl⟩
 rw [← hm] at HU hc1 hb ⊢
 have HM := zH hm
 have hm2 : (m : Int) ≤ 1099511627776 := by omega
 have hmk := run_makeNums
 clear hu hFw hm
 refine callsIn_of_wp_marks Tryz.func25 rfl (hF _) ?_ hro
 simp only [Tryz.ntmps25, List.size_toArray, lC, List.length_nil, Nat.reduceAdd, Nat.reduceSub, Array.replicate_succ, Array.replicate_zero, List.push_toArray, List.append_toArray, List.nil_append, List.cons_append]
 gi_wp2_with (gi_at_call 52; refine (rbackward_in F (n - 1) (hF _) hro _ _ _ _).mono ?_; rintro r w4 ⟨rfl, rfl⟩)
 obtain ⟨W0, hW0⟩ : ∃ W0, W0 = (((w.alloc (.cells #[.slice A m c] 26)).alloc (.map #[] 0)).alloc (.cells #[.map (some (w.heap.size + 1))] 50)).alloc (.cells #[.slice A m c] 24) := ⟨_, rfl⟩
 rw [← hW0]
 have HX := zH (start_map w W0 _ _ _ _ _ hW0)
 clear hW0 hmk
 have hx1 := HX.out.1
 refine wpIn_rangeFunc_frame hro h1 (gf := 73) (lb := #[.pointer (some ⟨w.heap.size + 1 + 1 + 1, 0, none⟩)]) rfl (hF _) (enters_of Tryz.func73 (by kernel_rfl) rfl)
  (rules_stops F (n - 1) hro hF (by omega) w A m c l bs HU.out (w.heap.size + 1 + 1 + 1) W0 HX.out.2.2.2.2 HX.out.2.1) (wB _ _) (by omega) (by simp; omega) (fun _ => rfl)
  (MapI (w.heap.size + 1 + 1) (w.heap.size + 1) 50 TwoK rkey rnum) (fun _ _ _ _ => False) (mapi_foot (w.heap.size + 1 + 1) (w.heap.size + 1) 50 TwoK rkey rnum) (fun _ _ _ _ _ h _ _ => h) [w.heap.size + 1 + 1, w.heap.size + 1] (fun k hk => by simp at hk; rcases hk with rfl | rfl <;> simp <;> omega) ⟨rfl, by omega, HX.out.2.2.1, [], HX.out.2.2.2.1, (fun x hx => by cases hx), firsts_nil⟩
  (Ruled (MapI (w.heap.size + 1 + 1) (w.heap.size + 1) 50 TwoK rkey rnum) (fun nb x => #[.agg #[.slice A m c], .pointer (some ⟨w.heap.size, 0, none⟩), .map none, .pointer (some ⟨w.heap.size + 1 + 1, 0, none⟩), .int .i64 (x.1.1 : Int), .pointer (some ⟨nb, 0, none⟩), .pointer (some ⟨w.heap.size, 0, none⟩), .slice A m c, .int .i64 (m : Int), .map (some (w.heap.size + 1)), .pointer (some ⟨w.heap.size, 0, none⟩), .slice A m c, .func (.func 73) #[] #[.pointer (some ⟨w.heap.size + 1 + 1 + 1, 0, none⟩)], .int .i64 (x.1.1 : Int), x.val, undef, undef, undef, undef, undef, undef, undef, undef])) (ruled_foot (mapi_foot (w.heap.size + 1 + 1) (w.heap.size + 1) 50 TwoK rkey rnum) _) ?assign ?body ?done ?stop
 case assign =>
  intro l2 pre x Fp X KX hI hFp hFr hK
  have HI := zH hI
  have HFP := zH hFp
  have HKX := zH hK
  obtain ⟨A1, d1, A2, d2, A3, d3, hv1, hv2, hv3, -⟩ := x.slices
  have hv : x.val = .agg #[.string x.1.2.1.name, .string x.1.2.1.con, .slice A1 x.ru.vars.length d1, .slice A2 x.ru.params.length d2, .int .i64 x.1.2.1.body.kind, .string x.1.2.1.body.name, .slice A3 x.ru.body.args.length d3] := by rw [← hv1, ← hv2, ← hv3]; rfl
  have HV1 := zH hv1
  have HV2 := zH hv2
  have HV3 := zH hv3
  have HV := zH hv
  dsimp only
  rw [hv]
  clear hI hFp hFr hK hv hv1 hv2 hv3
  gi_wp2
  obtain ⟨q1, q2, q3⟩ := ruled_new (mapi_foot (w.heap.size + 1 + 1) (w.heap.size + 1) 50 TwoK rkey rnum) (tm := (fun nb x => #[.agg #[.slice A m c], .pointer (some ⟨w.heap.size, 0, none⟩), .map none, .pointer (some ⟨w.heap.size + 1 + 1, 0, none⟩), .int .i64 (x.1.1 : Int), .pointer (some ⟨nb, 0, none⟩), .pointer (some ⟨w.heap.size, 0, none⟩), .slice A m c, .int .i64 (m : Int), .map (some (w.heap.size + 1)), .pointer (some ⟨w.heap.size, 0, none⟩), .slice A m c, .func (.func 73) #[] #[.pointer (some ⟨w.heap.size + 1 + 1 + 1, 0, none⟩)], .int .i64 (x.1.1 : Int), x.val, undef, undef, undef, undef, undef, undef, undef, undef])) HI.out (fun k hk => (HFP.out k hk).2) HV1.out HV2.out HV3.out rfl
  refine HKX.out _ _ _ q1 q2 ?_
  exact (by simpa only [HV.out] using q3)
 case body =>
  rintro l2 pre x _ Fp X ⟨nb, _, rfl, hnx, hnb, ⟨rfl, hne, hB, M, hmi, hKM, hFs⟩, rfl⟩ hFp hFr hlen
  have hn3 : 1 ≤ n - 1 - 1 := by omega
  have hn0 : X.cell? ⟨nb, 0, none⟩ = some (.string x.1.2.1.name) := by simp [World.cell?, hnx]
  have hn1 : X.cell? ⟨nb, 1, none⟩ = some (.string x.1.2.1.con) := by simp [World.cell?, hnx]
  have hc := hB.cell
  have HB := zH hB
  have HMI := zH hmi
  have HKM := zH hKM
  have HFS := zH hFs
  have HNE := zH hne
  clear hB hmi hKM hFs hne hnx hFp hFr hnb
  gi_wp2_with (gi_at_mapUpdate; refine asc_put_in _ rfl _ _ _ 50 rfl 60 3 Tryz.underlying50 TwoK (twoT X) (w.heap.size + 1) M rfl HMI.out _ _ rfl rfl ⟨_, _, rfl⟩ HKM.out ?_; intro W5 L2 hmi5 hput5 hgr5; have HM5 := zH hmi5; have HP5 := zH hput5; have HG5 := zH hgr5; clear hmi5 hput5 hgr5)
  exact map_step HNE.out HB.out HMI.out HKM.out HFS.out ⟨_, _, rfl⟩ HM5.out HP5.out HG5.out
 case done =>
  rintro D ks Fp X hD hDF hFl hS ⟨rfl, hne, hB, M, hmi, hKM, hFs⟩ hFr hK
  have hc := hB.cell
  have HMI := zH hmi
  have HKM := zH hKM
  have HFS := zH hFs
  have HS := zH (show ks.reverse.map Rt.pair = numd 0 l by rw [List.map_reverse, hS, List.reverse_reverse])
  have HK := zH hK
  have HFR := zH hFr
  clear hB hmi hKM hFs hne hK hFr hS hFl hDF
  gi_wp2
  refine ⟨by simp, .inl ⟨_, _, rfl, run_takeDeferred HK.out, ?_⟩⟩
  refine ⟨_, results_tmp rfl _ _ _, w.heap.size + 1, M, ks.reverse, rfl, HMI.out.on (World.putObj_heap_other (by omega)), HKM.out, HS.out, HFS.out, by omega, ?_⟩
  exact (HX.out.2.1.trans (HFR.out.below (by simp; omega) (by omega))).trans ((Fr.put (S := [D]) X _ _ (by simp)).below (by simp; omega) (by have := HFR.out.size; omega))
 case stop =>
  rintro D c pre Fp X _ _ _ _ h _ _
  exact h.elim
set_option maxRecDepth 100000 in
theorem first_in (F : Fence) (n : Nat) (hFw : F = Fence.wide) (hro : F.round = none) (hF : ∀ k, F.fn k) (hn : 9 ≤ n) (l : List Ru) (v : Value) (bs : List Nat) (w : World) (hv : PrIs w v l bs) (hb : l.length ≤ 1099511627776) :
 CallsIn F n Tryz.prog 29 #[v] w (MapPost l StrK rname Rt.val w) := by
 obtain ⟨u, rfl, hu⟩ := hv
 obtain ⟨A, c, rfl, hc1, hc2, -⟩ := id hu
 have HU := zH hu
 have h1 : 1 ≤ n := by omega
 have HFW := zH hFw
 obtain ⟨m, hm⟩ : ∃ m, m = l.length := ⟨_, rfl⟩
 rw [← hm] at HU hc1 hb ⊢
 have HM := zH hm
 have hm2 : (m : Int) ≤ 1099511627776 := by omega
 have hmk := run_makeFirst
 clear hu hFw hm
 refine callsIn_of_wp_marks Tryz.func29 rfl (hF _) ?_ hro
 simp only [Tryz.ntmps29, List.size_toArray, lC, List.length_nil, Nat.reduceAdd, Nat.reduceSub, Array.replicate_succ, Array.replicate_zero, List.push_toArray, List.append_toArray, List.nil_append, List.cons_append]
 gi_wp2_with (gi_at_call 52; refine (rbackward_in F (n - 1) (hF _) hro _ _ _ _).mono ?_; rintro r w4 ⟨rfl, rfl⟩)
 obtain ⟨W0, hW0⟩ : ∃ W0, W0 = (((w.alloc (.cells #[.slice A m c] 26)).alloc (.map #[] 0)).alloc (.cells #[.map (some (w.heap.size + 1))] 52)).alloc (.cells #[.slice A m c] 24) := ⟨_, rfl⟩
 rw [← hW0]
 have HX := zH (start_map w W0 _ _ _ _ _ hW0)
 clear hW0 hmk
 have hx1 := HX.out.1
 refine wpIn_rangeFunc_frame hro h1 (gf := 73) (lb := #[.pointer (some ⟨w.heap.size + 1 + 1 + 1, 0, none⟩)]) rfl (hF _) (enters_of Tryz.func73 (by kernel_rfl) rfl)
  (rules_stops F (n - 1) hro hF (by omega) w A m c l bs HU.out (w.heap.size + 1 + 1 + 1) W0 HX.out.2.2.2.2 HX.out.2.1) (wB _ _) (by omega) (by simp; omega) (fun _ => rfl)
  (MapI (w.heap.size + 1 + 1) (w.heap.size + 1) 52 StrK rname Rt.val) (fun _ _ _ _ => False) (mapi_foot (w.heap.size + 1 + 1) (w.heap.size + 1) 52 StrK rname Rt.val) (fun _ _ _ _ _ h _ _ => h) [w.heap.size + 1 + 1, w.heap.size + 1] (fun k hk => by simp at hk; rcases hk with rfl | rfl <;> simp <;> omega) ⟨rfl, by omega, HX.out.2.2.1, [], HX.out.2.2.2.1, (fun x hx => by cases hx), firsts_nil⟩
  (Ruled (MapI (w.heap.size + 1 + 1) (w.heap.size + 1) 52 StrK rname Rt.val) (fun nb x => #[.agg #[.slice A m c], .pointer (some ⟨w.heap.size, 0, none⟩), .map none, .pointer (some ⟨w.heap.size + 1 + 1, 0, none⟩), undef, .pointer (some ⟨nb, 0, none⟩), .pointer (some ⟨w.heap.size, 0, none⟩), .slice A m c, .int .i64 (m : Int), .map (some (w.heap.size + 1)), .pointer (some ⟨w.heap.size, 0, none⟩), .slice A m c, .func (.func 73) #[] #[.pointer (some ⟨w.heap.size + 1 + 1 + 1, 0, none⟩)], .int .i64 (x.1.1 : Int), x.val, undef, undef, undef, undef, undef])) (ruled_foot (mapi_foot (w.heap.size + 1 + 1) (w.heap.size + 1) 52 StrK rname Rt.val) _) ?assign ?body ?done ?stop
 case assign =>
  intro l2 pre x Fp X KX hI hFp hFr hK
  have HI := zH hI
  have HFP := zH hFp
  have HKX := zH hK
  obtain ⟨A1, d1, A2, d2, A3, d3, hv1, hv2, hv3, -⟩ := x.slices
  have hv : x.val = .agg #[.string x.1.2.1.name, .string x.1.2.1.con, .slice A1 x.ru.vars.length d1, .slice A2 x.ru.params.length d2, .int .i64 x.1.2.1.body.kind, .string x.1.2.1.body.name, .slice A3 x.ru.body.args.length d3] := by rw [← hv1, ← hv2, ← hv3]; rfl
  have HV1 := zH hv1
  have HV2 := zH hv2
  have HV3 := zH hv3
  have HV := zH hv
  dsimp only
  rw [hv]
  clear hI hFp hFr hK hv hv1 hv2 hv3
  gi_wp2
  obtain ⟨q1, q2, q3⟩ := ruled_new (mapi_foot (w.heap.size + 1 + 1) (w.heap.size + 1) 52 StrK rname Rt.val) (tm := (fun nb x => #[.agg #[.slice A m c], .pointer (some ⟨w.heap.size, 0, none⟩), .map none, .pointer (some ⟨w.heap.size + 1 + 1, 0, none⟩), undef, .pointer (some ⟨nb, 0, none⟩), .pointer (some ⟨w.heap.size, 0, none⟩), .slice A m c, .int .i64 (m : Int), .map (some (w.heap.size + 1)), .pointer (some ⟨w.heap.size, 0, none⟩), .slice A m c, .func (.func 73) #[] #[.pointer (some ⟨w.heap.size + 1 + 1 + 1, 0, none⟩)], .int .i64 (x.1.1 : Int), x.val, undef, undef, undef, undef, undef])) HI.out (fun k hk => (HFP.out k hk).2) HV1.out HV2.out HV3.out rfl
  refine HKX.out _ _ _ q1 q2 ?_
  exact (by simpa only [HV.out] using q3)
 case body =>
  rintro l2 pre x _ Fp X ⟨nb, _, rfl, hnx, hnb, ⟨rfl, hne, hB, M, hmi, hKM, hFs⟩, rfl⟩ hFp hFr hlen
  have hn3 : 1 ≤ n - 1 - 1 := by omega
  have hn0 : X.cell? ⟨nb, 0, none⟩ = some (.string x.1.2.1.name) := by simp [World.cell?, hnx]
  have hn1 : X.cell? ⟨nb, 1, none⟩ = some (.string x.1.2.1.con) := by simp [World.cell?, hnx]
  have hn2 : X.cell? ⟨nb, 2, none⟩ = some (x.1.2.2.1) := by simp [World.cell?, hnx]
  have hn3 : X.cell? ⟨nb, 3, none⟩ = some (x.1.2.2.2.1) := by simp [World.cell?, hnx]
  have hn4 : X.cell? ⟨nb, 4, none⟩ = some (.int .i64 x.1.2.1.body.kind) := by simp [World.cell?, hnx]
  have hn5 : X.cell? ⟨nb, 5, none⟩ = some (.string x.1.2.1.body.name) := by simp [World.cell?, hnx]
  have hn6 : X.cell? ⟨nb, 6, none⟩ = some (x.1.2.2.2.2.1) := by simp [World.cell?, hnx]
  have hc := hB.cell
  have HB := zH hB
  have HMI := zH hmi
  have HKM := zH hKM
  have HFS := zH hFs
  have HNE := zH hne
  clear hB hmi hKM hFs hne hnx hFp hFr hnb
  gi_wp2_with (gi_at_mapUpdate; refine asc_put_in _ rfl _ _ _ 52 rfl 9 34 Tryz.underlying52 StrK (strT X) (w.heap.size + 1) M rfl HMI.out _ _ rfl rfl ⟨_, rfl⟩ HKM.out ?_; intro W5 L2 hmi5 hput5 hgr5; have HM5 := zH hmi5; have HP5 := zH hput5; have HG5 := zH hgr5; clear hmi5 hput5 hgr5)
  exact map_step HNE.out HB.out HMI.out HKM.out HFS.out ⟨_, rfl⟩ HM5.out HP5.out HG5.out
 case done =>
  rintro D ks Fp X hD hDF hFl hS ⟨rfl, hne, hB, M, hmi, hKM, hFs⟩ hFr hK
  have hc := hB.cell
  have HMI := zH hmi
  have HKM := zH hKM
  have HFS := zH hFs
  have HS := zH (show ks.reverse.map Rt.pair = numd 0 l by rw [List.map_reverse, hS, List.reverse_reverse])
  have HK := zH hK
  have HFR := zH hFr
  clear hB hmi hKM hFs hne hK hFr hS hFl hDF
  gi_wp2
  refine ⟨by simp, .inl ⟨_, _, rfl, run_takeDeferred HK.out, ?_⟩⟩
  refine ⟨_, results_tmp rfl _ _ _, w.heap.size + 1, M, ks.reverse, rfl, HMI.out.on (World.putObj_heap_other (by omega)), HKM.out, HS.out, HFS.out, by omega, ?_⟩
  exact (HX.out.2.1.trans (HFR.out.below (by simp; omega) (by omega))).trans ((Fr.put (S := [D]) X _ _ (by simp)).below (by simp; omega) (by have := HFR.out.size; omega))
 case stop =>
  rintro D c pre Fp X _ _ _ _ h _ _
  exact h.elim
end Go.Proofs.YtiaknfnhmoinpaaGreat
