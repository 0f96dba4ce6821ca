/- A part of the proof of the seat's statement: Shelf. Condition: as each says. -/
import Derived.Test.YthljhiklpopmgaaGreatDoorOwnRuCon
import Derived.Test.YthljhiklpopmgaaGreatDoorOwnRuFind
import Derived.Deep.RegionLaw
import Derived.Shelf.Strings.Builder1
import Derived.Shelf.Strings.Builder2
import Derived.Shelf.Strings.OnBuilder
import Derived.Shelf.Small.Utf8
import Derived.Shelf.Small.Strs
import Derived.Shelf.Strings.BuilderF
import Derived.Shelf.Strings.BuilderK
import Derived.Shelf.Strings.Builder2Cap
import Derived.Shelf.Strings.Search1
import Derived.Shelf.Strings.Search2
import Derived.Shelf.Strings.Cut
import Derived.Shelf.LaysM
import Derived.Shelf.Strings.Shaped
import Derived.Shelf.Strings.Prefix
import Derived.Shelf.Strings.Runes
import Derived.Shelf.Strings.IndexAny
import Derived.Shelf.Strings.AsciiSet
import Derived.Shelf.Strings.IndexAnyAll
import Derived.Shelf.Strings.BuilderCap
import Derived.Shelf.Slices.Turned
import Derived.Test.YthljhiklpopmgaaGreatDoorProg
set_option maxHeartbeats 8000000
namespace Go.Proofs.YthljhiklpopmgaaGreatDoor
open Go Go.RowKit Go.Shelf
attribute [local go_sem] Oper.semAt_some
def ckey (x : Cn) : Value := .string x.1
def cval (x : Cn) : Value := .int .i64 (x.2 : Int)
def CmI (B mb : Nat) (pre : List Cn) (Fp : List Nat) (W : World) : Prop := Fp = [B, mb] ∧ B ≠ mb ∧ Boxed W B 136 (.map (some mb)) ∧ ∃ M, MapIs W mb M ∧ (∀ x ∈ M, StrK x.1) ∧ Firsts ckey cval pre M
theorem cmi_foot (B mb : Nat) (pre : List Cn) : Foot (CmI B mb pre) := by
 rintro Fp X Y ⟨rfl, hne, h1, M, h2, h3⟩ _ hk
 exact ⟨rfl, hne, box_on h1 (hk B (by simp)), M, h2.on (hk mb (by simp)), h3⟩
theorem run_makeCon (w : World) : (Instr.makeMap 136 none).run Tryz.prog w = .ok (.map (some w.heap.size)) (w.alloc (.map #[] 0)) := by
 simp [Instr.makeMap]
theorem zeroInt (w : World) : (zeroValue 3).run Tryz.prog w = .ok (.int .i64 0) w := by kernel_rfl
theorem dem_start (w : World) (A : Option Addr) (m c : Nat) (W0 : World) (h : W0 = ((((w.alloc (.cells #[.slice A m c] 24)).alloc (.cells #[.map none, .map none] 138)).alloc (.map #[] 0)).alloc (.cells #[.map (some (w.heap.size + 2))] 136)).alloc (.cells #[.slice A m c] 24)) :
 W0.heap.size = w.heap.size + 5 ∧ Below w.heap.size w W0 ∧ Boxed W0 w.heap.size 24 (.slice A m c) ∧ W0.heap[w.heap.size + 1]? = some (.cells #[.map none, .map none] 138 (0, 0)) ∧ MapIs W0 (w.heap.size + 2) [] ∧ Boxed W0 (w.heap.size + 3) 136 (.map (some (w.heap.size + 2))) ∧ W0.cell? ⟨w.heap.size + 4, 0, none⟩ = some (.slice A m c) := by
 obtain ⟨a1, h1⟩ : ∃ a1, a1 = w.alloc (.cells #[.slice A m c] 24) := ⟨_, rfl⟩
 obtain ⟨a2, h2⟩ : ∃ a2, a2 = a1.alloc (.cells #[.map none, .map none] 138) := ⟨_, rfl⟩
 obtain ⟨a3, h3⟩ : ∃ a3, a3 = a2.alloc (.map #[] 0) := ⟨_, rfl⟩
 obtain ⟨a4, h4⟩ : ∃ a4, a4 = a3.alloc (.cells #[.map (some (w.heap.size + 2))] 136) := ⟨_, rfl⟩
 rw [← h1, ← h2, ← h3, ← h4] at h
 have s1 : a1.heap.size = w.heap.size + 1 := by rw [h1]; simp
 have s2 : a2.heap.size = w.heap.size + 2 := by rw [h2]; simp [s1]
 have s3 : a3.heap.size = w.heap.size + 3 := by rw [h3]; simp [s2]
 have s4 : a4.heap.size = w.heap.size + 4 := by rw [h4]; simp [s3]
 have s5 : W0.heap.size = w.heap.size + 5 := by rw [h]; simp [s4]
 have b1 := Boxed.new w 24 (.slice A m c)
 rw [← h1] at b1
 have b2 := World.alloc_heap_new a1 (.cells #[.map none, .map none] 138)
 rw [← h2, s1] at b2
 have b3 := MapIs.made a2
 rw [← h3, s2] at b3
 have b4 := Boxed.new a3 136 (.map (some (w.heap.size + 2)))
 rw [← h4, s3] at b4
 have b5 := Boxed.new a4 24 (.slice A m c)
 rw [← h, s4] at b5
 have k2 : ∀ j, j < w.heap.size + 1 → a2.heap[j]? = a1.heap[j]? := fun j hj => by rw [h2]; exact Below.heap_alloc _ _ _ (by omega)
 have k3 : ∀ j, j < w.heap.size + 2 → a3.heap[j]? = a2.heap[j]? := fun j hj => by rw [h3]; exact Below.heap_alloc _ _ _ (by omega)
 have k4 : ∀ j, j < w.heap.size + 3 → a4.heap[j]? = a3.heap[j]? := fun j hj => by rw [h4]; exact Below.heap_alloc _ _ _ (by omega)
 have k5 : ∀ j, j < w.heap.size + 4 → W0.heap[j]? = a4.heap[j]? := fun j hj => by rw [h]; exact Below.heap_alloc _ _ _ (by omega)
 refine ⟨s5, ?_, box_on b1 ((k5 _ (by omega)).trans ((k4 _ (by omega)).trans ((k3 _ (by omega)).trans (k2 _ (by omega))))), (k5 _ (by omega)).trans ((k4 _ (by omega)).trans ((k3 _ (by omega)).trans b2)), b3.on ((k5 _ (by omega)).trans (k4 _ (by omega))), box_on b4 (k5 _ (by omega)), b5.cell⟩
 rw [h, h4, h3, h2, h1]
 exact (((((Below.refl _ w).alloc (Nat.le_refl _) _).alloc (by simp <;> omega) _).alloc (by simp <;> omega) _).alloc (by simp <;> omega) _).alloc (by simp <;> omega) _
theorem Firsts.same {α : Type} {key val : α → Value} {F : List α} {M : List (Value × Value)} {x : α} (h : Firsts key val F M) (ho : ∃ y ∈ M, y.1 = key x) : Firsts key val (F ++ [x]) M := by
 refine ⟨h.more ho, by have := h.len.1; simp; omega, ⟨fun e => ?_, fun hn => ?_⟩⟩
 · have := h.len.1
   simp at e
   omega
 obtain ⟨p, hp, hk⟩ := (h.keys (key x)).1 ho
 rw [List.map_append, List.map_cons, List.map_nil, List.nodup_append] at hn
 exact absurd rfl (hn.2.2 _ (List.mem_map_of_mem hp) (key x) (by simp) |> fun hh => by rw [hk] at hh; exact hh)
theorem cm_same {B mb : Nat} {pre : List Cn} {x : Cn} {M : List (Value × Value)} {X : World} {z v : Value} (hne : B ≠ mb) (hB : Boxed X B 136 (.map (some mb))) (hmi : MapIs X mb M) (hK : ∀ x ∈ M, StrK x.1) (hF : Firsts ckey cval pre M) (hit : Hits M (.string x.1) z v true) :
 ∃ Fp2, Fr [B, mb] X X ∧ (∀ k ∈ Fp2, (k ∈ [B, mb] ∨ X.heap.size ≤ k) ∧ k < X.heap.size) ∧ CmI B mb (pre ++ [x]) Fp2 X := by
 refine ⟨[B, mb], Fr.refl _ _, fun k hk => ?_, rfl, hne, hB, M, hmi, hK, hF.same ?_⟩
 · refine ⟨Or.inl hk, ?_⟩
   simp at hk
   rcases hk with rfl | rfl
   · exact hB.lt
   exact hmi.lt
 rcases hit with ⟨h, -⟩ | ⟨-, -, h⟩
 · exact ⟨_, h, rfl⟩
 cases h
theorem cm_step {B mb : Nat} {pre : List Cn} {x : Cn} {M L2 : List (Value × Value)} {X W5 : World} {z v : Value} (hne : B ≠ mb) (hB : Boxed X B 136 (.map (some mb))) (hmi : MapIs X mb M) (hK : ∀ x ∈ M, StrK x.1) (hF : Firsts ckey cval pre M) (hit : Hits M (.string x.1) z v false)
 (h2 : MapIs W5 mb L2) (hp : Put M (.string x.1) (.int .i64 (x.2 : Int)) L2) (hg : X.grownBy W5 (some mb)) :
 ∃ Fp2, Fr [B, mb] X W5 ∧ (∀ k ∈ Fp2, (k ∈ [B, mb] ∨ X.heap.size ≤ k) ∧ k < W5.heap.size) ∧ CmI B mb (pre ++ [x]) Fp2 W5 := by
 obtain ⟨es, clock, -, -, hn⟩ := id hmi
 refine ⟨[B, mb], Fr.grown hg (fun k e => by cases e; simp), fun k hk => ⟨Or.inl hk, ?_⟩, rfl, hne, box_on hB (hg.block B hB.lt (fun e => hne (Option.some.inj e))), L2, h2, hp.nodup_keys hK ⟨_, rfl⟩, hF.snoc hn hp ?_⟩
 · simp at hk
   rcases hk with rfl | rfl
   · exact Nat.lt_of_lt_of_le hB.lt hg.size
   exact h2.lt
 rcases hit with ⟨-, h⟩ | ⟨h, -, -⟩
 · cases h
 exact h
def DemPost (l : List Ru) (w : World) (e : Ending) (w2 : World) : Prop :=
 ∃ (mb mb2 : Nat) (M M2 : List (Value × Value)) (wq : World) (xs : List (Rt wq)) (G : List Cn), e = .returned (.agg #[.map (some mb), .map (some mb2)]) ∧ (MapIs w2 mb M ∧ (∀ x ∈ M, StrK x.1) ∧ xs.map Rt.pair = numd 0 l ∧ Firsts rname Rt.val xs M) ∧ (MapIs w2 mb2 M2 ∧ (∀ x ∈ M2, StrK x.1) ∧ Firsts ckey cval G M2 ∧ ∀ q, G.find? q = (consAll l).find? q) ∧ Below w.heap.size w w2
theorem res_dem {fn : Func} (h : fn.results = #[.cell 2 138]) (tmps : Array Value) (W : World) (rb : Nat) (u v : Value) (ht : tmps.getD 2 undef = .pointer (some ⟨rb, 0, none⟩)) (hc : W.cell? ⟨rb, 0, none⟩ = some u) (hd : W.cell? ⟨rb, 1, none⟩ = some v) (hu : ∃ k, u = .map k) (hv : ∃ k, v = .map k) : (results fn tmps).run Tryz.prog W = .ok (.agg #[u, v]) W := by
 obtain ⟨k, rfl⟩ := hu
 obtain ⟨k2, rfl⟩ := hv
 rw [Array.getD_eq_getD_getElem?] at ht
 simp [results, h, ht, go_sem, hc, hd]
theorem dem_end {F : Fence} {n : Nat} {fn : Func} {tmps : Array Value} {mb D : Nat} {l : List Ru} {M M1 : List (Value × Value)} {xs : List Cn} {w X w6 : World} {ys : List (Rt X.drew)} (h : fn.results = #[.cell 2 138]) (ht : tmps.getD 2 undef = .pointer (some ⟨w.heap.size + 1, 0, none⟩)) (hlow : Below w.heap.size w X) (hK : X.heap[D]? = some (.deferred (some []))) (hD : w.heap.size + 5 ≤ D)
 (hrb : w.heap.size + 3 < X.heap.size) (hmi : MapIs X (w.heap.size + 2) M) (hKM : ∀ x ∈ M, StrK x.1) (hF : Firsts ckey cval xs M) (hS : ∀ q, xs.find? q = (consAll l).find? q)
 (hm6 : MapIs w6 mb M1) (hk6 : ∀ x ∈ M1, StrK x.1) (hy6 : ys.map Rt.pair = numd 0 l) (hf6 : Firsts rname Rt.val ys M1) (hl6 : X.drew.heap.size ≤ mb) (hb6 : Below X.drew.heap.size X.drew w6) (hz2 : w6.cell? ⟨w.heap.size + 1, 0, none⟩ = some (.map none)) (hz3 : w6.cell? ⟨w.heap.size + 1, 1, none⟩ = some (.map none)) :
 LeavesInM F n Tryz.prog fn tmps (DemPost l w) [{ target := .collected D, args := #[] }] .returning ((w6.setCell ⟨w.heap.size + 1, 0, none⟩ (.map (some mb))).setCell ⟨w.heap.size + 1, 1, none⟩ (.map (some (w.heap.size + 2)))) := by
 have hb6 : Below X.heap.size X w6 := (Below.refl _ X).drew.trans hb6
 have hl6 : X.heap.size ≤ mb := hl6
 have hDl := (Array.getElem?_eq_some_iff.1 hK).1
 obtain ⟨Y, hY⟩ : ∃ Y, Y = (w6.setCell ⟨w.heap.size + 1, 0, none⟩ (.map (some mb))).setCell ⟨w.heap.size + 1, 1, none⟩ (.map (some (w.heap.size + 2))) := ⟨_, rfl⟩
 rw [← hY]
 have hf : Fr [w.heap.size + 1] w6 Y := by rw [hY]; exact (Fr.set (S := [w.heap.size + 1]) _ _ _ (by simp)).trans (Fr.set (S := [w.heap.size + 1]) _ _ _ (by simp)) (by simp)
 have hs6 := hb6.size
 have hYD : Y.heap[D]? = some (.deferred (some [])) := (hf.block D (by omega) (by simp; omega)).trans ((hb6.block D hDl).trans hK)
 have c0 : Y.cell? ⟨w.heap.size + 1, 0, none⟩ = some (.map (some mb)) := by
  rw [hY, World.cell?_setCell_other _ _ _ _ (by simp)]
  exact World.cell?_setCell_same _ _ _ hz2
 have c1 : Y.cell? ⟨w.heap.size + 1, 1, none⟩ = some (.map (some (w.heap.size + 2))) := by
  rw [hY]
  exact World.cell?_setCell_same _ _ _ (by rw [World.cell?_setCell_other _ _ _ _ (by simp)]; exact hz3)
 refine ⟨by simp, .inl ⟨D, _, rfl, run_takeDeferred hYD, ?_⟩⟩
 have k : ∀ {o : Obj} (j : Nat), j ≠ D → (Y.putObj D o).heap[j]? = Y.heap[j]? := fun {o} j hj => World.putObj_heap_other hj
 refine ⟨.agg #[.map (some mb), .map (some (w.heap.size + 2))], res_dem h tmps _ (w.heap.size + 1) _ _ ht ((World.cell?_of_block (w := Y) (k (w.heap.size + 1) (by omega))).trans c0) ((World.cell?_of_block (w := Y) (k (w.heap.size + 1) (by omega))).trans c1) ⟨_, rfl⟩ ⟨_, rfl⟩, mb, w.heap.size + 2, M1, M, X.drew, ys, xs, rfl, ⟨(hm6.on (hf.block mb hm6.lt (by simp; omega))).on (World.putObj_heap_other (by omega)), hk6, hy6, hf6⟩, ⟨((hmi.on (hb6.block _ hmi.lt)).on (hf.block _ (by omega) (by simp))).on (World.putObj_heap_other (by omega)), hKM, hF, hS⟩, ?_⟩
 exact ((hlow.trans (hb6.mono hlow.size)).trans (hf.below (by simp) (by omega))).trans ((Fr.put (S := [D]) Y _ _ (by simp)).below (by simp; omega) (by have := hf.size; omega))
theorem drop_rest {F : Fence} {n : Nat} {P : Program} {c : Code} {K : Act → World → Prop} {Q : Exit → Act → World → Prop} {a : Act} {w : World} (h : c.wpIn F n P (Exit.then K (fun _ _ _ => False)) a w) : c.wpIn F n P (Exit.then K Q) a w :=
 wpIn_mono h (fun e a W hq => by
  cases e with
  | normal => exact hq
  | exit id => exact hq.elim
  | goto t => exact hq.elim
  | ret => exact hq.elim
  | panic c => exact hq.elim
  | outgrown => exact hq.elim)
theorem dem_after {b : Nat} {A : Option Addr} {m c : Nat} {X Z : World} (h : Hid (X.cell? ⟨b, 0, none⟩ = some (.slice A m c) ∧ X.cell? ⟨b + 1 + 1 + 1, 0, none⟩ = some (.map (some (b + 1 + 1))) ∧ X.heap[b + 1]? = some (.cells #[.map none, .map none] 138 (0, 0)))) (hb : Below X.drew.heap.size X.drew Z) :
 Z.cell? ⟨b + 1 + 1 + 1, 0, none⟩ = some (.map (some (b + 1 + 1))) ∧ Z.cell? ⟨b + 1, 0, none⟩ = some (.map none) ∧ Z.cell? ⟨b + 1, 1, none⟩ = some (.map none) ∧ Z.frozen? ⟨b + 1, 0, none⟩ = false ∧ Z.frozen? ⟨b + 1, 1, none⟩ = false ∧ b + 1 < Z.heap.size := by
 obtain ⟨-, h2, h3⟩ := h.out
 have hl := (Array.getElem?_eq_some_iff.1 h3).1
 have k3 : Z.heap[b + 1]? = _ := (hb.block (b + 1) hl).trans h3
 refine ⟨(hb.cell (p := ⟨b + 1 + 1 + 1, 0, none⟩) (World.block_lt_of_cell? X _ h2)).trans h2, ?_, ?_, ?_, ?_, Nat.lt_of_lt_of_le hl hb.size⟩
 · simp [World.cell?, k3]
 · simp [World.cell?, k3]
 · simp [World.frozen?, k3]
 simp [World.frozen?, k3]
set_option maxRecDepth 100000 in
theorem dem_in (F : Fence) (n : Nat) (hFw : F = Fence.wide) (hro : F.round = none) (hF : ∀ k, F.fn k) (hn : 10 ≤ n) (l : List Ru) (v : Value) (bs : List Nat) (w : World) (hv : PrIs w v l bs) (hfr : Thawed w bs) (hb : ∀ r ∈ l, exSize r.body ≤ 1099511627776) (hlb : l.length ≤ 1099511627776) :
 CallsIn F n Tryz.prog 89 #[v] w (DemPost l w) := by
 obtain ⟨u, rfl, hu⟩ := id hv
 obtain ⟨A, c, rfl, hc1, hc2, -⟩ := id hu
 have h1 : 1 ≤ n := by omega
 have HFW := zH hFw
 have HU := zH hu
 have HFR := zH hfr
 have HB := zH hb
 have HLB := zH hlb
 have HV := zH hv
 obtain ⟨m, hm⟩ : ∃ m, m = l.length := ⟨_, rfl⟩
 rw [← hm] at HU HV hc1 ⊢
 have hmk := run_makeCon
 clear hv hu hFw hfr hb hm hlb
 refine callsIn_of_wp_marks Tryz.func89 rfl (hF _) ?_ hro
 simp only [Tryz.ntmps89, List.size_toArray, List.length_cons, List.length_nil, Nat.reduceAdd, Nat.reduceSub, Array.replicate_succ, Array.replicate_zero, List.push_toArray, List.append_toArray, List.nil_append, List.cons_append]
 gi_wp2_with (gi_at_call 117; refine (constructors_in F (n - 1) hF hro _ _ _ _).mono ?_; rintro e w' ⟨rfl, rfl⟩)
 obtain ⟨W0, hW0⟩ : ∃ W0, W0 = ((((w.alloc (.cells #[.slice A m c] 24)).alloc (.cells #[.map none, .map none] 138)).alloc (.map #[] 0)).alloc (.cells #[.map (some (w.heap.size + 2))] 136)).alloc (.cells #[.slice A m c] 24) := ⟨_, rfl⟩
 rw [← hW0]
 have HX := zH (dem_start w A m c W0 hW0)
 clear hW0 hmk
 have hx1 := HX.out.1
 refine wpIn_rangeFunc_frame hro h1 (gf := 141) (lb := #[.pointer (some ⟨w.heap.size + 4, 0, none⟩)]) rfl (hF _) (enters_of Tryz.func141 (by kernel_rfl) rfl)
  (cons_stops F (n - 1) HFW.out hro hF (by omega) w l A m c bs HU.out HB.out (fun z hz => (HFR.out z hz).2) (w.heap.size + 4) W0 HX.out.2.1 HX.out.2.2.2.2.2.2 (by omega)) (Below.refl _ _) (by omega) (fun k hk => by cases hk) (fun _ => rfl)
  (CmI (w.heap.size + 3) (w.heap.size + 2)) (fun _ _ _ _ => False) (cmi_foot _ _) (fun _ _ _ _ _ h _ _ => h) [w.heap.size + 3, w.heap.size + 2] (fun k hk => by simp at hk; rcases hk with rfl | rfl <;> simp <;> omega) ⟨rfl, by omega, HX.out.2.2.2.2.2.1, [], HX.out.2.2.2.2.1, (fun x hx => by cases hx), firsts_nil⟩
  (fun pre x a2 Fp X => a2 = { tmps := #[.agg #[.slice A m c], .pointer (some ⟨w.heap.size, 0, none⟩), .pointer (some ⟨w.heap.size + 1, 0, none⟩), .pointer (some ⟨w.heap.size + 3, 0, none⟩), .string x.1, .int .i64 (x.2 : Int), undef, undef, .map (some (w.heap.size + 2)), .agg #[.slice A m c], consFun (w.heap.size + 4), .string x.1, .int .i64 (x.2 : Int), undef, undef, undef, undef, undef, undef, undef, undef, undef, undef, undef, undef, undef, undef, undef], defers := [] } ∧ CmI (w.heap.size + 3) (w.heap.size + 2) pre Fp X) (fun xs x a2 Fp X Y h hs hk => ⟨h.1, cmi_foot _ _ _ _ _ _ h.2 hs hk⟩) ?assign ?body ?done ?stop
 case assign =>
  intro l2 pre x Fp X KX hI hFp hFr hK
  have HI := zH hI
  have HFP := zH hFp
  have HKX := zH hK
  clear hI hFp hFr hK
  dsimp only [Cn.enc]
  gi_wp2
  exact HKX.out _ Fp _ (Fr.refl _ _) (fun k hk => ⟨Or.inl hk, (HFP.out k hk).2⟩) ⟨rfl, HI.out⟩
 case body =>
  rintro l2 pre x _ Fp X ⟨rfl, rfl, hne, hB, M, hmi, hKM, hFs⟩ hFp hFr hlen
  have hc := hB.cell
  obtain ⟨v, b, hrun, hit⟩ := hmi.look (strT X) Tryz.underlying136 (zeroInt X) (key := .string x.1) ⟨_, rfl⟩ hKM
  have hr2 := hrun true
  simp only [if_true] at hr2
  have HB1 := zH hB
  have HMI := zH hmi
  have HKM := zH hKM
  have HFS := zH hFs
  have HNE := zH hne
  rcases hFs.hits hit with ⟨p, hp1, hp2, hp3⟩ | ⟨hp1, hp2, hp3⟩
  · subst hp2 hp3
    dsimp only [cval] at hr2
    have HHIT := zH hit
    clear hB hmi hKM hFs hne hFp hFr hrun hit hp1
    gi_wp2
    exact cm_same HNE.out HB1.out HMI.out HKM.out HFS.out HHIT.out
  subst hp2 hp3
  have HHIT := zH hit
  clear hB hmi hKM hFs hne hFp hFr hrun hit hp1
  gi_wp2_with (gi_at_mapUpdate; refine asc_put_in _ rfl _ _ _ 136 rfl 9 3 Tryz.underlying136 StrK (strT X) (w.heap.size + 2) M rfl HMI.out _ _ rfl rfl ⟨_, rfl⟩ HKM.out ?_; intro W5 L2 hmi5 hput5 hgr5; have HM5 := zH hmi5; have HP5 := zH hput5; have HG5 := zH hgr5; clear hmi5 hput5 hgr5)
  exact cm_step HNE.out HB1.out HMI.out HKM.out HFS.out HHIT.out HM5.out HP5.out HG5.out
 case done =>
  rintro D xs Fp X hD hDF hFl hS ⟨rfl, hne, hB, M, hmi, hKM, hFs⟩ hFr hK
  have hFw := HFW.out
  subst hFw
  have HLW := zH (show Below w.heap.size w X from HX.out.2.1.trans (hFr.below (by simp <;> omega) (by omega)))
  have hc : X.cell? ⟨w.heap.size + 1 + 1 + 1, 0, none⟩ = some (.map (some (w.heap.size + 1 + 1))) := hB.cell
  have hpc := (box_on HX.out.2.2.1 (hFr.block w.heap.size (by omega) (by simp <;> omega))).cell
  have hrb := (hFr.block (w.heap.size + 1) (by omega) (by simp <;> omega)).trans HX.out.2.2.2.1
  have HC0 := zH (show X.cell? ⟨w.heap.size, 0, none⟩ = some (.slice A m c) ∧ X.cell? ⟨w.heap.size + 1 + 1 + 1, 0, none⟩ = some (.map (some (w.heap.size + 1 + 1))) ∧ X.heap[w.heap.size + 1]? = some (.cells #[.map none, .map none] 138 (0, 0)) from ⟨hpc, hc, hrb⟩)
  have HDX := zH hD
  have HCALL := zH (own_first l _ bs X.drew (HV.out.below HLW.out.drew) HLB.out)
  have HB1 := zH hB
  have HMI := zH hmi
  have HKM := zH hKM
  have HFS := zH hFs
  have HNE := zH hne
  have HS := zH hS
  have HK := zH hK
  clear hB hmi hKM hFs hne hFr hS hK hFl hrb hD hDF
  gi_wp2
  refine drop_rest (wpIn_wide.2 ?_)
  go_region_law (first | (go_simp; go_at_call 118; refine HCALL.out.mono ?_; rintro r w6 ⟨mb, M1, ys, rfl, hm6, hk6, hy6, hf6, hl6, hb6⟩; obtain ⟨hz1, hz2, hz3, hz4, hz5, hz6⟩ := dem_after HC0 hb6))
  all_goals
   gi_wp2
   exact dem_end rfl rfl HLW.out HK.out (by have := HDX.out; omega) (by have := HB1.out.lt; omega) HMI.out HKM.out HFS.out HS.out hm6 hk6 hy6 hf6 hl6 hb6 hz2 hz3
 case stop =>
  rintro D c pre Fp X _ _ _ _ h _ _
  exact h.elim
theorem own_dem (l : List Ru) (v : Value) (bs : List Nat) (w : World) (hv : PrIs w v l bs) (hfr : Thawed w bs) (hb : ∀ r ∈ l, exSize r.body ≤ 1099511627776) (hlb : l.length ≤ 1099511627776) : Calls Tryz.prog 89 #[v] w (DemPost l w) :=
 callsIn_wide.1 (dem_in Fence.wide 10 rfl rfl (fun _ => trivial) (Nat.le_refl _) l v bs w hv hfr hb hlb)
end Go.Proofs.YthljhiklpopmgaaGreatDoor
namespace Go.Proofs
open Go.Shelf
def Tryz.lays156_ren : Go.Shelf.Ren := ⟨fun | 156 => 137 | 165 => 149 | 166 => 150 | 169 => 151 | 240 => 157 | 241 => 158 | 276 => 159 | 277 => 160 | n => n, fun | 31 => 30 | 9 => 9 | 3 => 3 | 4 => 4 | 0 => 0 | 20 => 20 | 72 => 202 | 76 => 204 | 70 => 200 | 37 => 105 | 75 => 41 | 127 => 214 | 164 => 60 | 5 => 5 | 80 => 148 | n => n, fun | n => n⟩
theorem Tryz.lays156 : Go.Proofs.Lays.n156 Tryz.prog Tryz.lays156_ren := {
 mixed := by kernel_rfl
 f156 := Tryz.func137.trans (congrArg some (by kernel_rfl))
 f165 := Tryz.func149.trans (congrArg some (by kernel_rfl))
 f166 := Tryz.func150.trans (congrArg some (by kernel_rfl))
 f169 := Tryz.func151.trans (congrArg some (by kernel_rfl))
 f240 := Tryz.func157.trans (congrArg some (by kernel_rfl))
 f241 := Tryz.func158.trans (congrArg some (by kernel_rfl))
 f276 := Tryz.func159.trans (congrArg some (by kernel_rfl))
 f277 := Tryz.func160.trans (congrArg some (by kernel_rfl))
 t0 := Tryz.underlying0
 a0 := Tryz.isAgg0
 z0 := Tryz.sizeOf0
 v0 := Tryz.zeroValue0
 t3 := Tryz.underlying3
 a3 := Tryz.isAgg3
 z3 := Tryz.sizeOf3
 v3 := Tryz.zeroValue3
 t4 := Tryz.underlying4
 a4 := Tryz.isAgg4
 z4 := Tryz.sizeOf4
 v4 := Tryz.zeroValue4
 t9 := Tryz.underlying9
 a9 := Tryz.isAgg9
 z9 := Tryz.sizeOf9
 v9 := Tryz.zeroValue9
 t20 := Tryz.underlying20
 a20 := Tryz.isAgg20
 z20 := Tryz.sizeOf20
 v20 := Tryz.zeroValue20
 t31 := Tryz.underlying30
 a31 := Tryz.isAgg30
 z31 := Tryz.sizeOf30
 v31 := Tryz.zeroValue30
 t37 := Tryz.underlying105
 a37 := Tryz.isAgg105
 z37 := Tryz.sizeOf105
 v37 := Tryz.zeroValue105
 t70 := Tryz.underlying200
 a70 := Tryz.isAgg200
 z70 := Tryz.sizeOf200
 v70 := Tryz.zeroValue200
 t72 := Tryz.underlying202
 a72 := Tryz.isAgg202
 z72 := Tryz.sizeOf202
 v72 := Tryz.zeroValue202
 t75 := Tryz.underlying41
 a75 := Tryz.isAgg41
 z75 := Tryz.sizeOf41
 v75 := Tryz.zeroValue41
 t76 := Tryz.underlying204
 a76 := Tryz.isAgg204
 z76 := Tryz.sizeOf204
 v76 := Tryz.zeroValue204
 t127 := Tryz.underlying214
 a127 := Tryz.isAgg214
 z127 := Tryz.sizeOf214
 v127 := Tryz.zeroValue214
 t164 := Tryz.underlying60
 a164 := Tryz.isAgg60
 z164 := Tryz.sizeOf60
 v164 := Tryz.zeroValue60 }
theorem Tryz.Builder_Extra_156 : Builder.Extra Tryz.prog Tryz.lays156_ren := {
 sizeBuilder := by kernel_rfl
 liesBuilder := by kernel_rfl
 t5 := Tryz.underlying5
 a5 := Tryz.isAgg5
 z5 := Tryz.sizeOf5
 v5 := Tryz.zeroValue5
 infoByte := by kernel_rfl
 cellsByte := by kernel_rfl
 sizeByte := by kernel_rfl
 neB5 := by decide }
open Go.RowKit in
theorem Tryz.strings_Join_none (a : Option Addr) (c : Nat) (sep : ByteArray) (w : World) :
 Calls Tryz.prog 137 #[.slice a 0 c, .string sep] w fun e w' => e = .returned (.string ⟨#[]⟩) ∧ w' = w := Any.strings_Join_none Tryz.lays156 Tryz.Builder_Extra_156 a c sep w
open Go.RowKit in
theorem Tryz.strings_Join (bk o c : Nat) (xs : List ByteArray) (sep : ByteArray) (w : World) (hcells : ∀ (j : Nat) x, xs[j]? = some x → w.cell? ⟨bk, o + j, none⟩ = some (.string x)) (hbk : bk < w.heap.size) (hN : xs.length ≤ 140737488355328) (hcap : xs.length ≤ c) (hlen : (Lib.join (xs.map (·.data.toList)) sep.data.toList).length ≤ 140737488355328) :
 Calls Tryz.prog 137 #[.slice (some ⟨bk, o, none⟩) xs.length c, .string sep] w fun e w' => e = .returned (.string ⟨(Lib.join (xs.map (·.data.toList)) sep.data.toList).toArray⟩) ∧ Below w.heap.size w w' := Any.strings_Join Tryz.lays156 Tryz.Builder_Extra_156 bk o c xs sep w hcells hbk hN hcap hlen
def Tryz.lays119_ren : Go.Shelf.Ren := ⟨fun | 119 => 145 | n => n, fun | 21 => 21 | 4 => 4 | n => n, fun | n => n⟩
theorem Tryz.lays119 : Go.Proofs.Lays.n119 Tryz.prog Tryz.lays119_ren := {
 mixed := by kernel_rfl
 f119 := Tryz.func145.trans (congrArg some (by kernel_rfl))
 t4 := Tryz.underlying4
 a4 := Tryz.isAgg4
 z4 := Tryz.sizeOf4
 v4 := Tryz.zeroValue4
 t21 := Tryz.underlying21
 a21 := Tryz.isAgg21
 z21 := Tryz.sizeOf21
 v21 := Tryz.zeroValue21 }
theorem Tryz.utf8_ValidRune (r : Int) (w : World) :
 Calls Tryz.prog 145 #[.int .i32 r] w fun e w' => e = .returned (.bool (Lib.validRune r)) ∧ w' = w := Any.utf8_ValidRune Tryz.lays119 r w
def Tryz.lays137_ren : Go.Shelf.Ren := ⟨fun | 137 => 45 | 217 => 73 | 266 => 98 | n => n, fun | 9 => 9 | 5 => 5 | 3 => 3 | n => n, fun | n => n⟩
theorem Tryz.lays137 : Go.Proofs.Lays.n137 Tryz.prog Tryz.lays137_ren := {
 mixed := by kernel_rfl
 f137 := Tryz.func45.trans (congrArg some (by kernel_rfl))
 f217 := Tryz.func73.trans (congrArg some (by kernel_rfl))
 f266 := Tryz.func98.trans (congrArg some (by kernel_rfl))
 t3 := Tryz.underlying3
 a3 := Tryz.isAgg3
 z3 := Tryz.sizeOf3
 v3 := Tryz.zeroValue3
 t5 := Tryz.underlying5
 a5 := Tryz.isAgg5
 z5 := Tryz.sizeOf5
 v5 := Tryz.zeroValue5
 t9 := Tryz.underlying9
 a9 := Tryz.isAgg9
 z9 := Tryz.sizeOf9
 v9 := Tryz.zeroValue9 }
open Go.RowKit in
theorem Tryz.strings_IndexByte (s : ByteArray) (c : Int) (w : World) :
 Calls Tryz.prog 45 #[.string s, .int .u8 c] w fun e w' => e = .returned (.int .i64 (Lib.indexByte s.data.toList c.toNat.toUInt8)) ∧ w' = w := Any.strings_IndexByte Tryz.lays137 s c w
def Tryz.lays145_ren : Go.Shelf.Ren := ⟨fun | 145 => 46 | 220 => 74 | 219 => 99 | 217 => 73 | 225 => 123 | 224 => 124 | 267 => 125 | 266 => 98 | 314 => 144 | n => n, fun | 9 => 9 | 4 => 4 | 59 => 86 | 3 => 3 | 5 => 5 | 46 => 174 | 146 => 191 | 51 => 190 | n => n, fun | 1 => 1 | n => n⟩
theorem Tryz.lays145 : Go.Proofs.Lays.n145 Tryz.prog Tryz.lays145_ren := {
 mixed := by kernel_rfl
 f145 := Tryz.func46.trans (congrArg some (by kernel_rfl))
 f217 := Tryz.func73.trans (congrArg some (by kernel_rfl))
 f219 := Tryz.func99.trans (congrArg some (by kernel_rfl))
 f220 := Tryz.func74.trans (congrArg some (by kernel_rfl))
 f224 := Tryz.func124.trans (congrArg some (by kernel_rfl))
 f225 := Tryz.func123.trans (congrArg some (by kernel_rfl))
 f266 := Tryz.func98.trans (congrArg some (by kernel_rfl))
 f267 := Tryz.func125.trans (congrArg some (by kernel_rfl))
 f314 := Tryz.func144.trans (congrArg some (by kernel_rfl))
 t3 := Tryz.underlying3
 a3 := Tryz.isAgg3
 z3 := Tryz.sizeOf3
 v3 := Tryz.zeroValue3
 t4 := Tryz.underlying4
 a4 := Tryz.isAgg4
 z4 := Tryz.sizeOf4
 v4 := Tryz.zeroValue4
 t5 := Tryz.underlying5
 a5 := Tryz.isAgg5
 z5 := Tryz.sizeOf5
 v5 := Tryz.zeroValue5
 t9 := Tryz.underlying9
 a9 := Tryz.isAgg9
 z9 := Tryz.sizeOf9
 v9 := Tryz.zeroValue9
 t46 := Tryz.underlying174
 a46 := Tryz.isAgg174
 z46 := Tryz.sizeOf174
 v46 := Tryz.zeroValue174
 t51 := Tryz.underlying190
 a51 := Tryz.isAgg190
 z51 := Tryz.sizeOf190
 v51 := Tryz.zeroValue190
 t59 := Tryz.underlying86
 a59 := Tryz.isAgg86
 z59 := Tryz.sizeOf86
 v59 := Tryz.zeroValue86
 t146 := Tryz.underlying191
 a146 := Tryz.isAgg191
 z146 := Tryz.sizeOf191
 v146 := Tryz.zeroValue191
 g1 := by kernel_rfl }
open Go.RowKit Go.Lib in
theorem Tryz.strings_Cut (s sep : ByteArray) (m : Int) (w : World) (hs : s.size < 4294967281) (hm : w.cell? ⟨1, 0, none⟩ = some (.int .i64 m)) :
 Calls Tryz.prog 46 #[.string s, .string sep] w fun e w' => e = .returned (.tuple #[.string ⟨(Lib.cut s.data.toList sep.data.toList).1.toArray⟩, .string ⟨(Lib.cut s.data.toList sep.data.toList).2.1.toArray⟩, .bool (Lib.cut s.data.toList sep.data.toList).2.2]) ∧ ∃ n, w' = w.drewN n := Any.strings_Cut Tryz.lays145 s sep m w hs hm
def Tryz.lays102_ren : Go.Shelf.Ren := ⟨fun | 102 => 24 | 209 => 51 | 207 => 85 | n => n, fun | 9 => 9 | 4 => 4 | 3 => 3 | n => n, fun | n => n⟩
theorem Tryz.lays102 : Go.Proofs.Lays.n102 Tryz.prog Tryz.lays102_ren := {
 mixed := by kernel_rfl
 f102 := Tryz.func24.trans (congrArg some (by kernel_rfl))
 f207 := Tryz.func85.trans (congrArg some (by kernel_rfl))
 f209 := Tryz.func51.trans (congrArg some (by kernel_rfl))
 t3 := Tryz.underlying3
 a3 := Tryz.isAgg3
 z3 := Tryz.sizeOf3
 v3 := Tryz.zeroValue3
 t4 := Tryz.underlying4
 a4 := Tryz.isAgg4
 z4 := Tryz.sizeOf4
 v4 := Tryz.zeroValue4
 t9 := Tryz.underlying9
 a9 := Tryz.isAgg9
 z9 := Tryz.sizeOf9
 v9 := Tryz.zeroValue9 }
open Go.RowKit Go.Lib in
theorem Tryz.strings_TrimSuffix (s p : ByteArray) (w : World) (hs : s.size ≤ 9223372036854775807) :
 Calls Tryz.prog 24 #[.string s, .string p] w fun e w' => e = .returned (.string ⟨(Lib.trimSuffix s.data.toList p.data.toList).toArray⟩) ∧ w' = w := Any.strings_TrimSuffix Tryz.lays102 s p w hs
def Tryz.lays152_ren : Go.Shelf.Ren := ⟨fun | 152 => 126 | 137 => 45 | 119 => 145 | 224 => 124 | 225 => 123 | 217 => 73 | 266 => 98 | n => n, fun | 9 => 9 | 21 => 21 | 3 => 3 | 4 => 4 | 5 => 5 | 0 => 0 | 46 => 174 | n => n, fun | n => n⟩
theorem Tryz.lays152 : Go.Proofs.Lays.n152 Tryz.prog Tryz.lays152_ren := {
 mixed := by kernel_rfl
 f119 := Tryz.func145.trans (congrArg some (by kernel_rfl))
 f137 := Tryz.func45.trans (congrArg some (by kernel_rfl))
 f152 := Tryz.func126.trans (congrArg some (by kernel_rfl))
 f217 := Tryz.func73.trans (congrArg some (by kernel_rfl))
 f224 := Tryz.func124.trans (congrArg some (by kernel_rfl))
 f225 := Tryz.func123.trans (congrArg some (by kernel_rfl))
 f266 := Tryz.func98.trans (congrArg some (by kernel_rfl))
 t0 := Tryz.underlying0
 a0 := Tryz.isAgg0
 z0 := Tryz.sizeOf0
 v0 := Tryz.zeroValue0
 t3 := Tryz.underlying3
 a3 := Tryz.isAgg3
 z3 := Tryz.sizeOf3
 v3 := Tryz.zeroValue3
 t4 := Tryz.underlying4
 a4 := Tryz.isAgg4
 z4 := Tryz.sizeOf4
 v4 := Tryz.zeroValue4
 t5 := Tryz.underlying5
 a5 := Tryz.isAgg5
 z5 := Tryz.sizeOf5
 v5 := Tryz.zeroValue5
 t9 := Tryz.underlying9
 a9 := Tryz.isAgg9
 z9 := Tryz.sizeOf9
 v9 := Tryz.zeroValue9
 t21 := Tryz.underlying21
 a21 := Tryz.isAgg21
 z21 := Tryz.sizeOf21
 v21 := Tryz.zeroValue21
 t46 := Tryz.underlying174
 a46 := Tryz.isAgg174
 z46 := Tryz.sizeOf174
 v46 := Tryz.zeroValue174 }
open Go.RowKit Go.Lib in
theorem Tryz.strings_IndexRune_ascii (s : ByteArray) (r : Int) (w : World) (h0 : 0 ≤ r) (h1 : r < 128) :
 Calls Tryz.prog 126 #[.string s, .int .i32 r] w fun e w' => e = .returned (.int .i64 (Lib.indexByte s.data.toList r.toNat.toUInt8)) ∧ w' = w := Any.strings_IndexRune_ascii Tryz.lays152 s r w h0 h1
def Tryz.lays226_ren : Go.Shelf.Ren := ⟨fun | 226 => 127 | n => n, fun | 3 => 3 | 4 => 4 | n => n, fun | n => n⟩
theorem Tryz.lays226 : Go.Proofs.Lays.n226 Tryz.prog Tryz.lays226_ren := {
 mixed := by kernel_rfl
 f226 := Tryz.func127.trans (congrArg some (by kernel_rfl))
 t3 := Tryz.underlying3
 a3 := Tryz.isAgg3
 z3 := Tryz.sizeOf3
 v3 := Tryz.zeroValue3
 t4 := Tryz.underlying4
 a4 := Tryz.isAgg4
 z4 := Tryz.sizeOf4
 v4 := Tryz.zeroValue4 }
open Go.RowKit Go.Lib in
theorem Tryz.strings_shouldUseASCIISet (n : Int) (w : World) :
 Calls Tryz.prog 127 #[.int .i64 n] w fun e w' => e = .returned (.bool (decide (8 < n))) ∧ w' = w := Any.strings_shouldUseASCIISet Tryz.lays226 n w
def Tryz.lays153_ren : Go.Shelf.Ren := ⟨fun | 153 => 102 | 152 => 126 | 226 => 127 | 227 => 128 | 228 => 129 | 137 => 45 | 119 => 145 | 224 => 124 | 225 => 123 | 217 => 73 | 266 => 98 | n => n, fun | 9 => 9 | 3 => 3 | 4 => 4 | 5 => 5 | 21 => 21 | 117 => 179 | 116 => 178 | 0 => 0 | 46 => 174 | 124 => 194 | n => n, fun | n => n⟩
theorem Tryz.lays153 : Go.Proofs.Lays.n153 Tryz.prog Tryz.lays153_ren := {
 mixed := by kernel_rfl
 f119 := Tryz.func145.trans (congrArg some (by kernel_rfl))
 f137 := Tryz.func45.trans (congrArg some (by kernel_rfl))
 f152 := Tryz.func126.trans (congrArg some (by kernel_rfl))
 f153 := Tryz.func102.trans (congrArg some (by kernel_rfl))
 f217 := Tryz.func73.trans (congrArg some (by kernel_rfl))
 f224 := Tryz.func124.trans (congrArg some (by kernel_rfl))
 f225 := Tryz.func123.trans (congrArg some (by kernel_rfl))
 f226 := Tryz.func127.trans (congrArg some (by kernel_rfl))
 f227 := Tryz.func128.trans (congrArg some (by kernel_rfl))
 f228 := Tryz.func129.trans (congrArg some (by kernel_rfl))
 f266 := Tryz.func98.trans (congrArg some (by kernel_rfl))
 t0 := Tryz.underlying0
 a0 := Tryz.isAgg0
 z0 := Tryz.sizeOf0
 v0 := Tryz.zeroValue0
 t3 := Tryz.underlying3
 a3 := Tryz.isAgg3
 z3 := Tryz.sizeOf3
 v3 := Tryz.zeroValue3
 t4 := Tryz.underlying4
 a4 := Tryz.isAgg4
 z4 := Tryz.sizeOf4
 v4 := Tryz.zeroValue4
 t5 := Tryz.underlying5
 a5 := Tryz.isAgg5
 z5 := Tryz.sizeOf5
 v5 := Tryz.zeroValue5
 t9 := Tryz.underlying9
 a9 := Tryz.isAgg9
 z9 := Tryz.sizeOf9
 v9 := Tryz.zeroValue9
 t21 := Tryz.underlying21
 a21 := Tryz.isAgg21
 z21 := Tryz.sizeOf21
 v21 := Tryz.zeroValue21
 t46 := Tryz.underlying174
 a46 := Tryz.isAgg174
 z46 := Tryz.sizeOf174
 v46 := Tryz.zeroValue174
 t116 := Tryz.underlying178
 a116 := Tryz.isAgg178
 z116 := Tryz.sizeOf178
 t117 := Tryz.underlying179
 a117 := Tryz.isAgg179
 z117 := Tryz.sizeOf179
 v117 := Tryz.zeroValue179
 t124 := Tryz.underlying194
 a124 := Tryz.isAgg194
 z124 := Tryz.sizeOf194
 v124 := Tryz.zeroValue194 }
open Go.RowKit Go.Lib in
theorem Tryz.strings_IndexAny_long (hv116 : ∀ w, (zeroValue 178).run Tryz.prog w = .ok (.agg (Array.replicate 256 (.bool false))) w) (s chars : ByteArray) (w : World) (h2 : 2 ≤ chars.size) (h8 : 8 < s.size) (hs : s.size < 4294967281) (hcs : chars.size < 4294967281) (hascii : ∀ (j : Nat) b, chars.data.toList[j]? = some b → b.toNat < 128) :
 Calls Tryz.prog 102 #[.string s, .string chars] w fun e w' => e = .returned (.int .i64 (Lib.indexAny s.data.toList chars.data.toList)) ∧ w' = ((w.alloc (.cells (Lib.setCells chars.data.toList) 178)).alloc (.cells (Lib.setCells chars.data.toList) 178)) := Any.strings_IndexAny_long Tryz.lays153 hv116 (by kernel_rfl) s chars w h2 h8 hs hcs hascii
end Go.Proofs
