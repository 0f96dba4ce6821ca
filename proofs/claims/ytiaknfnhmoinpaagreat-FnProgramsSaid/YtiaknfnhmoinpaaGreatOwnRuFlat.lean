/- A part of the proof of the seat's statement: OwnRuFlat. Condition: as each says. -/
import Derived.Test.YtiaknfnhmoinpaaGreatCons
import Derived.Test.YtiaknfnhmoinpaaGreatThaw
import Derived.Test.YtiaknfnhmoinpaaGreatRuGet
import Derived.Deep.RegionLaw
import Derived.Test.YtiaknfnhmoinpaaGreatRuHead
set_option maxHeartbeats 8000000
namespace Go.Proofs.YtiaknfnhmoinpaaGreat
open Go Go.RowKit Go.Shelf
attribute [local go_sem] Oper.semAt_some
def consFun (b : Nat) : Value := .func (.func 61) #[] #[.pointer (some ⟨b, 0, none⟩)]
theorem constructors_in (F : Fence) (n : Nat) (hF : ∀ k, F.fn k) (hro : F.round = none) (A : Option Addr) (m c : Nat) (w : World) :
 CallsIn F n Tryz.prog 40 #[.agg #[.slice A m c]] w fun e w2 => e = .returned (consFun w.heap.size) ∧ w2 = w.alloc (.cells #[.slice A m c] 26) := by
 refine callsIn_of_wp Tryz.func40 rfl (hF _) ?_ hro
 simp only [Tryz.ntmps40, List.size_toArray, lC, List.length_nil, Nat.reduceAdd, Nat.reduceSub, Array.replicate_succ, Array.replicate_zero, List.push_toArray, List.append_toArray, List.nil_append, List.cons_append]
 gi_wp2
 go_ret
 exact ⟨rfl, rfl⟩
def CarI (rb : Nat) (s : ByteArray) (xs : List Cn) (Fp : List Nat) (W : World) : Prop := Fp = [rb] ∧ Boxed W rb 3 (.int .i64 0) ∧ xs.find? (isC s) = none
def CarX (rb : Nat) (s : ByteArray) (c : Code) (xs : List Cn) (Fp : List Nat) (W : World) : Prop := c = .ret ∧ Fp = [rb] ∧ ∃ y, xs.find? (isC s) = some y ∧ Boxed W rb 3 (.int .i64 (y.2 : Int))
theorem cari_foot (rb : Nat) (s : ByteArray) (xs : List Cn) : Foot (CarI rb s xs) := by
 rintro Fp X Y ⟨rfl, h1, h3⟩ _ hk
 exact ⟨rfl, box_on h1 (hk rb (by simp)), h3⟩
theorem carx_foot (rb : Nat) (s : ByteArray) (c : Code) (xs : List Cn) : Foot (CarX rb s c xs) := by
 rintro Fp X Y ⟨h0, rfl, y, h1, h2⟩ _ hk
 exact ⟨h0, rfl, y, h1, box_on h2 (hk rb (by simp))⟩
theorem res_int4 {fn : Func} (h : fn.results = #[.cell 4 3]) (tmps : Array Value) (W : World) (rb : Nat) (z : Int) (ht : tmps.getD 4 undef = .pointer (some ⟨rb, 0, none⟩)) (hc : W.cell? ⟨rb, 0, none⟩ = some (.int .i64 z)) : (results fn tmps).run Tryz.prog W = .ok (.int .i64 z) W := by
 rw [Array.getD_eq_getD_getElem?] at ht
 simp [results, h, ht, go_sem, hc]
theorem int4_end {F : Fence} {n : Nat} {fn : Func} {tmps : Array Value} {z : Int} {D rb : Nat} {w X : World} (h : fn.results = #[.cell 4 3]) (ht : tmps.getD 4 undef = .pointer (some ⟨rb, 0, none⟩)) (hR : Boxed X rb 3 (.int .i64 z)) (hK : X.heap[D]? = some (.deferred (some []))) (hne : D ≠ rb) (hDw : w.heap.size ≤ D) (hlow : Below w.heap.size w X) :
 LeavesInM F n Tryz.prog fn tmps (RetPost (.int .i64 z) w) [{ target := .collected D, args := #[] }] .returning X := by
 refine ⟨by simp, .inl ⟨D, _, rfl, run_takeDeferred hK, ?_⟩⟩
 refine ⟨.int .i64 z, res_int4 h tmps _ rb z ht ?_, rfl, hlow.trans ((Fr.put (S := [D]) X _ _ (by simp)).below (by simpa using hDw) hlow.size)⟩
 exact (box_on hR (World.putObj_heap_other (Ne.symm hne))).cell
theorem car_start (w : World) (A : Option Addr) (m c : Nat) (s : ByteArray) (W0 : World) (h : W0 = (((w.alloc (.cells #[.slice A m c] 26)).alloc (.cells #[.string s] 9)).alloc (.cells #[.int .i64 0] 3)).alloc (.cells #[.slice A m c] 26)) :
 W0.heap.size = w.heap.size + 4 ∧ Below w.heap.size w W0 ∧ Boxed W0 (w.heap.size + 1) 9 (.string s) ∧ Boxed W0 (w.heap.size + 2) 3 (.int .i64 0) ∧ W0.cell? ⟨w.heap.size + 3, 0, none⟩ = some (.slice A m c) := by
 obtain ⟨a1, h1⟩ : ∃ a1, a1 = w.alloc (.cells #[.slice A m c] 26) := ⟨_, rfl⟩
 obtain ⟨a2, h2⟩ : ∃ a2, a2 = a1.alloc (.cells #[.string s] 9) := ⟨_, rfl⟩
 obtain ⟨a3, h3⟩ : ∃ a3, a3 = a2.alloc (.cells #[.int .i64 0] 3) := ⟨_, rfl⟩
 rw [← h1, ← h2, ← h3] at h
 have s1 : a1.heap.size = w.heap.size + 1 := by rw [h1]; simp
 have s2 : a2.heap.size = w.heap.size + 2 := by rw [h2]; simp [s1]
 have s3 : a3.heap.size = w.heap.size + 3 := by rw [h3]; simp [s2]
 have s4 : W0.heap.size = w.heap.size + 4 := by rw [h]; simp [s3]
 have b2 := Boxed.new a1 9 (.string s)
 rw [← h2, s1] at b2
 have b3 := Boxed.new a2 3 (.int .i64 0)
 rw [← h3, s2] at b3
 have b4 := Boxed.new a3 26 (.slice A m c)
 rw [← h, s3] at b4
 have k3 : ∀ j, j < w.heap.size + 2 → a3.heap[j]? = a2.heap[j]? := fun j hj => by rw [h3]; exact Below.heap_alloc _ _ _ (by omega)
 have k4 : ∀ j, j < w.heap.size + 3 → W0.heap[j]? = a3.heap[j]? := fun j hj => by rw [h]; exact Below.heap_alloc _ _ _ (by omega)
 refine ⟨s4, ?_, box_on b2 ((k4 _ (by omega)).trans (k3 _ (by omega))), box_on b3 (k4 _ (by omega)), b4.cell⟩
 rw [h, h3, h2, h1]
 exact ((((wB _ w).alloc (nR _) _).alloc (by simp) _).alloc (by simp <;> omega) _).alloc (by simp <;> omega) _
set_option maxRecDepth 100000 in
theorem con_in (F : Fence) (n : Nat) (hFw : F = Fence.wide) (hro : F.round = none) (hF : ∀ k, F.fn k) (hn : 10 ≤ n) (l : List Ru) (s : ByteArray) (v : Value) (bs : List Nat) (w : World) (hv : PrIs w v l bs) (hfr : Thawed w bs) (hb : ∀ r ∈ l, exSize r.body ≤ 1099511627776) :
 CallsIn F n Tryz.prog 15 #[v, .string s] w (RetPost (.int .i64 (conR s l)) w) := by
 obtain ⟨u, rfl, hu⟩ := id hv
 obtain ⟨A, c, rfl, hc1, hc2, -⟩ := id hu
 have h1 : 1 ≤ n := by omega
 have HFW := zH hFw
 have HU := zH hu
 have HFR := zH hfr
 have HB := zH hb
 obtain ⟨m, hm⟩ : ∃ m, m = l.length := ⟨_, rfl⟩
 rw [← hm] at HU hc1 ⊢
 clear hv hu hFw hfr hb hm
 refine callsIn_of_wp_marks Tryz.func15 rfl (hF _) ?_ hro
 simp only [Tryz.ntmps15, List.size_toArray, lC, List.length_nil, Nat.reduceAdd, Nat.reduceSub, Array.replicate_succ, Array.replicate_zero, List.push_toArray, List.append_toArray, List.nil_append, List.cons_append]
 gi_wp2_with (gi_at_call 40; refine (constructors_in F (n - 1) hF hro _ _ _ _).mono ?_; rintro e w' ⟨rfl, rfl⟩)
 obtain ⟨W0, hW0⟩ : ∃ W0, W0 = (((w.alloc (.cells #[.slice A m c] 26)).alloc (.cells #[.string s] 9)).alloc (.cells #[.int .i64 0] 3)).alloc (.cells #[.slice A m c] 26) := ⟨_, rfl⟩
 rw [← hW0]
 have HX := zH (car_start w A m c s W0 hW0)
 clear hW0
 have hx1 := HX.out.1
 refine wpIn_rangeFunc_frame hro h1 (gf := 61) (lb := #[.pointer (some ⟨w.heap.size + 3, 0, none⟩)]) rfl (hF _) (enters_of Tryz.func61 (by kernel_rfl) rfl)
  (cons_stops F (n - 1) HFW.out hro hF (by omega) w l A m c bs HU.out HB.out (fun z hz => (HFR.out z hz).2) (w.heap.size + 3) W0 HX.out.2.1 HX.out.2.2.2.2 (by omega)) (wB _ _) (by omega) (fun k hk => by cases hk) (fun _ => rfl)
  (CarI (w.heap.size + 2) s) (CarX (w.heap.size + 2) s) (cari_foot _ _) (carx_foot _ _) [w.heap.size + 2] (fun k hk => by simp at hk; subst hk; simp; omega) ⟨rfl, HX.out.2.2.2.1, rfl⟩
  (fun pre x a2 Fp X => a2 = { tmps := #[.agg #[.slice A m c], .string s, .pointer (some ⟨w.heap.size, 0, none⟩), .pointer (some ⟨w.heap.size + 1, 0, none⟩), .pointer (some ⟨w.heap.size + 2, 0, none⟩), .string x.1, .int .i64 (x.2 : Int), .agg #[.slice A m c], consFun (w.heap.size + 3), .string x.1, .int .i64 (x.2 : Int), undef, undef, undef, undef], defers := [] } ∧ CarI (w.heap.size + 2) s pre Fp X) (fun xs x a2 Fp X Y h hs hk => ⟨h.1, cari_foot _ _ _ _ _ _ h.2 hs hk⟩) ?assign ?body ?done ?stop
 case assign =>
  intro l2 pre x Fp X KX hI hFp hFr hK
  have HI := zH hI
  have HFP := zH hFp
  have HKX := zH hK
  clear hI hFp hFr hK
  dsimp only [Cn.enc]
  gi_wp2
  exact HKX.out _ Fp _ (Fr.refl _ _) (fun k hk => ⟨Or.inl hk, (HFP.out k hk).2⟩) ⟨rfl, HI.out⟩
 case body =>
  rintro l2 pre x _ Fp X ⟨rfl, rfl, hR, hno⟩ hFp hFr hlen
  have hbs := (box_on HX.out.2.2.1 (hFr.block (w.heap.size + 1) (by omega) (by simp))).cell
  have hrc := hR.cell
  have hrf := hR.frozen
  have hrl := hR.lt
  have HR := zH hR
  have HNO := zH hno
  clear hR hno hFr hFp hlen
  by_cases hx : x.1 = s
  · have hbe := beq_yes hx
    have HXS := zH hx
    clear hx
    gi_wp2
    refine ⟨[w.heap.size + 2], Fr.set (S := [w.heap.size + 2]) _ _ _ (by simp), fun k hk => ?_, rfl, rfl, x, ?_, HR.out.set _⟩
    · simp at hk; subst hk; exact ⟨Or.inl (by simp), by have := HR.out.lt; simp [World.setCell]; omega⟩
    rw [List.find?_append, HNO.out]; simp [isC, HXS.out]
  have hbe := beq_no hx
  have HXS := zH hx
  clear hx
  gi_wp2
  refine ⟨[w.heap.size + 2], Fr.refl _ _, fun k hk => ?_, rfl, HR.out, ?_⟩
  · simp at hk; subst hk; exact ⟨Or.inl (by simp), HR.out.lt⟩
  rw [List.find?_append, HNO.out]; simp [isC, HXS.out]
 case done =>
  rintro D xs Fp X hD hDF hFl hS ⟨rfl, hR, hno⟩ hFr hK
  have HCR := zH (show conR s l = -1 by rw [conR_find, ← hS, hno]; rfl)
  have hrc := hR.cell
  have hrf := hR.frozen
  have hrl := hR.lt
  have HR := zH hR
  have HK := zH hK
  have HLW := zH (show Below w.heap.size w X from HX.out.2.1.trans (hFr.below (by simp) (by omega)))
  have HDX := zH (show D ≠ w.heap.size + 2 by omega)
  clear hR hno hFr hK hS
  gi_wp2
  rw [HCR.out]
  exact int4_end rfl rfl (HR.out.set _) ((Below.heap_setCell _ _ _ _ HDX.out).trans HK.out) HDX.out (by omega) (HLW.out.setCell (p := ⟨w.heap.size + 2, 0, none⟩) (by simp) _)
 case stop =>
  rintro D cc pre Fp X hD hDF hFl ⟨rest, hS⟩ ⟨rfl, rfl, y, hy, hR⟩ hFr hK
  have HCR := zH (show conR s l = (y.2 : Int) by rw [conR_find, ← hS, List.find?_append, hy]; rfl)
  have HR := zH hR
  have HK := zH hK
  have HLW := zH (show Below w.heap.size w X from HX.out.2.1.trans (hFr.below (by simp) (by omega)))
  have HDX := zH (show D ≠ w.heap.size + 2 by omega)
  clear hR hy hFr hK hS
  gi_wp2
  rw [HCR.out]
  exact int4_end rfl rfl HR.out HK.out HDX.out (by omega) HLW.out
theorem own_con (l : List Ru) (s : ByteArray) (v : Value) (bs : List Nat) (w : World) (hv : PrIs w v l bs) (hfr : Thawed w bs) (hb : ∀ r ∈ l, exSize r.body ≤ 1099511627776) :
 Calls Tryz.prog 15 #[v, .string s] w (RetPost (.int .i64 (conR s l)) w) :=
 callsIn_wide.1 (con_in Fence.wide 10 rfl rfl (fun _ => trivial) (nR _) l s v bs w hv hfr hb)
end Go.Proofs.YtiaknfnhmoinpaaGreat
namespace Go.Proofs.YtiaknfnhmoinpaaGreat
open Go Go.RowKit Go.Shelf
attribute [local go_sem] Oper.semAt_some
def ckey (x : Cn) : Value := .string x.1
def cval (x : Cn) : Value := .int .i64 (x.2 : Int)
def CmI (B mb : Nat) (pre : List Cn) (Fp : List Nat) (W : World) : Prop := Fp = [B, mb] ∧ B ≠ mb ∧ Boxed W B 53 (.map (some mb)) ∧ ∃ M, MapIs W mb M ∧ (∀ x ∈ M, StrK x.1) ∧ Firsts ckey cval pre M
theorem cmi_foot (B mb : Nat) (pre : List Cn) : Foot (CmI B mb pre) := by
 rintro Fp X Y ⟨rfl, hne, h1, M, h2, h3⟩ _ hk
 exact ⟨rfl, hne, box_on h1 (hk B (by simp)), M, h2.on (hk mb (by simp)), h3⟩
theorem run_makeCon (w : World) : (Instr.makeMap 53 none).run Tryz.prog w = .ok (.map (some w.heap.size)) (w.alloc (.map #[] 0)) := by
 simp [Instr.makeMap]
theorem zeroInt (w : World) : (zeroValue 3).run Tryz.prog w = .ok (.int .i64 0) w := by kernel_rfl
theorem dem_start (w : World) (A : Option Addr) (m c : Nat) (W0 : World) (h : W0 = ((((w.alloc (.cells #[.slice A m c] 26)).alloc (.cells #[.map none, .map none] 55)).alloc (.map #[] 0)).alloc (.cells #[.map (some (w.heap.size + 2))] 53)).alloc (.cells #[.slice A m c] 26)) :
 W0.heap.size = w.heap.size + 5 ∧ Below w.heap.size w W0 ∧ Boxed W0 w.heap.size 26 (.slice A m c) ∧ W0.heap[w.heap.size + 1]? = some (.cells #[.map none, .map none] 55 (0, 0)) ∧ MapIs W0 (w.heap.size + 2) [] ∧ Boxed W0 (w.heap.size + 3) 53 (.map (some (w.heap.size + 2))) ∧ W0.cell? ⟨w.heap.size + 4, 0, none⟩ = some (.slice A m c) := by
 obtain ⟨a1, h1⟩ : ∃ a1, a1 = w.alloc (.cells #[.slice A m c] 26) := ⟨_, rfl⟩
 obtain ⟨a2, h2⟩ : ∃ a2, a2 = a1.alloc (.cells #[.map none, .map none] 55) := ⟨_, rfl⟩
 obtain ⟨a3, h3⟩ : ∃ a3, a3 = a2.alloc (.map #[] 0) := ⟨_, rfl⟩
 obtain ⟨a4, h4⟩ : ∃ a4, a4 = a3.alloc (.cells #[.map (some (w.heap.size + 2))] 53) := ⟨_, rfl⟩
 rw [← h1, ← h2, ← h3, ← h4] at h
 have s1 : a1.heap.size = w.heap.size + 1 := by rw [h1]; simp
 have s2 : a2.heap.size = w.heap.size + 2 := by rw [h2]; simp [s1]
 have s3 : a3.heap.size = w.heap.size + 3 := by rw [h3]; simp [s2]
 have s4 : a4.heap.size = w.heap.size + 4 := by rw [h4]; simp [s3]
 have s5 : W0.heap.size = w.heap.size + 5 := by rw [h]; simp [s4]
 have b1 := Boxed.new w 26 (.slice A m c)
 rw [← h1] at b1
 have b2 := World.alloc_heap_new a1 (.cells #[.map none, .map none] 55)
 rw [← h2, s1] at b2
 have b3 := MapIs.made a2
 rw [← h3, s2] at b3
 have b4 := Boxed.new a3 53 (.map (some (w.heap.size + 2)))
 rw [← h4, s3] at b4
 have b5 := Boxed.new a4 26 (.slice A m c)
 rw [← h, s4] at b5
 have k2 : ∀ j, j < w.heap.size + 1 → a2.heap[j]? = a1.heap[j]? := fun j hj => by rw [h2]; exact Below.heap_alloc _ _ _ (by omega)
 have k3 : ∀ j, j < w.heap.size + 2 → a3.heap[j]? = a2.heap[j]? := fun j hj => by rw [h3]; exact Below.heap_alloc _ _ _ (by omega)
 have k4 : ∀ j, j < w.heap.size + 3 → a4.heap[j]? = a3.heap[j]? := fun j hj => by rw [h4]; exact Below.heap_alloc _ _ _ (by omega)
 have k5 : ∀ j, j < w.heap.size + 4 → W0.heap[j]? = a4.heap[j]? := fun j hj => by rw [h]; exact Below.heap_alloc _ _ _ (by omega)
 refine ⟨s5, ?_, box_on b1 ((k5 _ (by omega)).trans ((k4 _ (by omega)).trans ((k3 _ (by omega)).trans (k2 _ (by omega))))), (k5 _ (by omega)).trans ((k4 _ (by omega)).trans ((k3 _ (by omega)).trans b2)), b3.on ((k5 _ (by omega)).trans (k4 _ (by omega))), box_on b4 (k5 _ (by omega)), b5.cell⟩
 rw [h, h4, h3, h2, h1]
 exact (((((wB _ w).alloc (nR _) _).alloc (by simp <;> omega) _).alloc (by simp <;> omega) _).alloc (by simp <;> omega) _).alloc (by simp <;> omega) _
theorem Firsts.same {α : Type} {key val : α → Value} {F : List α} {M : List (Value × Value)} {x : α} (h : Firsts key val F M) (ho : ∃ y ∈ M, y.1 = key x) : Firsts key val (F ++ [x]) M := by
 refine ⟨h.more ho, by have := h.len.1; simp; omega, ⟨fun e => ?_, fun hn => ?_⟩⟩
 · have := h.len.1
   simp at e
   omega
 obtain ⟨p, hp, hk⟩ := (h.keys (key x)).1 ho
 rw [List.map_append, List.map_cons, List.map_nil, List.nodup_append] at hn
 exact absurd rfl (hn.2.2 _ (List.mem_map_of_mem hp) (key x) (by simp) |> fun hh => by rw [hk] at hh; exact hh)
theorem cm_same {B mb : Nat} {pre : List Cn} {x : Cn} {M : List (Value × Value)} {X : World} {z v : Value} (hne : B ≠ mb) (hB : Boxed X B 53 (.map (some mb))) (hmi : MapIs X mb M) (hK : ∀ x ∈ M, StrK x.1) (hF : Firsts ckey cval pre M) (hit : Hits M (.string x.1) z v true) :
 ∃ Fp2, Fr [B, mb] X X ∧ (∀ k ∈ Fp2, (k ∈ [B, mb] ∨ X.heap.size ≤ k) ∧ k < X.heap.size) ∧ CmI B mb (pre ++ [x]) Fp2 X := by
 refine ⟨[B, mb], Fr.refl _ _, fun k hk => ?_, rfl, hne, hB, M, hmi, hK, hF.same ?_⟩
 · refine ⟨Or.inl hk, ?_⟩
   simp at hk
   rcases hk with rfl | rfl
   · exact hB.lt
   exact hmi.lt
 rcases hit with ⟨h, -⟩ | ⟨-, -, h⟩
 · exact ⟨_, h, rfl⟩
 cases h
theorem cm_step {B mb : Nat} {pre : List Cn} {x : Cn} {M L2 : List (Value × Value)} {X W5 : World} {z v : Value} (hne : B ≠ mb) (hB : Boxed X B 53 (.map (some mb))) (hmi : MapIs X mb M) (hK : ∀ x ∈ M, StrK x.1) (hF : Firsts ckey cval pre M) (hit : Hits M (.string x.1) z v false)
 (h2 : MapIs W5 mb L2) (hp : Put M (.string x.1) (.int .i64 (x.2 : Int)) L2) (hg : X.grownBy W5 (some mb)) :
 ∃ Fp2, Fr [B, mb] X W5 ∧ (∀ k ∈ Fp2, (k ∈ [B, mb] ∨ X.heap.size ≤ k) ∧ k < W5.heap.size) ∧ CmI B mb (pre ++ [x]) Fp2 W5 := by
 obtain ⟨es, clock, -, -, hn⟩ := id hmi
 refine ⟨[B, mb], Fr.grown hg (fun k e => by cases e; simp), fun k hk => ⟨Or.inl hk, ?_⟩, rfl, hne, box_on hB (hg.block B hB.lt (fun e => hne (Option.some.inj e))), L2, h2, hp.nodup_keys hK ⟨_, rfl⟩, hF.snoc hn hp ?_⟩
 · simp at hk
   rcases hk with rfl | rfl
   · exact nL hB.lt hg.size
   exact h2.lt
 rcases hit with ⟨-, h⟩ | ⟨h, -, -⟩
 · cases h
 exact h
def DemPost (l : List Ru) (w : World) (e : Ending) (w2 : World) : Prop :=
 ∃ (mb mb2 : Nat) (M M2 : List (Value × Value)) (wq : World) (xs : List (Rt wq)) (G : List Cn), e = .returned (.agg #[.map (some mb), .map (some mb2)]) ∧ (MapIs w2 mb M ∧ (∀ x ∈ M, StrK x.1) ∧ xs.map Rt.pair = numd 0 l ∧ Firsts rname Rt.val xs M) ∧ (MapIs w2 mb2 M2 ∧ (∀ x ∈ M2, StrK x.1) ∧ Firsts ckey cval G M2 ∧ ∀ q, G.find? q = (consAll l).find? q) ∧ Below w.heap.size w w2
theorem res_dem {fn : Func} (h : fn.results = #[.cell 2 55]) (tmps : Array Value) (W : World) (rb : Nat) (u v : Value) (ht : tmps.getD 2 undef = .pointer (some ⟨rb, 0, none⟩)) (hc : W.cell? ⟨rb, 0, none⟩ = some u) (hd : W.cell? ⟨rb, 1, none⟩ = some v) (hu : ∃ k, u = .map k) (hv : ∃ k, v = .map k) : (results fn tmps).run Tryz.prog W = .ok (.agg #[u, v]) W := by
 obtain ⟨k, rfl⟩ := hu
 obtain ⟨k2, rfl⟩ := hv
 rw [Array.getD_eq_getD_getElem?] at ht
 simp [results, h, ht, go_sem, hc, hd]
theorem dem_end {F : Fence} {n : Nat} {fn : Func} {tmps : Array Value} {mb D : Nat} {l : List Ru} {M M1 : List (Value × Value)} {xs : List Cn} {w X w6 : World} {ys : List (Rt X.drew)} (h : fn.results = #[.cell 2 55]) (ht : tmps.getD 2 undef = .pointer (some ⟨w.heap.size + 1, 0, none⟩)) (hlow : Below w.heap.size w X) (hK : X.heap[D]? = some (.deferred (some []))) (hD : w.heap.size + 5 ≤ D)
 (hrb : w.heap.size + 3 < X.heap.size) (hmi : MapIs X (w.heap.size + 2) M) (hKM : ∀ x ∈ M, StrK x.1) (hF : Firsts ckey cval xs M) (hS : ∀ q, xs.find? q = (consAll l).find? q)
 (hm6 : MapIs w6 mb M1) (hk6 : ∀ x ∈ M1, StrK x.1) (hy6 : ys.map Rt.pair = numd 0 l) (hf6 : Firsts rname Rt.val ys M1) (hl6 : X.drew.heap.size ≤ mb) (hb6 : Below X.drew.heap.size X.drew w6) (hz2 : w6.cell? ⟨w.heap.size + 1, 0, none⟩ = some (.map none)) (hz3 : w6.cell? ⟨w.heap.size + 1, 1, none⟩ = some (.map none)) :
 LeavesInM F n Tryz.prog fn tmps (DemPost l w) [{ target := .collected D, args := #[] }] .returning ((w6.setCell ⟨w.heap.size + 1, 0, none⟩ (.map (some mb))).setCell ⟨w.heap.size + 1, 1, none⟩ (.map (some (w.heap.size + 2)))) := by
 have hb6 : Below X.heap.size X w6 := (wB _ X).drew.trans hb6
 have hl6 : X.heap.size ≤ mb := hl6
 have hDl := (Array.getElem?_eq_some_iff.1 hK).1
 obtain ⟨Y, hY⟩ : ∃ Y, Y = (w6.setCell ⟨w.heap.size + 1, 0, none⟩ (.map (some mb))).setCell ⟨w.heap.size + 1, 1, none⟩ (.map (some (w.heap.size + 2))) := ⟨_, rfl⟩
 rw [← hY]
 have hf : Fr [w.heap.size + 1] w6 Y := by rw [hY]; exact (Fr.set (S := [w.heap.size + 1]) _ _ _ (by simp)).trans (Fr.set (S := [w.heap.size + 1]) _ _ _ (by simp)) (by simp)
 have hs6 := hb6.size
 have hYD : Y.heap[D]? = some (.deferred (some [])) := (hf.block D (by omega) (by simp; omega)).trans ((hb6.block D hDl).trans hK)
 have c0 : Y.cell? ⟨w.heap.size + 1, 0, none⟩ = some (.map (some mb)) := by
  rw [hY, World.cell?_setCell_other _ _ _ _ (by simp)]
  exact World.cell?_setCell_same _ _ _ hz2
 have c1 : Y.cell? ⟨w.heap.size + 1, 1, none⟩ = some (.map (some (w.heap.size + 2))) := by
  rw [hY]
  exact World.cell?_setCell_same _ _ _ (by rw [World.cell?_setCell_other _ _ _ _ (by simp)]; exact hz3)
 refine ⟨by simp, .inl ⟨D, _, rfl, run_takeDeferred hYD, ?_⟩⟩
 have k : ∀ {o : Obj} (j : Nat), j ≠ D → (Y.putObj D o).heap[j]? = Y.heap[j]? := fun {o} j hj => World.putObj_heap_other hj
 refine ⟨.agg #[.map (some mb), .map (some (w.heap.size + 2))], res_dem h tmps _ (w.heap.size + 1) _ _ ht ((World.cell?_of_block (w := Y) (k (w.heap.size + 1) (by omega))).trans c0) ((World.cell?_of_block (w := Y) (k (w.heap.size + 1) (by omega))).trans c1) ⟨_, rfl⟩ ⟨_, rfl⟩, mb, w.heap.size + 2, M1, M, X.drew, ys, xs, rfl, ⟨(hm6.on (hf.block mb hm6.lt (by simp; omega))).on (World.putObj_heap_other (by omega)), hk6, hy6, hf6⟩, ⟨((hmi.on (hb6.block _ hmi.lt)).on (hf.block _ (by omega) (by simp))).on (World.putObj_heap_other (by omega)), hKM, hF, hS⟩, ?_⟩
 exact ((hlow.trans (hb6.mono hlow.size)).trans (hf.below (by simp) (by omega))).trans ((Fr.put (S := [D]) Y _ _ (by simp)).below (by simp; omega) (by have := hf.size; omega))
theorem drop_rest {F : Fence} {n : Nat} {P : Program} {c : Code} {K : Act → World → Prop} {Q : Exit → Act → World → Prop} {a : Act} {w : World} (h : c.wpIn F n P (Exit.then K (fun _ _ _ => False)) a w) : c.wpIn F n P (Exit.then K Q) a w :=
 wpIn_mono h (fun e a W hq => by
  cases e with
  | normal => exact hq
  | exit id => exact hq.elim
  | goto t => exact hq.elim
  | ret => exact hq.elim
  | panic c => exact hq.elim
  | outgrown => exact hq.elim)
theorem dem_after {b : Nat} {A : Option Addr} {m c : Nat} {X Z : World} (h : Hid (X.cell? ⟨b, 0, none⟩ = some (.slice A m c) ∧ X.cell? ⟨b + 1 + 1 + 1, 0, none⟩ = some (.map (some (b + 1 + 1))) ∧ X.heap[b + 1]? = some (.cells #[.map none, .map none] 55 (0, 0)))) (hb : Below X.drew.heap.size X.drew Z) :
 Z.cell? ⟨b + 1 + 1 + 1, 0, none⟩ = some (.map (some (b + 1 + 1))) ∧ Z.cell? ⟨b + 1, 0, none⟩ = some (.map none) ∧ Z.cell? ⟨b + 1, 1, none⟩ = some (.map none) ∧ Z.frozen? ⟨b + 1, 0, none⟩ = false ∧ Z.frozen? ⟨b + 1, 1, none⟩ = false ∧ b + 1 < Z.heap.size := by
 obtain ⟨-, h2, h3⟩ := h.out
 have hl := (Array.getElem?_eq_some_iff.1 h3).1
 have k3 : Z.heap[b + 1]? = _ := (hb.block (b + 1) hl).trans h3
 refine ⟨(hb.cell (p := ⟨b + 1 + 1 + 1, 0, none⟩) (World.block_lt_of_cell? X _ h2)).trans h2, ?_, ?_, ?_, ?_, nL hl hb.size⟩
 · simp [World.cell?, k3]
 · simp [World.cell?, k3]
 · simp [World.frozen?, k3]
 simp [World.frozen?, k3]
set_option maxRecDepth 100000 in
theorem dem_in (F : Fence) (n : Nat) (hFw : F = Fence.wide) (hro : F.round = none) (hF : ∀ k, F.fn k) (hn : 10 ≤ n) (l : List Ru) (v : Value) (bs : List Nat) (w : World) (hv : PrIs w v l bs) (hfr : Thawed w bs) (hb : ∀ r ∈ l, exSize r.body ≤ 1099511627776) (hlb : l.length ≤ 1099511627776) :
 CallsIn F n Tryz.prog 26 #[v] w (DemPost l w) := by
 obtain ⟨u, rfl, hu⟩ := id hv
 obtain ⟨A, c, rfl, hc1, hc2, -⟩ := id hu
 have h1 : 1 ≤ n := by omega
 have HFW := zH hFw
 have HU := zH hu
 have HFR := zH hfr
 have HB := zH hb
 have HLB := zH hlb
 have HV := zH hv
 obtain ⟨m, hm⟩ : ∃ m, m = l.length := ⟨_, rfl⟩
 rw [← hm] at HU HV hc1 ⊢
 have hmk := run_makeCon
 clear hv hu hFw hfr hb hm hlb
 refine callsIn_of_wp_marks Tryz.func26 rfl (hF _) ?_ hro
 simp only [Tryz.ntmps26, List.size_toArray, lC, List.length_nil, Nat.reduceAdd, Nat.reduceSub, Array.replicate_succ, Array.replicate_zero, List.push_toArray, List.append_toArray, List.nil_append, List.cons_append]
 gi_wp2_with (gi_at_call 40; refine (constructors_in F (n - 1) hF hro _ _ _ _).mono ?_; rintro e w' ⟨rfl, rfl⟩)
 obtain ⟨W0, hW0⟩ : ∃ W0, W0 = ((((w.alloc (.cells #[.slice A m c] 26)).alloc (.cells #[.map none, .map none] 55)).alloc (.map #[] 0)).alloc (.cells #[.map (some (w.heap.size + 2))] 53)).alloc (.cells #[.slice A m c] 26) := ⟨_, rfl⟩
 rw [← hW0]
 have HX := zH (dem_start w A m c W0 hW0)
 clear hW0 hmk
 have hx1 := HX.out.1
 refine wpIn_rangeFunc_frame hro h1 (gf := 61) (lb := #[.pointer (some ⟨w.heap.size + 4, 0, none⟩)]) rfl (hF _) (enters_of Tryz.func61 (by kernel_rfl) rfl)
  (cons_stops F (n - 1) HFW.out hro hF (by omega) w l A m c bs HU.out HB.out (fun z hz => (HFR.out z hz).2) (w.heap.size + 4) W0 HX.out.2.1 HX.out.2.2.2.2.2.2 (by omega)) (wB _ _) (by omega) (fun k hk => by cases hk) (fun _ => rfl)
  (CmI (w.heap.size + 3) (w.heap.size + 2)) (fun _ _ _ _ => False) (cmi_foot _ _) (fun _ _ _ _ _ h _ _ => h) [w.heap.size + 3, w.heap.size + 2] (fun k hk => by simp at hk; rcases hk with rfl | rfl <;> simp <;> omega) ⟨rfl, by omega, HX.out.2.2.2.2.2.1, [], HX.out.2.2.2.2.1, (fun x hx => by cases hx), firsts_nil⟩
  (fun pre x a2 Fp X => a2 = { tmps := #[.agg #[.slice A m c], .pointer (some ⟨w.heap.size, 0, none⟩), .pointer (some ⟨w.heap.size + 1, 0, none⟩), .pointer (some ⟨w.heap.size + 3, 0, none⟩), .string x.1, .int .i64 (x.2 : Int), undef, undef, .map (some (w.heap.size + 2)), .agg #[.slice A m c], consFun (w.heap.size + 4), .string x.1, .int .i64 (x.2 : Int), undef, undef, undef, undef, undef, undef, undef, undef, undef, undef, undef, undef, undef, undef, undef], defers := [] } ∧ CmI (w.heap.size + 3) (w.heap.size + 2) pre Fp X) (fun xs x a2 Fp X Y h hs hk => ⟨h.1, cmi_foot _ _ _ _ _ _ h.2 hs hk⟩) ?assign ?body ?done ?stop
 case assign =>
  intro l2 pre x Fp X KX hI hFp hFr hK
  have HI := zH hI
  have HFP := zH hFp
  have HKX := zH hK
  clear hI hFp hFr hK
  dsimp only [Cn.enc]
  gi_wp2
  exact HKX.out _ Fp _ (Fr.refl _ _) (fun k hk => ⟨Or.inl hk, (HFP.out k hk).2⟩) ⟨rfl, HI.out⟩
 case body =>
  rintro l2 pre x _ Fp X ⟨rfl, rfl, hne, hB, M, hmi, hKM, hFs⟩ hFp hFr hlen
  have hc := hB.cell
  obtain ⟨v, b, hrun, hit⟩ := hmi.look (strT X) Tryz.underlying53 (zeroInt X) (key := .string x.1) ⟨_, rfl⟩ hKM
  have hr2 := hrun true
  simp only [if_true] at hr2
  have HB1 := zH hB
  have HMI := zH hmi
  have HKM := zH hKM
  have HFS := zH hFs
  have HNE := zH hne
  rcases hFs.hits hit with ⟨p, hp1, hp2, hp3⟩ | ⟨hp1, hp2, hp3⟩
  · subst hp2 hp3
    dsimp only [cval] at hr2
    have HHIT := zH hit
    clear hB hmi hKM hFs hne hFp hFr hrun hit hp1
    gi_wp2
    exact cm_same HNE.out HB1.out HMI.out HKM.out HFS.out HHIT.out
  subst hp2 hp3
  have HHIT := zH hit
  clear hB hmi hKM hFs hne hFp hFr hrun hit hp1
  gi_wp2_with (gi_at_mapUpdate; refine asc_put_in _ rfl _ _ _ 53 rfl 9 3 Tryz.underlying53 StrK (strT X) (w.heap.size + 2) M rfl HMI.out _ _ rfl rfl ⟨_, rfl⟩ HKM.out ?_; intro W5 L2 hmi5 hput5 hgr5; have HM5 := zH hmi5; have HP5 := zH hput5; have HG5 := zH hgr5; clear hmi5 hput5 hgr5)
  exact cm_step HNE.out HB1.out HMI.out HKM.out HFS.out HHIT.out HM5.out HP5.out HG5.out
 case done =>
  rintro D xs Fp X hD hDF hFl hS ⟨rfl, hne, hB, M, hmi, hKM, hFs⟩ hFr hK
  have hFw := HFW.out
  subst hFw
  have HLW := zH (show Below w.heap.size w X from HX.out.2.1.trans (hFr.below (by simp <;> omega) (by omega)))
  have hc : X.cell? ⟨w.heap.size + 1 + 1 + 1, 0, none⟩ = some (.map (some (w.heap.size + 1 + 1))) := hB.cell
  have hpc := (box_on HX.out.2.2.1 (hFr.block w.heap.size (by omega) (by simp <;> omega))).cell
  have hrb := (hFr.block (w.heap.size + 1) (by omega) (by simp <;> omega)).trans HX.out.2.2.2.1
  have HC0 := zH (show X.cell? ⟨w.heap.size, 0, none⟩ = some (.slice A m c) ∧ X.cell? ⟨w.heap.size + 1 + 1 + 1, 0, none⟩ = some (.map (some (w.heap.size + 1 + 1))) ∧ X.heap[w.heap.size + 1]? = some (.cells #[.map none, .map none] 55 (0, 0)) from ⟨hpc, hc, hrb⟩)
  have HDX := zH hD
  have HCALL := zH (own_first l _ bs X.drew (HV.out.below HLW.out.drew) HLB.out)
  have HB1 := zH hB
  have HMI := zH hmi
  have HKM := zH hKM
  have HFS := zH hFs
  have HNE := zH hne
  have HS := zH hS
  have HK := zH hK
  clear hB hmi hKM hFs hne hFr hS hK hFl hrb hD hDF
  gi_wp2
  refine drop_rest (wpIn_wide.2 ?_)
  go_region_law (first | (go_simp; go_at_call 29; refine HCALL.out.mono ?_; rintro r w6 ⟨mb, M1, ys, rfl, hm6, hk6, hy6, hf6, hl6, hb6⟩; obtain ⟨hz1, hz2, hz3, hz4, hz5, hz6⟩ := dem_after HC0 hb6))
  all_goals
   gi_wp2
   exact dem_end rfl rfl HLW.out HK.out (by have := HDX.out; omega) (by have := HB1.out.lt; omega) HMI.out HKM.out HFS.out HS.out hm6 hk6 hy6 hf6 hl6 hb6 hz2 hz3
 case stop =>
  rintro D c pre Fp X _ _ _ _ h _ _
  exact h.elim
theorem own_dem (l : List Ru) (v : Value) (bs : List Nat) (w : World) (hv : PrIs w v l bs) (hfr : Thawed w bs) (hb : ∀ r ∈ l, exSize r.body ≤ 1099511627776) (hlb : l.length ≤ 1099511627776) : Calls Tryz.prog 26 #[v] w (DemPost l w) :=
 callsIn_wide.1 (dem_in Fence.wide 10 rfl rfl (fun _ => trivial) (nR _) l v bs w hv hfr hb hlb)
end Go.Proofs.YtiaknfnhmoinpaaGreat
namespace Go.Proofs.YtiaknfnhmoinpaaGreat
end Go.Proofs.YtiaknfnhmoinpaaGreat
