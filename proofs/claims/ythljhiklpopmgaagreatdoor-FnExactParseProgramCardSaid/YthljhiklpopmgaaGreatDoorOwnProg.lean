/- A part of the proof of the seat's statement: OwnProg. Condition: as each says. -/
import Derived.Test.YthljhiklpopmgaaGreatDoorOwnRuText
import Derived.Test.YthljhiklpopmgaaGreatDoorMetKit
import Derived.Test.YthljhiklpopmgaaGreatDoorSpecSplit
import Derived.Test.YthljhiklpopmgaaGreatDoorSpecReadPr
import Derived.Maps.OwnIn
import Derived.BigRegionIn
set_option maxHeartbeats 8000000
namespace Go.Proofs.YthljhiklpopmgaaGreatDoor
open Go Go.RowKit Go.Shelf
attribute [local go_sem] Oper.semAt_some
theorem RKids.on {base : Nat} {W W2 : World} {v : Value} {l : List Ru} {bs : List Nat} (h : RKids base W v l bs) (hs : W.heap.size ≤ W2.heap.size) (hk : ∀ k ∈ v.ownBlock.toList ++ bs, W2.heap[k]? = W.heap[k]?) : RKids base W2 v l bs := by
 obtain ⟨⟨vs, hr, hc⟩, hm, ha⟩ := h
 have hkk : Keeps W W2 bs := ⟨hs, fun x hx _ => hk x (List.mem_append_right _ hx)⟩
 exact ⟨⟨vs, row_on hr (fun k e => hk k (List.mem_append_left _ (by simp [e]))), hc.keeps hkk⟩, hm.keeps hkk, ha⟩
def PgI (R2 R3 P : Nat) (pre : List Ln) (Fp : List Nat) (X : World) : Prop :=
 ∃ v acc bs, Fp = R2 :: R3 :: P :: (v.ownBlock.toList ++ bs) ∧ Boxed X R2 24 (.slice none 0 0) ∧ Boxed X R3 41 .nilIface ∧ Boxed X P 24 v ∧ RKids (P + 1) X v acc bs ∧ readOn (pre.map trimL) [] = .inr acc ∧ acc.length = pre.length
def PgX (R2 R3 : Nat) (c : Code) (pre : List Ln) (Fp : List Nat) (X : World) : Prop :=
 c = .ret ∧ ∃ k : Nat, Fp = [R2, R3] ∧ Boxed X R2 24 (.slice none 0 0) ∧ Boxed X R3 41 (.iface 45 (.agg #[.int .i64 (k : Int)])) ∧ readOn (pre.map trimL) [] = .inl k
theorem pgi_foot (R2 R3 P : Nat) (pre : List Ln) : Foot (PgI R2 R3 P pre) := by
 rintro Fp X Y ⟨v, acc, bs, rfl, h1, h2, h3, h4, h5⟩ hs hk
 exact ⟨v, acc, bs, rfl, box_on h1 (hk R2 (by simp)), box_on h2 (hk R3 (by simp)), box_on h3 (hk P (by simp)), h4.on hs (fun k hkk => hk k (by simp at hkk ⊢; exact Or.inr (Or.inr (Or.inr hkk)))), h5⟩
theorem pgx_foot (R2 R3 : Nat) (c : Code) (pre : List Ln) : Foot (PgX R2 R3 c pre) := by
 rintro Fp X Y ⟨h0, k, rfl, h1, h2, h3⟩ hs hk
 exact ⟨h0, k, rfl, box_on h1 (hk R2 (by simp)), box_on h2 (hk R3 (by simp)), h3⟩
def PgA (R2 R3 P : Nat) (tm : Ln → Array Value) (pre : List Ln) (x : Ln) (a : Act) (Fp : List Nat) (X : World) : Prop := PgI R2 R3 P pre Fp X ∧ a = { tmps := tm x, defers := [] }
theorem pga_foot (R2 R3 P : Nat) (tm : Ln → Array Value) (pre : List Ln) (x : Ln) (a : Act) : Foot (PgA R2 R3 P tm pre x a) := by
 rintro Fp X Y ⟨h1, h2⟩ hs hk
 exact ⟨pgi_foot R2 R3 P pre Fp X Y h1 hs hk, h2⟩
theorem read_fail {pre : List Ln} {x : Ln} {acc : List Ru} (h : readOn (pre.map trimL) [] = .inr acc) (hr : readRu (trimL x) = none) : readOn ((pre ++ [x]).map trimL) [] = .inl acc.length := by
 rw [List.map_append, readOn_app, h]
 show readOn [trimL x] acc = _
 rw [readOn, hr]
theorem read_more {pre : List Ln} {x : Ln} {acc : List Ru} {r : Ru} (h : readOn (pre.map trimL) [] = .inr acc) (hr : readRu (trimL x) = some r) : readOn ((pre ++ [x]).map trimL) [] = .inr (acc ++ [r]) := by
 rw [List.map_append, readOn_app, h]
 show readOn [trimL x] acc = _
 rw [readOn, hr]; rfl
theorem RKids.isIn {base : Nat} {W : World} {v : Value} {l : List Ru} {bs : List Nat} (h : RKids base W v l bs) : ∃ bs2, RsIs W v l bs2 ∧ Mine W base bs2 ∧ ∀ x ∈ bs2, x ∈ v.ownBlock.toList ++ bs := by
 obtain ⟨⟨vs, hr, hc⟩, hm, ha⟩ := h
 rcases hr.2 with ⟨rfl, h0⟩ | ⟨g, cap, cur, rfl, hb, hg, h1, h2, -⟩
 · obtain rfl : l = [] := List.eq_nil_of_length_eq_zero h0
   obtain ⟨-, rfl⟩ := hc
   exact ⟨[], ⟨_, _, rfl, Nat.le_refl _, by omega, Or.inl ⟨rfl, rfl⟩⟩, Mine.nil _ _, fun x hx => by cases hx⟩
 have hlt : g < W.heap.size := (Array.getElem?_eq_some_iff.1 hg).1
 refine ⟨g :: bs, ⟨_, _, rfl, h1, by unfold maxLen at h2; omega, Or.inr ⟨g, 0, bs, rfl, hlt, rfl, hc.rus 0 (fun j u hj => ?_)⟩⟩, ?_, fun x hx => by simpa [Value.ownBlock] using hx⟩
 · have h3 := hr.cells (g := g) rfl j u hj
   rw [show (⟨g, 0, none⟩ : Addr).add j = ⟨g, 0 + 0 * 7 + j, none⟩ by unfold Addr.add; split <;> simp_all] at h3
   exact h3
 refine ⟨List.nodup_cons.2 ⟨ha g rfl, hm.nodup⟩, fun x hx => ?_, fun x hx o => ?_⟩
 · rcases List.mem_cons.1 hx with rfl | hx
   · exact ⟨hb, hlt⟩
   exact hm.range x hx
 rcases List.mem_cons.1 hx with rfl | hx
 · exact hr.frozenAt o
 exact hm.free x hx o
theorem pg_stop {R2 R3 k : Nat} {pre : List Ln} {x : Ln} {Fp : List Nat} {X w3 W2 : World} (hX : Below X.heap.size X w3) (hf : Fr [R2, R3] w3 W2) (h2 : Boxed W2 R2 24 (.slice none 0 0)) (h3 : Boxed W2 R3 41 (.iface 45 (.agg #[.int .i64 (k : Int)])))
 (hr : readOn ((pre ++ [x]).map trimL) [] = .inl k) (hm2 : R2 ∈ Fp) (hm3 : R3 ∈ Fp) : ∃ Fp2, Fr Fp X W2 ∧ (∀ j ∈ Fp2, (j ∈ Fp ∨ X.heap.size ≤ j) ∧ j < W2.heap.size) ∧ PgX R2 R3 .ret (pre ++ [x]) Fp2 W2 := by
 refine ⟨[R2, R3], (Fr.of_below (S := Fp) hX).trans hf (fun j hj => ?_), fun j hj => ?_, rfl, k, rfl, h2, h3, hr⟩
 · simp at hj
   rcases hj with rfl | rfl
   · exact Or.inl hm2
   exact Or.inl hm3
 simp at hj
 rcases hj with rfl | rfl
 · exact ⟨Or.inl hm2, h2.lt⟩
 exact ⟨Or.inl hm3, h3.lt⟩
theorem pg_stopA {R2 R3 k : Nat} {pre : List Ln} {x : Ln} {Fp : List Nat} {X w3 : World} {ev : Value} (o : Obj) (hX : Below X.heap.size X w3) (h2 : Boxed w3 R2 24 (.slice none 0 0)) (h3 : Boxed w3 R3 41 ev) (hne : R2 ≠ R3)
 (hr : readOn ((pre ++ [x]).map trimL) [] = .inl k) (hm2 : R2 ∈ Fp) (hm3 : R3 ∈ Fp) : ∃ Fp2, Fr Fp X (((w3.setCell ⟨R2, 0, none⟩ (.slice none 0 0)).setCell ⟨R3, 0, none⟩ (.iface 45 (.agg #[.int .i64 (k : Int)]))).alloc o).drew ∧ (∀ j ∈ Fp2, (j ∈ Fp ∨ X.heap.size ≤ j) ∧ j < (((w3.setCell ⟨R2, 0, none⟩ (.slice none 0 0)).setCell ⟨R3, 0, none⟩ (.iface 45 (.agg #[.int .i64 (k : Int)]))).alloc o).drew.heap.size) ∧ PgX R2 R3 .ret (pre ++ [x]) Fp2 (((w3.setCell ⟨R2, 0, none⟩ (.slice none 0 0)).setCell ⟨R3, 0, none⟩ (.iface 45 (.agg #[.int .i64 (k : Int)]))).alloc o).drew :=
 pg_stop hX ((((Fr.set (S := [R2, R3]) w3 ⟨R2, 0, none⟩ _ (by simp)).trans (Fr.set (S := [R2, R3]) _ ⟨R3, 0, none⟩ _ (by simp)) (fun x hx => Or.inl hx)).trans (Fr.alloc _ o) (fun x hx => Or.inl hx)).drew) ((((h2.set _).other hne _).alloc o)) ((((h3.other (Ne.symm hne) _).set _).alloc o)) hr hm2 hm3
theorem pg_stopB {R2 R3 k : Nat} {pre : List Ln} {x : Ln} {Fp : List Nat} {X w3 : World} {ev : Value} (o : Obj) (hX : Below X.heap.size X w3) (h2 : Boxed w3 R2 24 (.slice none 0 0)) (h3 : Boxed w3 R3 41 ev) (hne : R2 ≠ R3)
 (hr : readOn ((pre ++ [x]).map trimL) [] = .inl k) (hm2 : R2 ∈ Fp) (hm3 : R3 ∈ Fp) : ∃ Fp2, Fr Fp X (((w3.setCell ⟨R3, 0, none⟩ (.iface 45 (.agg #[.int .i64 (k : Int)]))).setCell ⟨R2, 0, none⟩ (.slice none 0 0)).alloc o).drew ∧ (∀ j ∈ Fp2, (j ∈ Fp ∨ X.heap.size ≤ j) ∧ j < (((w3.setCell ⟨R3, 0, none⟩ (.iface 45 (.agg #[.int .i64 (k : Int)]))).setCell ⟨R2, 0, none⟩ (.slice none 0 0)).alloc o).drew.heap.size) ∧ PgX R2 R3 .ret (pre ++ [x]) Fp2 (((w3.setCell ⟨R3, 0, none⟩ (.iface 45 (.agg #[.int .i64 (k : Int)]))).setCell ⟨R2, 0, none⟩ (.slice none 0 0)).alloc o).drew :=
 pg_stop hX ((((Fr.set (S := [R2, R3]) w3 ⟨R3, 0, none⟩ _ (by simp)).trans (Fr.set (S := [R2, R3]) _ ⟨R2, 0, none⟩ _ (by simp)) (fun x hx => Or.inl hx)).trans (Fr.alloc _ o) (fun x hx => Or.inl hx)).drew) ((((h2.other hne _).set _).alloc o)) ((((h3.set _).other (Ne.symm hne) _).alloc o)) hr hm2 hm3
theorem pg_push {R2 R3 P q c : Nat} {A : Option Addr} {pre : List Ln} {x : Ln} {X w3 w7 : World} {acc : List Ru} {r : Ru} {bs b2 : List Nat} {vs : List Value} {v1 v2 u v7 : Value} {bx o : Obj} (hq : q = acc.length) (hX : Below X.heap.size X w3)
 (hR2 : Boxed X R2 24 (.slice none 0 0)) (hR3 : Boxed X R3 41 .nilIface) (hP : Boxed X P 24 (.slice A q c)) (h23 : R2 < P ∧ R3 < P) (hk : RKids (P + 1) X (.slice A q c) acc bs)
 (hri : RuIs w3 (.agg #[.string r.name, .string r.con, v1, v2, .int .i64 r.body.kind, .string r.body.name, u]) r b2) (hm2 : Mine w3 X.heap.size b2)
 (hvs : (w3.alloc bx).ownsRow (P + 1) 36 7 (.slice A q c) acc.length vs ∧ RCells (w3.alloc bx) acc vs bs)
 (ho : w7.ownsRow (P + 1) 36 7 v7 (q + 1) (vs ++ [.string r.name, .string r.con, v1, v2, .int .i64 r.body.kind, .string r.body.name, u])) (hg : ((w3.alloc bx).alloc o).grownBy w7 (Value.ownBlock (.slice A q c))) (hat : v7.ownBlock = Value.ownBlock (.slice A q c) ∨ v7.ownBlock = some ((w3.alloc bx).alloc o).heap.size)
 (hread : readOn ((pre ++ [x]).map trimL) [] = .inr (acc ++ [r])) (hlen : acc.length = pre.length) :
 ∃ g cap, v7 = .slice (some ⟨g, 0, none⟩) (q + 1) cap ∧ Boxed w7 P 24 (.slice A q c) ∧ ∃ Fp2, Fr (R2 :: R3 :: P :: ((Value.ownBlock (.slice A q c)).toList ++ bs)) X (w7.setCell ⟨P, 0, none⟩ v7) ∧ (∀ k ∈ Fp2, (k ∈ R2 :: R3 :: P :: ((Value.ownBlock (.slice A q c)).toList ++ bs) ∨ X.heap.size ≤ k) ∧ k < (w7.setCell ⟨P, 0, none⟩ v7).heap.size) ∧ PgI R2 R3 P (pre ++ [x]) Fp2 (w7.setCell ⟨P, 0, none⟩ v7) := by
 subst hq
 have hPl := hP.lt
 have hrow : ∀ k, Value.ownBlock (.slice A acc.length c) = some k → P + 1 ≤ k ∧ k < X.heap.size := fun k hkk => by
  obtain ⟨vs2, hr2, -⟩ := hk.row
  exact hr2.lt k hkk
 have hk3 : RKids (P + 1) w3 (.slice A acc.length c) acc bs := hk.keep (Fr.of_below (S := []) hX) (by simp)
 have hkx : RKids (P + 1) (w3.alloc bx) (.slice A acc.length c) acc bs := hk3.keep (Fr.alloc (S := []) w3 bx) (by simp)
 have ha : Keeps w3 (w3.alloc bx) b2 := fr_keeps (Fr.alloc (S := []) w3 bx) (by simp)
 obtain ⟨g, cap, rfl⟩ : ∃ g cap, v7 = .slice (some ⟨g, 0, none⟩) (acc.length + 1) cap := by
  rcases ho.2 with ⟨h0, h9⟩ | ⟨g, cap, cur, h0, -⟩
  · cases h9
  exact ⟨g, cap, h0⟩
 have hat2 : Value.ownBlock (.slice A acc.length c) = some g ∨ g = ((w3.alloc bx).alloc o).heap.size := by
  rcases hat with h9 | h9
  · exact Or.inl h9.symm
  exact Or.inr (Option.some.inj h9)
 have hK := hkx.push (o := o) (C := X.heap.size) hPl (fun y hy => by
  rcases hy with hy | hy
  · exact (hk.mine.range y hy).2
  exact (hrow y hy).2) hvs (hri.keeps ha) (hm2.keeps ha) ho hg hat2
 have hF3 : Fr (Value.ownBlock (.slice A acc.length c)).toList ((w3.alloc bx).alloc o) w7 := Fr.grown hg (fun k hk => by simp [hk])
 have hF : Fr (Value.ownBlock (.slice A acc.length c)).toList X w7 := (Fr.of_below hX).trans (((Fr.alloc w3 bx).trans (Fr.alloc (w3.alloc bx) o) (fun y hy => Or.inl hy)).trans hF3 (fun y hy => Or.inl hy)) (fun y hy => Or.inl hy)
 have hno : ∀ k, k ≤ P → k ∉ (Value.ownBlock (.slice A acc.length c)).toList := fun k hk hkk => by have := (hrow k (by simpa using hkk)).1; omega
 have hP7 : Boxed w7 P 24 (.slice A acc.length c) := box_on hP (hF.block P hPl (hno P (Nat.le_refl _)))
 have hR27 := box_on hR2 (hF.block R2 hR2.lt (hno R2 (by omega)))
 have hR37 := box_on hR3 (hF.block R3 hR3.lt (hno R3 (by omega)))
 have hmr := hK.mine.range
 have hK2 := hK.keep (Fr.set (S := [P]) w7 ⟨P, 0, none⟩ (.slice (some ⟨g, 0, none⟩) (acc.length + 1) cap) (by simp)) (by simp)
 have hgl : g < w7.heap.size := (ho.lt g rfl).2
 refine ⟨g, cap, rfl, hP7, R2 :: R3 :: P :: ((Value.ownBlock (.slice (some ⟨g, 0, none⟩) (acc.length + 1) cap)).toList ++ (bs ++ b2)), ?_, fun k hkk => ?_, ⟨_, _, _, rfl, hR27.other (by omega) _, hR37.other (by omega) _, hP7.set _, hK2, hread, by rw [List.length_append, List.length_append, hlen]; rfl⟩⟩
 · refine (hF.mono (T := R2 :: R3 :: P :: ((Value.ownBlock (.slice A acc.length c)).toList ++ bs)) (fun y hy => Or.inl (by simp only [List.mem_cons, List.mem_append]; exact Or.inr (Or.inr (Or.inr (Or.inl hy)))))).trans (Fr.set (S := [P]) w7 ⟨P, 0, none⟩ _ (by simp)) (fun y hy => Or.inl (by rw [List.mem_singleton] at hy; subst hy; simp))
 have hz : (w7.setCell ⟨P, 0, none⟩ (.slice (some ⟨g, 0, none⟩) (acc.length + 1) cap)).heap.size = w7.heap.size := by simp [World.setCell]
 rw [hz]
 simp only [List.mem_cons, List.mem_append] at hkk ⊢
 rcases hkk with rfl | rfl | rfl | hkk | hkk | hkk
 · exact ⟨Or.inl (Or.inl rfl), hR27.lt⟩
 · exact ⟨Or.inl (Or.inr (Or.inl rfl)), hR37.lt⟩
 · exact ⟨Or.inl (Or.inr (Or.inr (Or.inl rfl))), hP7.lt⟩
 · have hkg : k = g := by simpa [Value.ownBlock, eq_comm] using hkk
   subst hkg
   refine ⟨?_, hgl⟩
   rcases hat2 with h9 | h9
   · exact Or.inl (Or.inr (Or.inr (Or.inr (Or.inl (by simp [h9])))))
   refine Or.inr ?_
   rw [h9]
   have := hX.size
   simp
   omega
 · exact ⟨Or.inl (Or.inr (Or.inr (Or.inr (Or.inr hkk)))), (hmr k (List.mem_append_left _ hkk)).2⟩
 exact ⟨Or.inr (hm2.range k hkk).1, (hmr k (List.mem_append_right _ hkk)).2⟩
def PtPost (s : ByteArray) (w : World) (e : Ending) (w2 : World) : Prop :=
 ∃ v bs ev, e = .returned (.tuple #[v, ev]) ∧ PrIs w2 v (readPr s).1 bs ∧ Mine w2 w.heap.size bs ∧ Below w.heap.size w w2 ∧ (((readPr s).2 = -1 ∧ ev = .nilIface) ∨ ∃ k : Nat, (readPr s).2 = (k : Int) ∧ ev = .iface 45 (.agg #[.int .i64 (k : Int)]))
theorem res_pair {fn : Func} (h : fn.results = #[.cell 2 24, .cell 3 41]) (tmps : Array Value) (W : World) (r2 r3 : Nat) (v ev : Value) (h2 : tmps.getD 2 undef = .pointer (some ⟨r2, 0, none⟩)) (h3 : tmps.getD 3 undef = .pointer (some ⟨r3, 0, none⟩)) (c2 : W.cell? ⟨r2, 0, none⟩ = some v) (c3 : W.cell? ⟨r3, 0, none⟩ = some ev) : (results fn tmps).run Tryz.prog W = .ok (.tuple #[.agg #[v], ev]) W := by
 rw [Array.getD_eq_getD_getElem?] at h2 h3
 simp [results, h, h2, h3, go_sem, c2, c3]
theorem pt_end {F : Fence} {n : Nat} {fn : Func} {tmps : Array Value} {D : Nat} {w X : World} {v ev : Value} {s : ByteArray} {bs : List Nat} (h : fn.results = #[.cell 2 24, .cell 3 41]) (ht2 : tmps.getD 2 undef = .pointer (some ⟨w.heap.size, 0, none⟩)) (ht3 : tmps.getD 3 undef = .pointer (some ⟨w.heap.size + 1, 0, none⟩))
 (h2 : Boxed X w.heap.size 24 v) (h3 : Boxed X (w.heap.size + 1) 41 ev) (hK : X.heap[D]? = some (.deferred (some []))) (hD : w.heap.size + 1 < D) (hlow : Below w.heap.size w X) (hpr : PrIs X (.agg #[v]) (readPr s).1 bs) (hm : Mine X w.heap.size bs) (hDb : D ∉ bs)
 (hev : ((readPr s).2 = -1 ∧ ev = .nilIface) ∨ ∃ k : Nat, (readPr s).2 = (k : Int) ∧ ev = .iface 45 (.agg #[.int .i64 (k : Int)])) :
 LeavesInM F n Tryz.prog fn tmps (PtPost s w) [{ target := .collected D, args := #[] }] .returning X := by
 refine ⟨by simp, .inl ⟨D, _, rfl, run_takeDeferred hK, ?_⟩⟩
 refine ⟨.tuple #[.agg #[v], ev], res_pair h tmps _ _ _ v ev ht2 ht3 (box_on h2 (World.putObj_heap_other (by omega))).cell (box_on h3 (World.putObj_heap_other (by omega))).cell, _, bs, ev, rfl, hpr.keeps (fr_keeps (Fr.put (S := [D]) X _ _ (by simp)) (fun x hx => by rw [List.mem_singleton]; rintro rfl; exact hDb hx)), hm.keeps (fr_keeps (Fr.put (S := [D]) X _ _ (by simp)) (fun x hx => by rw [List.mem_singleton]; rintro rfl; exact hDb hx)), hlow.trans ((Fr.put (S := [D]) X _ _ (by simp)).below (by simp; omega) hlow.size), hev⟩
theorem pt_badA {F : Fence} {n : Nat} {fn : Func} {tmps : Array Value} {D k : Nat} {w X : World} {ev : Value} {s : ByteArray} (h2 : Boxed X w.heap.size 24 (.slice none 0 0)) (h3 : Boxed X (w.heap.size + 1) 41 ev) (hne : w.heap.size ≠ w.heap.size + 1) (hK : X.heap[D]? = some (.deferred (some []))) (hD : w.heap.size + 1 < D) (hlow : Below w.heap.size w X)
 (hE1 : (readPr s).1 = []) (hE2 : (readPr s).2 = (k : Int)) (h : fn.results = #[.cell 2 24, .cell 3 41]) (ht2 : tmps.getD 2 undef = .pointer (some ⟨w.heap.size, 0, none⟩)) (ht3 : tmps.getD 3 undef = .pointer (some ⟨w.heap.size + 1, 0, none⟩)) :
 LeavesInM F n Tryz.prog fn tmps (PtPost s w) [{ target := .collected D, args := #[] }] .returning ((X.setCell ⟨w.heap.size, 0, none⟩ (.slice none 0 0)).setCell ⟨w.heap.size + 1, 0, none⟩ (.iface 45 (.agg #[.int .i64 (k : Int)]))).drew := by
 have hfr : Fr [w.heap.size, w.heap.size + 1] X ((X.setCell ⟨w.heap.size, 0, none⟩ (.slice none 0 0)).setCell ⟨w.heap.size + 1, 0, none⟩ (.iface 45 (.agg #[.int .i64 (k : Int)]))).drew := ((Fr.set (S := [w.heap.size, w.heap.size + 1]) X ⟨w.heap.size, 0, none⟩ _ (by simp)).trans (Fr.set (S := [w.heap.size, w.heap.size + 1]) _ ⟨w.heap.size + 1, 0, none⟩ _ (by simp)) (fun y hy => Or.inl hy)).drew
 exact pt_end (v := .slice none 0 0) (bs := []) h ht2 ht3 ((h2.set _).other hne _) ((h3.other (Ne.symm hne) _).set _) ((hfr.block D (Array.getElem?_eq_some_iff.1 hK).1 (by simp; omega)).trans hK) hD (hlow.trans (hfr.below (by simp) hlow.size)) (by rw [hE1]; exact pr_nil _) (Mine.nil _ _) (by simp) (Or.inr ⟨k, hE2, rfl⟩)
theorem pt_badB {F : Fence} {n : Nat} {fn : Func} {tmps : Array Value} {D k : Nat} {w X : World} {ev : Value} {s : ByteArray} (h2 : Boxed X w.heap.size 24 (.slice none 0 0)) (h3 : Boxed X (w.heap.size + 1) 41 ev) (hne : w.heap.size ≠ w.heap.size + 1) (hK : X.heap[D]? = some (.deferred (some []))) (hD : w.heap.size + 1 < D) (hlow : Below w.heap.size w X)
 (hE1 : (readPr s).1 = []) (hE2 : (readPr s).2 = (k : Int)) (h : fn.results = #[.cell 2 24, .cell 3 41]) (ht2 : tmps.getD 2 undef = .pointer (some ⟨w.heap.size, 0, none⟩)) (ht3 : tmps.getD 3 undef = .pointer (some ⟨w.heap.size + 1, 0, none⟩)) :
 LeavesInM F n Tryz.prog fn tmps (PtPost s w) [{ target := .collected D, args := #[] }] .returning ((X.setCell ⟨w.heap.size + 1, 0, none⟩ (.iface 45 (.agg #[.int .i64 (k : Int)]))).setCell ⟨w.heap.size, 0, none⟩ (.slice none 0 0)).drew := by
 have hfr : Fr [w.heap.size, w.heap.size + 1] X ((X.setCell ⟨w.heap.size + 1, 0, none⟩ (.iface 45 (.agg #[.int .i64 (k : Int)]))).setCell ⟨w.heap.size, 0, none⟩ (.slice none 0 0)).drew := ((Fr.set (S := [w.heap.size, w.heap.size + 1]) X ⟨w.heap.size + 1, 0, none⟩ _ (by simp)).trans (Fr.set (S := [w.heap.size, w.heap.size + 1]) _ ⟨w.heap.size, 0, none⟩ _ (by simp)) (fun y hy => Or.inl hy)).drew
 exact pt_end (v := .slice none 0 0) (bs := []) h ht2 ht3 ((h2.other hne _).set _) ((h3.set _).other (Ne.symm hne) _) ((hfr.block D (Array.getElem?_eq_some_iff.1 hK).1 (by simp; omega)).trans hK) hD (hlow.trans (hfr.below (by simp) hlow.size)) (by rw [hE1]; exact pr_nil _) (Mine.nil _ _) (by simp) (Or.inr ⟨k, hE2, rfl⟩)
theorem start_prog (s : ByteArray) (w W0 : World) (h : W0 = (((w.alloc (.cells #[.slice none 0 0] 24)).alloc (.cells #[.nilIface] 41)).alloc (.cells #[.slice none 0 0] 24)).alloc (.cells #[.string s] 9)) :
 W0.heap.size = w.heap.size + 4 ∧ Below w.heap.size w W0 ∧ Boxed W0 w.heap.size 24 (.slice none 0 0) ∧ Boxed W0 (w.heap.size + 1) 41 .nilIface ∧ Boxed W0 (w.heap.size + 1 + 1) 24 (.slice none 0 0) ∧ Boxed W0 (w.heap.size + 1 + 1 + 1) 9 (.string s) := by
 have b0 := Boxed.new w 24 (.slice none 0 0)
 have b1 := Boxed.new (w.alloc (.cells #[.slice none 0 0] 24)) 41 .nilIface
 have b2 := Boxed.new ((w.alloc (.cells #[.slice none 0 0] 24)).alloc (.cells #[.nilIface] 41)) 24 (.slice none 0 0)
 have b3 := Boxed.new (((w.alloc (.cells #[.slice none 0 0] 24)).alloc (.cells #[.nilIface] 41)).alloc (.cells #[.slice none 0 0] 24)) 9 (.string s)
 simp only [World.size_alloc] at b1 b2 b3
 rw [h]
 exact ⟨by simp, (((((Below.refl _ w).alloc (Nat.le_refl _) _).alloc (by simp) _).alloc (by simp; omega) _).alloc (by simp; omega) _), ((b0.alloc _).alloc _).alloc _, (b1.alloc _).alloc _, b2.alloc _, b3⟩
set_option maxRecDepth 100000 in
theorem prog_in (F : Fence) (n : Nat) (hFw : F = Fence.wide) (hro : F.round = none) (hF : ∀ k, F.fn k) (hn : 9 ≤ n) (s : ByteArray) (w : World) (mx : Int) (hmx : w.cell? ⟨1, 0, none⟩ = some (.int .i64 mx)) (hs : s.size ≤ 1048576) :
 CallsIn F n Tryz.prog 12 #[.string s] w (PtPost s w) := by
 have h1 : 1 ≤ n := by omega
 have HFW := zH hFw
 have HMX := zH hmx
 have HS := zH hs
 have hm1 : 1 < w.heap.size := World.block_lt_of_cell? w _ hmx
 obtain ⟨i0, hi, hz0, hz1, hz2⟩ := info_parts Tryz.infoRu
 have HI := zH (And.intro hi (And.intro hz0 (And.intro hz1 hz2)))
 clear hi hz0 hz1 hz2 hFw hmx hs
 refine callsIn_of_wp_marks Tryz.func12 rfl (hF _) ?_ hro
 simp only [Tryz.ntmps12, List.size_toArray, List.length_cons, List.length_nil, Nat.reduceAdd, Nat.reduceSub, Array.replicate_succ, Array.replicate_zero, List.push_toArray, List.append_toArray, List.nil_append, List.cons_append]
 gi_wp2_with (gi_at_call 22; refine (wide_in (n := n - 1) HFW.out (lines_start s _)).mono ?_; rintro e w' ⟨rfl, rfl⟩)
 obtain ⟨W0, hW0⟩ : ∃ W0, W0 = (((w.alloc (.cells #[.slice none 0 0] 24)).alloc (.cells #[.nilIface] 41)).alloc (.cells #[.slice none 0 0] 24)).alloc (.cells #[.string s] 9) := ⟨_, rfl⟩
 rw [← hW0]
 have HX := zH (start_prog s w W0 hW0)
 clear hW0
 have hx1 := HX.out.1
 have HNE := zH (show w.heap.size ≠ w.heap.size + 1 by omega)
 refine wpIn_rangeFunc_frame hro h1 (gf := 44) (lb := #[.pointer (some ⟨w.heap.size + 1 + 1 + 1, 0, none⟩)]) rfl (hF _) (enters_of Tryz.func44 (by kernel_rfl) rfl)
  (encs := fun x : Ln => #[.string x.1]) (n₀ := w.heap.size) (S := fun xs => xs.map trimL = lineL s) (Sp := fun pre => ∃ t, pre.map trimL ++ t = lineL s) (N := (lineL s).length) (M0 := [w.heap.size + 1 + 1 + 1]) (w0 := W0)
  (fun l J Jx X hX hJ hJx hY h0 => lines_in F (n - 1) HFW.out hro hF (by omega) l (w.heap.size + 1 + 1 + 1) w s HS.out J Jx hJ hJx hY X (box_on HX.out.2.2.2.2.2 (hX.block _ (by omega))) h0)
  (Below.refl _ _) (by omega) (by simp; omega) (fun _ => rfl)
  (PgI w.heap.size (w.heap.size + 1) (w.heap.size + 1 + 1)) (PgX w.heap.size (w.heap.size + 1)) (pgi_foot _ _ _) (pgx_foot _ _) [w.heap.size, w.heap.size + 1, w.heap.size + 1 + 1] (fun k hk => by simp at hk; rcases hk with rfl | rfl | rfl <;> simp <;> omega) ⟨_, [], [], rfl, HX.out.2.2.1, HX.out.2.2.2.1, HX.out.2.2.2.2.1, RKids.nilled _ _, rfl, rfl⟩
  (PgA w.heap.size (w.heap.size + 1) (w.heap.size + 1 + 1) (fun x => #[.string s, undef, .pointer (some ⟨w.heap.size, 0, none⟩), .pointer (some ⟨w.heap.size + 1, 0, none⟩), .pointer (some ⟨w.heap.size + 1 + 1, 0, none⟩), .string x.1, undef, undef, .string s, .func (.func 44) #[] #[.pointer (some ⟨w.heap.size + 1 + 1 + 1, 0, none⟩)], .string x.1, undef, undef, undef, undef, undef, undef, undef, undef, undef, undef, undef, undef, undef, undef, undef, undef, undef, undef, undef, undef, undef, undef, undef, undef, undef, undef, undef, undef, undef, undef, undef])) (pga_foot _ _ _ _) ?assign ?body ?done ?stop
 case assign =>
  intro l pre x Fp X KX hI hFp hFr hK
  dsimp only
  gi_wp2
  exact hK _ _ _ (Fr.refl _ _) (fun k hk => ⟨Or.inl hk, (hFp k hk).2⟩) ⟨hI, rfl⟩
 case body =>
  rintro l pre x _ Fp X ⟨⟨v, acc, bs, rfl, hR2, hR3, hP, hkids, hread, hlen⟩, rfl⟩ hFp hFr hlt
  have hq1 : 1 ≤ n - 1 - 1 := by omega
  have hmxX : X.cell? ⟨1, 0, none⟩ = some (.int .i64 mx) := by
   have hb := hFr.block 1 (by omega) (fun hk => by simp only [List.cons_append, List.nil_append, List.mem_cons, List.not_mem_nil, or_false] at hk; omega)
   have hb0 := HX.out.2.1.block 1 hm1
   exact (World.cell?_of_block (w := w) (a := ⟨1, 0, none⟩) (hb.trans hb0)).trans HMX.out
  have HTS := zH (show Calls Tryz.prog 24 #[.string x.1, .string ⟨#[10]⟩] X fun e w' => e = .returned (.string (trimL x)) ∧ w' = X from Tryz.strings_TrimSuffix x.1 ⟨#[10]⟩ X (Nat.le_trans x.2 (by decide)))
  have HOL := zH (own_line (trimL x) X mx hmxX (trimL_size x))
  have HFAIL := zH (fun (e : readRu (trimL x) = none) => read_fail hread e)
  have HMORE := zH (fun (r : Ru) (e : readRu (trimL x) = some r) => read_more hread e)
  have HR2 := zH hR2
  have HR3 := zH hR3
  have HP := zH hP
  have HKD := zH hkids
  have HLEN := zH hlen
  have HLT := zH hlt
  obtain ⟨A, c, rfl, hqc, hcm⟩ := hkids.form
  obtain ⟨q, hq⟩ : ∃ q, q = acc.length := ⟨_, rfl⟩
  have HQ := zH hq
  rw [← hq] at HP HKD hqc ⊢
  clear hR2 hR3 hP hkids hread hlen hmxX hq hlt hFp hFr
  generalize trimL x = y at *
  gi_wp2_with (gi_at_call 24; refine (at_wide HFW.out HTS.out l).mono ?_; rintro r w2 ⟨rfl, rfl⟩)
  gi_at_call 23
  refine (at_wide HFW.out HOL.out l).mono ?_
  rintro e w3 ⟨v3, r, b2, rfl, hri, hm2, hb2, hrr⟩
  obtain ⟨x1, x2, u, d1, d2, d3, rfl, -, -, -, hd1, hd2, hd3⟩ := id hri
  obtain ⟨X1, k1, rfl⟩ := hd1.slice
  obtain ⟨X2, k2, rfl⟩ := hd2.slice
  obtain ⟨X3, z3, k3, rfl⟩ := his_slice0 hd3
  clear hd1 hd2 hd3
  have hR2 := box_on HR2.out (hb2.block _ HR2.out.lt)
  have hR3 := box_on HR3.out (hb2.block _ HR3.out.lt)
  have hP := box_on HP.out (hb2.block _ HP.out.lt)
  have HB2 := zH hR2
  have HB3 := zH hR3
  have HBP := zH hP
  have r2c := hR2.cell
  have r2f := hR2.frozen
  have r2l := hR2.lt
  have r3c := hR3.cell
  have r3f := hR3.frozen
  have r3l := hR3.lt
  have pc := hP.cell
  have pf := hP.frozen
  have pl := hP.lt
  clear hR2 hR3 hP
  rcases hrd : readRu y with _ | r2
  · have HF2 := zH (HFAIL.out hrd)
    rw [← HQ.out] at HF2
    have HLW := zH hb2
    clear hrr hrd hri hm2 hb2
    gi_wp2_with fail
    gi_region
    all_goals
     gi_wp2
     first
     | (exact pg_stopA _ HLW.out HB2.out HB3.out HNE.out HF2.out (List.mem_cons_self ..) (List.mem_cons_of_mem _ (List.mem_cons_self ..)))
     | (exact pg_stopB _ HLW.out HB2.out HB3.out HNE.out HF2.out (List.mem_cons_self ..) (List.mem_cons_of_mem _ (List.mem_cons_self ..)))
  obtain rfl : r = r2 := hrr r2 hrd
  have HM2 := zH (HMORE.out r hrd)
  obtain ⟨vs, hvs, hcs⟩ := ((HKD.out.keep (Fr.of_below (S := []) hb2) (by simp)).keep (Fr.alloc (S := []) w3 (.cells #[.string r.name, .string r.con, .slice X1 r.vars.length k1, .slice X2 r.params.length k2, .int .i64 r.body.kind, .string r.body.name, .slice X3 z3 k3] 36)) (by simp)).row
  have HPU := zH (fun (w7 : World) (v7 : Value) => pg_push (pre := pre) (x := x) (w7 := w7) (v7 := v7) (bx := .cells #[.string r.name, .string r.con, .slice X1 r.vars.length k1, .slice X2 r.params.length k2, .int .i64 r.body.kind, .string r.body.name, .slice X3 z3 k3] 36) (o := .cells #[.string r.name, .string r.con, .slice X1 r.vars.length k1, .slice X2 r.params.length k2, .int .i64 r.body.kind, .string r.body.name, .slice X3 z3 k3] 36) HQ.out hb2 HR2.out HR3.out HP.out (And.intro (by omega) (by omega)) HKD.out hri hm2 ⟨hvs, hcs⟩)
  have HVS := zH (show ((w3.alloc (.cells #[.string r.name, .string r.con, .slice X1 r.vars.length k1, .slice X2 r.params.length k2, .int .i64 r.body.kind, .string r.body.name, .slice X3 z3 k3] 36)).alloc (.cells #[.string r.name, .string r.con, .slice X1 r.vars.length k1, .slice X2 r.params.length k2, .int .i64 r.body.kind, .string r.body.name, .slice X3 z3 k3] 36)).ownsRow (w.heap.size + 1 + 1 + 1) 36 7 (.slice A q c) q vs from by
   have h1 := hvs.alloc (.cells #[.string r.name, .string r.con, .slice X1 r.vars.length k1, .slice X2 r.params.length k2, .int .i64 r.body.kind, .string r.body.name, .slice X3 z3 k3] 36)
   rw [← HQ.out] at h1
   exact h1)
  have HNW := zH (show ∀ j u, ([.string r.name, .string r.con, .slice X1 r.vars.length k1, .slice X2 r.params.length k2, .int .i64 r.body.kind, .string r.body.name, .slice X3 z3 k3] : List Value)[j]? = some u → ((w3.alloc (.cells #[.string r.name, .string r.con, .slice X1 r.vars.length k1, .slice X2 r.params.length k2, .int .i64 r.body.kind, .string r.body.name, .slice X3 z3 k3] 36)).alloc (.cells #[.string r.name, .string r.con, .slice X1 r.vars.length k1, .slice X2 r.params.length k2, .int .i64 r.body.kind, .string r.body.name, .slice X3 z3 k3] 36)).cell? ((⟨w3.heap.size + 1, 0, none⟩ : Addr).add j) = some u from by
   have h1 := World.news_of_block (w := (w3.alloc (.cells #[.string r.name, .string r.con, .slice X1 r.vars.length k1, .slice X2 r.params.length k2, .int .i64 r.body.kind, .string r.body.name, .slice X3 z3 k3] 36)).alloc (.cells #[.string r.name, .string r.con, .slice X1 r.vars.length k1, .slice X2 r.params.length k2, .int .i64 r.body.kind, .string r.body.name, .slice X3 z3 k3] 36)) (heap_alloc_new (w3.alloc (.cells #[.string r.name, .string r.con, .slice X1 r.vars.length k1, .slice X2 r.params.length k2, .int .i64 r.body.kind, .string r.body.name, .slice X3 z3 k3] 36)) (.cells #[.string r.name, .string r.con, .slice X1 r.vars.length k1, .slice X2 r.params.length k2, .int .i64 r.body.kind, .string r.body.name, .slice X3 z3 k3] 36))
   simp only [World.size_alloc] at h1
   exact h1)
  have H1C := zH (show ∀ u ∈ ([.string r.name, .string r.con, .slice X1 r.vars.length k1, .slice X2 r.params.length k2, .int .i64 r.body.kind, .string r.body.name, .slice X3 z3 k3] : List Value), u.oneCell' = true from fun u hu => by
   simp at hu
   rcases hu with rfl | rfl | rfl | rfl | rfl | rfl | rfl <;> rfl)
  have hql : q ≤ 1048577 := by
   have e1 := HLT.out
   have e2 := HLEN.out
   have e3 := HQ.out
   have e4 := lineL_tot s
   have e5 := len_tot (lineL s)
   have e6 := HS.out
   omega
  have C1 := zH (show q + 1 ≤ maxLen by unfold maxLen; omega)
  have C2 := zH (show (q + 1) * 128 ≤ 140737488355328 by omega)
  have C4 := zH (show w.heap.size + 1 + 1 + 1 ≤ ((w3.alloc (.cells #[.string r.name, .string r.con, .slice X1 r.vars.length k1, .slice X2 r.params.length k2, .int .i64 r.body.kind, .string r.body.name, .slice X3 z3 k3] 36)).alloc (.cells #[.string r.name, .string r.con, .slice X1 r.vars.length k1, .slice X2 r.params.length k2, .int .i64 r.body.kind, .string r.body.name, .slice X3 z3 k3] 36)).heap.size by simp; omega)
  clear hrr hrd hri hm2 hb2 hvs hcs hql
  generalize r.vars.length = zz1 at *
  generalize r.params.length = zz2 at *
  gi_wp2_with (gi_at_builtin; (refine wpListIn_append_own_at _ rfl (.tmp 26) (.tmp 28) 22 rfl (w.heap.size + 1 + 1 + 1) 36 i0 (.agg #[.string ⟨#[]⟩, .string ⟨#[]⟩, .slice none 0 0, .slice none 0 0, .int .i64 0, .string ⟨#[]⟩, .slice none 0 0]) 7 128 Tryz.underlying22 HI.out.1 HI.out.2.1 HI.out.2.2.1 HI.out.2.2.2 rfl (by decide) (.slice A q c) q vs rfl HVS.out ⟨w3.heap.size + 1, 0, none⟩ 1 1 [.string r.name, .string r.con, .slice X1 zz1 k1, .slice X2 zz2 k2, .int .i64 r.body.kind, .string r.body.name, .slice X3 z3 k3] rfl rfl HNW.out H1C.out C1.out C2.out C4.out ?_); intro v7 w7 ho7 hg7 _ hat7; obtain ⟨g, cap, rfl, hp7, hfin⟩ := HPU.out w7 v7 ho7 hg7 hat7 HM2.out HLEN.out; have HFIN := zH hfin; have p7c := hp7.cell; have p7f := hp7.frozen; have p7l := hp7.lt; clear ho7 hg7 hat7 hp7 hfin)
  exact HFIN.out
 case done =>
  rintro D xs Fp X hD hDF hFl hSx ⟨v, acc, bs, rfl, hR2, hR3, hP, hkids, hread, hlen⟩ hFr hK
  have hall : readOn (lineL s) [] = .inr acc := by rw [← hSx]; exact hread
  have hroom := read_all hall HS.out
  obtain ⟨A, c, rfl, hqc, hcm⟩ := hkids.form
  obtain ⟨bs2, hrs, hmn, hin⟩ := hkids.isIn
  have hpr : PrIs X (.agg #[.slice A acc.length c]) acc bs2 := ⟨_, rfl, hrs⟩
  have HFT := zH (wide_in (n := n - 1) HFW.out (own_prtext acc _ bs2 X hpr (mine_thawed hmn) hroom.1))
  have hlow : Below w.heap.size w X := HX.out.2.1.trans (hFr.below (by simp; omega) (by omega))
  have hDb : D ∉ bs2 := fun hx => hDF (by
   have h9 := hin D hx
   simp only [List.mem_cons, List.mem_append] at h9 ⊢
   exact Or.inr (Or.inr (Or.inr h9)))
  have hDl : D < X.heap.size := (Array.getElem?_eq_some_iff.1 hK).1
  have HDD := zH (show w.heap.size + 1 < D by omega)
  have HALL := zH hall
  have HROOM := zH hroom
  have HPR := zH hpr
  have HMN := zH hmn
  have HDB := zH hDb
  have HLOW := zH hlow
  have HK := zH hK
  have HDL := zH hDl
  have HR2 := zH hR2
  have HR3 := zH hR3
  have HP := zH hP
  have hbn : ∀ y ∈ bs2, w.heap.size + 1 + 1 < y := fun y hy => by have := (hmn.range y hy).1; omega
  have HBN := zH hbn
  obtain ⟨q, hq⟩ : ∃ q, q = acc.length := ⟨_, rfl⟩
  have HQ := zH hq
  rw [← hq] at HFT HPR HP
  have pc := HP.out.cell
  have pl := HP.out.lt
  clear hrs hmn hin hpr hlow hDb hDl hall hroom hread hlen hkids hP hR2 hR3 hK hFr hSx hFl hDF hq hbn hqc
  generalize hrt : prStr acc = rt at *
  have HRT := zH hrt
  clear hrt
  gi_wp2_with fail
  gi_at_call 25
  refine HFT.out.mono ?_
  rintro r w2 ⟨rfl, hb2⟩
  have hr2 := box_on HR2.out (hb2.block _ HR2.out.lt)
  have hr3 := box_on HR3.out (hb2.block _ HR3.out.lt)
  have hp2 := box_on HP.out (hb2.block _ HP.out.lt)
  have BR2 := zH hr2
  have BR3 := zH hr3
  have HL2 := zH (HLOW.out.trans (hb2.mono HLOW.out.size))
  have HK2 := zH ((hb2.block _ HDL.out).trans HK.out)
  have HP2 := zH (HPR.out.below hb2)
  have HM2 := zH (HMN.out.keeps (keeps_below hb2 bs2))
  have r2c := hr2.cell
  have r2f := hr2.frozen
  have r2l := hr2.lt
  have r3c := hr3.cell
  have r3f := hr3.frozen
  have r3l := hr3.lt
  have p2c := hp2.cell
  have p2f := hp2.frozen
  have p2l := hp2.lt
  clear hb2 hr2 hr3 hp2
  by_cases ht : rt = s
  · have heq9 : (rt.toList == s.toList) = true := by rw [ht]; simp
    have HE := zH (read_good HALL.out (by rw [HRT.out]; exact ht))
    clear ht
    gi_wp2
    obtain ⟨Wf, hWf⟩ : ∃ W, W = (w2.setCell ⟨w.heap.size, 0, none⟩ (.slice A q c)).setCell ⟨w.heap.size + 1, 0, none⟩ .nilIface := ⟨_, rfl⟩
    rw [← hWf]
    have hfr : Fr [w.heap.size, w.heap.size + 1] w2 Wf := by rw [hWf]; exact (Fr.set (S := [w.heap.size, w.heap.size + 1]) w2 ⟨w.heap.size, 0, none⟩ _ (by simp)).trans (Fr.set (S := [w.heap.size, w.heap.size + 1]) _ ⟨w.heap.size + 1, 0, none⟩ _ (by simp)) (fun y hy => Or.inl hy)
    have hb2 : Boxed Wf w.heap.size 24 (.slice A q c) := by rw [hWf]; exact (BR2.out.set _).other HNE.out _
    have hb3 : Boxed Wf (w.heap.size + 1) 41 .nilIface := by rw [hWf]; exact (BR3.out.other (Ne.symm HNE.out) _).set _
    have hkk : Keeps w2 Wf bs2 := fr_keeps hfr (fun y hy => by have := HBN.out y hy; simp; omega)
    exact pt_end (v := .slice A q c) (bs := bs2) rfl rfl rfl hb2 hb3 ((hfr.block D (Array.getElem?_eq_some_iff.1 HK2.out).1 (by have := HDD.out; simp; omega)).trans HK2.out) HDD.out (HL2.out.trans (hfr.below (by simp) HL2.out.size)) (by rw [HE.out]; exact HP2.out.keeps hkk) ((HM2.out.keeps hkk).mono (by omega)) HDB.out (Or.inl ⟨by rw [HE.out], rfl⟩)
  have heq9 : (rt.toList == s.toList) = false := toList_ne ht
  have HE := zH (read_bad HALL.out (by rw [HRT.out]; exact ht))
  have HLL := zH (show q = (lineL s).length by rw [HQ.out]; exact HROOM.out.2)
  clear ht
  gi_wp2_with fail
  gi_region
  all_goals
   gi_wp2
   first
   | exact pt_badA BR2.out BR3.out HNE.out HK2.out HDD.out HL2.out (by rw [HE.out]) (by rw [HE.out, HLL.out]) rfl rfl rfl
   | exact pt_badB BR2.out BR3.out HNE.out HK2.out HDD.out HL2.out (by rw [HE.out]) (by rw [HE.out, HLL.out]) rfl rfl rfl
 case stop =>
  rintro D c pre Fp X hD hDF hFl hSp ⟨rfl, k, rfl, hR2, hR3, hread⟩ hFr hK
  have HE := zH (show readPr s = ([], (k : Int)) from by
   obtain ⟨t, ht⟩ := hSp
   exact read_stop (by rw [← ht, readOn_app, hread]))
  have HLW := zH (show Below w.heap.size w X from HX.out.2.1.trans (hFr.below (by simp; omega) (by omega)))
  have HR2 := zH hR2
  have HR3 := zH hR3
  have HK := zH hK
  have HDD := zH (show w.heap.size + 1 < D by omega)
  clear hR2 hR3 hFr hK hSp hread
  gi_wp2
  exact pt_end (v := .slice none 0 0) (bs := []) rfl rfl rfl HR2.out HR3.out HK.out HDD.out HLW.out (by rw [HE.out]; exact pr_nil X) (Mine.nil _ _) (by simp) (Or.inr ⟨k, by rw [HE.out], rfl⟩)
theorem own_prog (s : ByteArray) (w : World) (mx : Int) (hmx : w.cell? ⟨1, 0, none⟩ = some (.int .i64 mx)) (hs : s.size ≤ 1048576) : Calls Tryz.prog 12 #[.string s] w (PtPost s w) :=
 callsIn_wide.1 (prog_in Fence.wide 9 rfl rfl (fun _ => trivial) (Nat.le_refl _) s w mx hmx hs)
end Go.Proofs.YthljhiklpopmgaaGreatDoor
