/- A part of the proof of the seat's statement: OwnMet. Condition: as each says. -/
import Derived.Test.YtiaknfnhmoinpaaGreatOwnRuFlat
import Derived.Test.YtiaknfnhmoinpaaGreatMetKit
import Derived.Test.YtiaknfnhmoinpaaGreatRuHead
set_option maxHeartbeats 8000000
namespace Go.Proofs.YtiaknfnhmoinpaaGreat
open Go Go.RowKit Go.Shelf Go.Sort
attribute [local go_sem] Oper.semAt_some
theorem asK_no (k : Int) (hk : ¬ k = 3) (v : Value) (w : World) : (Instr.typeAssert (.iface (formTy k) v) 91 97 true).run Tryz.prog w = .ok (.tuple #[.agg #[.string ⟨#[]⟩, .slice none 0 0], .bool false]) w := by
 unfold formTy
 by_cases h1 : k = 1
 · rw [if_pos h1]; exact asVK v w
 by_cases h2 : k = 2
 · rw [if_neg h1, if_pos h2]; exact asCK v w
 by_cases h4 : k = 4
 · rw [if_neg h1, if_neg h2, if_neg hk, if_pos h4]; exact asSK v w
 rw [if_neg h1, if_neg h2, if_neg hk, if_neg h4]; exact asOK v w
theorem MapIs.look_eq {P : Program} {w : World} {b : Nat} {L : List (Value × Value)} {k e t : TypeId} {K : Value → Prop} (h : MapIs w b L) (hK : KeyT P k w K) (ht : P.underlying t = some (.map k e)) {z : Value} (hz : (zeroValue e).run P w = .ok z w) {key : Value} (hkey : K key) (hL : ∀ x ∈ L, K x.1) {v : Value} {bb : Bool} (hit : Hits L key z v bb) :
 (Instr.lookup t (.map (some b)) key true).run P w = .ok (.tuple #[v, .bool bb]) w := by
 obtain ⟨es, clock, -, -, hn⟩ := id h
 obtain ⟨v2, b2, hr, hit2⟩ := h.look hK ht hz hkey hL
 obtain ⟨rfl, rfl⟩ := hit2.uniq hn hit
 have := hr true
 simpa using this
theorem first_find : ∀ (F : List Cn) (s : ByteArray) (p : Cn), FirstAt ckey F (.string s) p → F.find? (isC s) = some p := by
 intro F
 induction F with
 | nil => intro s p h; have := h.mem.1; cases this
 | cons x t ih =>
  intro s p h
  rw [firstAt_cons] at h
  rcases h with ⟨h1, rfl⟩ | ⟨h1, h2⟩
  · simp [ckey] at h1
    simp [isC, h1]
  have hx : ¬ x.1 = s := fun e => h1 (by simp [ckey, e])
  rw [List.find?_cons_of_neg (by simp [isC, hx])]
  exact ih s p h2
theorem none_find (F : List Cn) (s : ByteArray) (h : ∀ p ∈ F, ckey p ≠ .string s) : F.find? (isC s) = none := by
 rw [List.find?_eq_none]
 intro x hx
 have := h x hx
 simp [ckey] at this
 simp [isC, this]
section
variable {wo : World}
def AmI (l : List Ru) (rb B mp : Nat) (pre : List (It wo)) (Fp : List Nat) (W : World) : Prop :=
 Fp = [rb, B, mp] ∧ (rb ≠ B ∧ rb ≠ mp ∧ B ≠ mp) ∧ Boxed W rb 4 (.bool false) ∧ Boxed W B 53 (.map (some mp)) ∧ okL l [] (pre.map It.ex) = true ∧ ∃ M, MapIs W mp M ∧ (∀ x ∈ M, StrK x.1) ∧ Firsts ckey cval (ownOf l (pre.map It.ex)) M
def AmX (l : List Ru) (rb : Nat) (c : Code) (pre : List (It wo)) (Fp : List Nat) (W : World) : Prop := c = .ret ∧ Fp = [rb] ∧ Boxed W rb 4 (.bool false) ∧ okL l [] (pre.map It.ex) = false
theorem ami_foot (l : List Ru) (rb B mp : Nat) (pre : List (It wo)) : Foot (AmI l rb B mp pre) := by
 rintro Fp X Y ⟨rfl, hne, h1, h2, h3, M, h4, h5⟩ _ hk
 exact ⟨rfl, hne, box_on h1 (hk rb (by simp)), box_on h2 (hk B (by simp)), h3, M, h4.on (hk mp (by simp)), h5⟩
theorem amx_foot (l : List Ru) (rb : Nat) (c : Code) (pre : List (It wo)) : Foot (AmX l rb c pre) := by
 rintro Fp X Y ⟨h0, rfl, h1, h2⟩ _ hk
 exact ⟨h0, rfl, box_on h1 (hk rb (by simp)), h2⟩
theorem am_keep {l : List Ru} {rb B mp nb : Nat} {pre : List (It wo)} {x : It wo} {X Y : World} (h : AmI l rb B mp pre [rb, B, mp] X) (hb : Below X.heap.size X Y) (hc : chk l (pre.map It.ex) x.ex = true) (ho : ownOf l (pre.map It.ex ++ [x.ex]) = ownOf l (pre.map It.ex)) :
 ∃ Fp2, Fr (nb :: [rb, B, mp]) X Y ∧ (∀ k ∈ Fp2, (k ∈ nb :: [rb, B, mp] ∨ X.heap.size ≤ k) ∧ k < Y.heap.size) ∧ AmI l rb B mp (pre ++ [x]) Fp2 Y := by
 obtain ⟨-, hne, h1, h2, h3, M, h4, h5, h6⟩ := h
 refine ⟨[rb, B, mp], Fr.of_below hb, fun k hk => ⟨Or.inl (List.mem_cons_of_mem _ hk), ?_⟩, rfl, hne, box_on h1 (hb.block _ h1.lt), box_on h2 (hb.block _ h2.lt), ?_, M, h4.on (hb.block _ h4.lt), h5, ?_⟩
 · have hs := hb.size
   have l1 := h1.lt
   have l2 := h2.lt
   have l4 := h4.lt
   simp at hk
   rcases hk with rfl | rfl | rfl <;> omega
 · rw [List.map_append, List.map_cons, List.map_nil, okL_snoc, h3, hc]; rfl
 rw [List.map_append, List.map_cons, List.map_nil, ho]; exact h6
theorem am_same {l : List Ru} {rb B mp nb : Nat} {pre : List (It wo)} {x : It wo} {X Y : World} {c : Cn} {z v : Value} {M : List (Value × Value)} (h1 : Boxed X rb 4 (.bool false)) (h2 : Boxed X B 53 (.map (some mp))) (hne : rb ≠ B ∧ rb ≠ mp ∧ B ≠ mp) (h3 : okL l [] (pre.map It.ex) = true) (h4 : MapIs X mp M) (h5 : ∀ x ∈ M, StrK x.1) (h6 : Firsts ckey cval (ownOf l (pre.map It.ex)) M) (hb : Below X.heap.size X Y) (hc : chk l (pre.map It.ex) x.ex = true) (ho : ownOf l (pre.map It.ex ++ [x.ex]) = ownOf l (pre.map It.ex) ++ [c]) (hit : Hits M (ckey c) z v true) :
 ∃ Fp2, Fr (nb :: [rb, B, mp]) X Y ∧ (∀ k ∈ Fp2, (k ∈ nb :: [rb, B, mp] ∨ X.heap.size ≤ k) ∧ k < Y.heap.size) ∧ AmI l rb B mp (pre ++ [x]) Fp2 Y := by
 refine ⟨[rb, B, mp], Fr.of_below hb, fun k hk => ⟨Or.inl (List.mem_cons_of_mem _ hk), ?_⟩, rfl, hne, box_on h1 (hb.block _ h1.lt), box_on h2 (hb.block _ h2.lt), ?_, M, h4.on (hb.block _ h4.lt), h5, ?_⟩
 · have hs := hb.size
   have l1 := h1.lt
   have l2 := h2.lt
   have l4 := h4.lt
   simp at hk
   rcases hk with rfl | rfl | rfl <;> omega
 · rw [List.map_append, List.map_cons, List.map_nil, okL_snoc, h3, hc]; rfl
 rw [List.map_append, List.map_cons, List.map_nil, ho]
 refine h6.same ?_
 rcases hit with ⟨h, -⟩ | ⟨-, -, h⟩
 · exact ⟨_, h, rfl⟩
 cases h
theorem am_put {l : List Ru} {rb B mp nb : Nat} {pre : List (It wo)} {x : It wo} {X Y W5 : World} {c : Cn} {z v : Value} {M L2 : List (Value × Value)} (h1 : Boxed X rb 4 (.bool false)) (h2 : Boxed X B 53 (.map (some mp))) (hne : rb ≠ B ∧ rb ≠ mp ∧ B ≠ mp) (h3 : okL l [] (pre.map It.ex) = true) (h4 : MapIs X mp M) (h5 : ∀ x ∈ M, StrK x.1) (h6 : Firsts ckey cval (ownOf l (pre.map It.ex)) M) (hb : Below X.heap.size X Y) (hc : chk l (pre.map It.ex) x.ex = true) (ho : ownOf l (pre.map It.ex ++ [x.ex]) = ownOf l (pre.map It.ex) ++ [c]) (hit : Hits M (ckey c) z v false)
 (hm5 : MapIs W5 mp L2) (hp5 : Put M (ckey c) (cval c) L2) (hg5 : Y.grownBy W5 (some mp)) :
 ∃ Fp2, Fr (nb :: [rb, B, mp]) X W5 ∧ (∀ k ∈ Fp2, (k ∈ nb :: [rb, B, mp] ∨ X.heap.size ≤ k) ∧ k < W5.heap.size) ∧ AmI l rb B mp (pre ++ [x]) Fp2 W5 := by
 have hs := hb.size
 have l1 := h1.lt
 have l2 := h2.lt
 obtain ⟨es, clock, -, -, hn⟩ := id h4
 have hf : Fr (nb :: [rb, B, mp]) X W5 := (Fr.of_below hb).trans (Fr.grown (S := nb :: [rb, B, mp]) hg5 (fun k e => by cases e; simp)) (fun k hk => Or.inl hk)
 refine ⟨[rb, B, mp], hf, fun k hk => ⟨Or.inl (List.mem_cons_of_mem _ hk), ?_⟩, rfl, hne, box_on h1 ((hg5.block rb (by omega) (fun e => hne.2.1 (Option.some.inj e))).trans (hb.block _ l1)), box_on h2 ((hg5.block B (by omega) (fun e => hne.2.2 (Option.some.inj e))).trans (hb.block _ l2)), ?_, L2, hm5, hp5.nodup_keys h5 ⟨_, rfl⟩, ?_⟩
 · have hs5 := hf.size
   have l4 := h4.lt
   simp at hk
   rcases hk with rfl | rfl | rfl <;> omega
 · rw [List.map_append, List.map_cons, List.map_nil, okL_snoc, h3, hc]; rfl
 rw [List.map_append, List.map_cons, List.map_nil, ho]
 refine h6.snoc hn hp5 ?_
 rcases hit with ⟨-, h⟩ | ⟨h, -, -⟩
 · cases h
 exact h
theorem am_stop2 {l : List Ru} {rb B mp nb : Nat} {pre : List (It wo)} {x : It wo} {X Y : World} {o : Obj} (h1 : Boxed X rb 4 (.bool false)) (hb : Below X.heap.size X Y) (hc : chk l (pre.map It.ex) x.ex = false) :
 ∃ Fp2, Fr (nb :: [rb, B, mp]) X ((Y.setCell ⟨rb, 0, none⟩ (.bool false)).alloc o) ∧ (∀ k ∈ Fp2, (k ∈ nb :: [rb, B, mp] ∨ X.heap.size ≤ k) ∧ k < ((Y.setCell ⟨rb, 0, none⟩ (.bool false)).alloc o).heap.size) ∧ AmX l rb .ret (pre ++ [x]) Fp2 ((Y.setCell ⟨rb, 0, none⟩ (.bool false)).alloc o) := by
 have h2 : Boxed Y rb 4 (.bool false) := box_on h1 (hb.block _ h1.lt)
 refine ⟨[rb], ((Fr.of_below hb).trans (Fr.set (S := nb :: [rb, B, mp]) _ _ _ (by simp)) (fun k hk => Or.inl hk)).trans (Fr.alloc (S := nb :: [rb, B, mp]) _ _) (fun k hk => Or.inl hk), fun k hk => ?_, rfl, rfl, Boxed.alloc (h2.set _) o, ?_⟩
 · simp at hk; subst hk
   exact ⟨Or.inl (by simp), by have := h2.lt; simp [World.setCell]; omega⟩
 rw [List.map_append, List.map_cons, List.map_nil, okL_snoc, hc, Bool.and_false]
theorem am_stop {l : List Ru} {rb B mp nb : Nat} {pre : List (It wo)} {x : It wo} {X Y : World} (h1 : Boxed X rb 4 (.bool false)) (hb : Below X.heap.size X Y) (hc : chk l (pre.map It.ex) x.ex = false) :
 ∃ Fp2, Fr (nb :: [rb, B, mp]) X (Y.setCell ⟨rb, 0, none⟩ (.bool false)) ∧ (∀ k ∈ Fp2, (k ∈ nb :: [rb, B, mp] ∨ X.heap.size ≤ k) ∧ k < (Y.setCell ⟨rb, 0, none⟩ (.bool false)).heap.size) ∧ AmX l rb .ret (pre ++ [x]) Fp2 (Y.setCell ⟨rb, 0, none⟩ (.bool false)) := by
 have h2 : Boxed Y rb 4 (.bool false) := box_on h1 (hb.block _ h1.lt)
 refine ⟨[rb], (Fr.of_below hb).trans (Fr.set (S := nb :: [rb, B, mp]) _ _ _ (by simp)) (fun k hk => Or.inl hk), fun k hk => ?_, rfl, rfl, h2.set _, ?_⟩
 · simp at hk; subst hk
   exact ⟨Or.inl (by simp), by have := h2.lt; simp [World.setCell]; omega⟩
 rw [List.map_append, List.map_cons, List.map_nil, okL_snoc, hc, Bool.and_false]
end
theorem res_bool4 {fn : Func} (h : fn.results = #[.cell 4 4]) (tmps : Array Value) (W : World) (rb : Nat) (b : Bool) (ht : tmps.getD 4 undef = .pointer (some ⟨rb, 0, none⟩)) (hc : W.cell? ⟨rb, 0, none⟩ = some (.bool b)) : (results fn tmps).run Tryz.prog W = .ok (.bool b) W := by
 rw [Array.getD_eq_getD_getElem?] at ht
 simp [results, h, ht, go_sem, hc]
theorem bool4_end {F : Fence} {n : Nat} {fn : Func} {tmps : Array Value} {b : Bool} {D rb : Nat} {w X : World} (h : fn.results = #[.cell 4 4]) (ht : tmps.getD 4 undef = .pointer (some ⟨rb, 0, none⟩)) (hR : Boxed X rb 4 (.bool b)) (hK : X.heap[D]? = some (.deferred (some []))) (hne : D ≠ rb) (hDw : w.heap.size ≤ D) (hlow : Below w.heap.size w X) :
 LeavesInM F n Tryz.prog fn tmps (RetPost (.bool b) w) [{ target := .collected D, args := #[] }] .returning X := by
 refine ⟨by simp, .inl ⟨D, _, rfl, run_takeDeferred hK, ?_⟩⟩
 refine ⟨.bool b, res_bool4 h tmps _ rb b ht ?_, rfl, hlow.trans ((Fr.put (S := [D]) X _ _ (by simp)).below (by simpa using hDw) hlow.size)⟩
 exact (box_on hR (World.putObj_heap_other (Ne.symm hne))).cell
theorem met_start (w : World) (d1 d2 : Value) (k : Int) (s : ByteArray) (u : Value) (W1 : World) (h : W1 = ((((w.alloc (.cells #[d1, d2] 55)).alloc (.cells #[.int .i64 k, .string s, u] 32)).alloc (.cells #[.bool false] 4)).alloc (.map #[] 0)).alloc (.cells #[.map (some (w.heap.size + 3))] 53)) :
 W1.heap.size = w.heap.size + 5 ∧ Below w.heap.size w W1 ∧ W1.heap[w.heap.size]? = some (.cells #[d1, d2] 55 (0, 0)) ∧ Boxed W1 (w.heap.size + 2) 4 (.bool false) ∧ MapIs W1 (w.heap.size + 3) [] ∧ Boxed W1 (w.heap.size + 4) 53 (.map (some (w.heap.size + 3))) := by
 obtain ⟨a1, h1⟩ : ∃ a1, a1 = w.alloc (.cells #[d1, d2] 55) := ⟨_, rfl⟩
 obtain ⟨a2, h2⟩ : ∃ a2, a2 = a1.alloc (.cells #[.int .i64 k, .string s, u] 32) := ⟨_, rfl⟩
 obtain ⟨a3, h3⟩ : ∃ a3, a3 = a2.alloc (.cells #[.bool false] 4) := ⟨_, rfl⟩
 obtain ⟨a4, h4⟩ : ∃ a4, a4 = a3.alloc (.map #[] 0) := ⟨_, rfl⟩
 rw [← h1, ← h2, ← h3, ← h4] at h
 have s1 : a1.heap.size = w.heap.size + 1 := by rw [h1]; simp
 have s2 : a2.heap.size = w.heap.size + 2 := by rw [h2]; simp [s1]
 have s3 : a3.heap.size = w.heap.size + 3 := by rw [h3]; simp [s2]
 have s4 : a4.heap.size = w.heap.size + 4 := by rw [h4]; simp [s3]
 have s5 : W1.heap.size = w.heap.size + 5 := by rw [h]; simp [s4]
 have b1 := World.alloc_heap_new w (.cells #[d1, d2] 55)
 rw [← h1] at b1
 have b3 := Boxed.new a2 4 (.bool false)
 rw [← h3, s2] at b3
 have b4 := MapIs.made a3
 rw [← h4, s3] at b4
 have b5 := Boxed.new a4 53 (.map (some (w.heap.size + 3)))
 rw [← h, s4] at b5
 have k2 : ∀ j, j < w.heap.size + 1 → a2.heap[j]? = a1.heap[j]? := fun j hj => by rw [h2]; exact Below.heap_alloc _ _ _ (by omega)
 have k3 : ∀ j, j < w.heap.size + 2 → a3.heap[j]? = a2.heap[j]? := fun j hj => by rw [h3]; exact Below.heap_alloc _ _ _ (by omega)
 have k4 : ∀ j, j < w.heap.size + 3 → a4.heap[j]? = a3.heap[j]? := fun j hj => by rw [h4]; exact Below.heap_alloc _ _ _ (by omega)
 have k5 : ∀ j, j < w.heap.size + 4 → W1.heap[j]? = a4.heap[j]? := fun j hj => by rw [h]; exact Below.heap_alloc _ _ _ (by omega)
 refine ⟨s5, ?_, (k5 _ (by omega)).trans ((k4 _ (by omega)).trans ((k3 _ (by omega)).trans ((k2 _ (by omega)).trans b1))), box_on b3 ((k5 _ (by omega)).trans (k4 _ (by omega))), b4.on (k5 _ (by omega)), b5⟩
 rw [h, h4, h3, h2, h1]
 exact (((((wB _ w).alloc (nR _) _).alloc (by simp <;> omega) _).alloc (by simp <;> omega) _).alloc (by simp <;> omega) _).alloc (by simp <;> omega) _
set_option maxRecDepth 100000 in
theorem met_in (F : Fence) (n : Nat) (hFw : F = Fence.wide) (hro : F.round = none) (hF : ∀ k, F.fn k) (hn : 9 ≤ n) (l : List Ru) (e : Ex) (v : Value) (bs : List Nat) (mb mb2 : Nat) (M1 M2 : List (Value × Value)) (wq : World) (xs : List (Rt wq)) (G : List Cn) (w : World) (hv : ExIs w v e bs) (hb : exSize e ≤ 1099511627776) (hp : ∀ r ∈ l, r.params.length ≤ 1099511627776)
 (hm1 : MapIs w mb M1) (hk1 : ∀ x ∈ M1, StrK x.1) (hx1 : xs.map Rt.pair = numd 0 l) (hf1 : Firsts rname Rt.val xs M1) (hm2 : MapIs w mb2 M2) (hk2 : ∀ x ∈ M2, StrK x.1) (hf2 : Firsts ckey cval G M2) (hG : ∀ q, G.find? q = (consAll l).find? q) :
 CallsIn F n Tryz.prog 33 #[.agg #[.map (some mb), .map (some mb2)], v] w (RetPost (.bool (fitE l e e)) w) := by
 obtain ⟨u, rfl, hs, hu⟩ := id hv
 obtain ⟨A, c, rfl, hc1, hc2, -⟩ := id hu
 have HV := zH hv
 have HN := zH (fit_ok l e)
 have h1 : 1 ≤ n := by omega
 have HFW := zH hFw
 have HM1 := zH hm1
 have HK1 := zH hk1
 have HX1 := zH hx1
 have HF1 := zH hf1
 have HM2 := zH hm2
 have HK2 := zH hk2
 have HF2 := zH hf2
 have HG := zH hG
 have HP := zH hp
 have hmk := run_makeCon
 obtain ⟨m, hm⟩ : ∃ m, m = e.args.length := ⟨_, rfl⟩
 rw [← hm] at HV hc1 ⊢
 have HM := zH hm
 clear hv hu hFw hm hm1 hk1 hx1 hf1 hm2 hk2 hf2 hG hp
 refine callsIn_of_wp_marks Tryz.func33 rfl (hF _) ?_ hro
 simp only [Tryz.ntmps33, List.size_toArray, lC, List.length_nil, Nat.reduceAdd, Nat.reduceSub, Array.replicate_succ, Array.replicate_zero, List.push_toArray, List.append_toArray, List.nil_append, List.cons_append]
 gi_wp2_with (gi_at_call 56; refine (nodesOf_in F (n - 1) hF hro (by omega) _ _ _ _ _ _).mono ?_; rintro e w' ⟨rfl, rfl⟩)
 obtain ⟨W1, hW1⟩ : ∃ W1, W1 = ((((w.alloc (.cells #[.map (some mb), .map (some mb2)] 55)).alloc (.cells #[.int .i64 e.kind, .string e.name, .slice A m c] 32)).alloc (.cells #[.bool false] 4)).alloc (.map #[] 0)).alloc (.cells #[.map (some (w.heap.size + 3))] 53) := ⟨_, rfl⟩
 rw [← hW1]
 obtain ⟨W0, hW0⟩ : ∃ W0, W0 = nodesW W1 e.kind e.name (.slice A m c) := ⟨_, rfl⟩
 rw [← hW0]
 have HS := zH (met_start w _ _ _ _ _ W1 hW1)
 have HX := zH (show W0.heap.size = w.heap.size + 8 ∧ Below w.heap.size w W0 ∧ W0.heap[w.heap.size]? = some (.cells #[.map (some mb), .map (some mb2)] 55 (0, 0)) ∧ Boxed W0 (w.heap.size + 2) 4 (.bool false) ∧ MapIs W0 (w.heap.size + 3) [] ∧ Boxed W0 (w.heap.size + 4) 53 (.map (some (w.heap.size + 3))) by
  obtain ⟨s1, s2, s3, s4, s5, s6⟩ := HS.out
  have k : ∀ j, j < w.heap.size + 5 → W0.heap[j]? = W1.heap[j]? := fun j hj => by rw [hW0]; exact nodesW_old _ _ _ (by omega)
  exact ⟨by rw [hW0, nodesW_size, s1], by rw [hW0]; exact nodesW_below s2 s2.size _ _ _, (k _ (by omega)).trans s3, box_on s4 (k _ (by omega)), s5.on (k _ (by omega)), box_on s6 (k _ (by omega))⟩)
 have HW0 := zH hW0
 clear hW0 hW1 hmk
 have hx1 := HX.out.1
 refine wpIn_rangeFunc_frame hro h1 (gf := 98) (lb := nodesLb (w.heap.size + 5)) rfl (hF _) (enters_of Tryz.func98 (by kernel_rfl) rfl)
  (nodes_stops F (n - 1) HFW.out hro hF (by omega) w e (.slice A m c) bs HV.out hb (w.heap.size + 5) W1 W0 HS.out.1.symm HW0.out HS.out.2.1) (wB _ _) (by omega) (by simp <;> omega) (fun _ => rfl)
  (AmI l (w.heap.size + 2) (w.heap.size + 4) (w.heap.size + 3)) (AmX l (w.heap.size + 2)) (ami_foot _ _ _ _) (amx_foot _ _) [w.heap.size + 2, w.heap.size + 4, w.heap.size + 3] (fun k hk => by simp at hk; rcases hk with rfl | rfl | rfl <;> simp <;> omega) ⟨rfl, ⟨by omega, by omega, by omega⟩, HX.out.2.2.2.1, HX.out.2.2.2.2.2, rfl, [], HX.out.2.2.2.2.1, (fun x hx => by cases hx), firsts_nil⟩
  (Noded (AmI l (w.heap.size + 2) (w.heap.size + 4) (w.heap.size + 3)) (fun nb x => #[.agg #[.map (some mb), .map (some mb2)], .agg #[.int .i64 e.kind, .string e.name, .slice A m c], .pointer (some ⟨w.heap.size, 0, none⟩), .pointer (some ⟨w.heap.size + 1, 0, none⟩), .pointer (some ⟨w.heap.size + 2, 0, none⟩), .pointer (some ⟨w.heap.size + 4, 0, none⟩), .pointer (some ⟨nb, 0, none⟩), undef, undef, undef, undef, undef, undef, .map (some (w.heap.size + 3)), .agg #[.int .i64 e.kind, .string e.name, .slice A m c], nodesFun (w.heap.size + 5), x.val, undef, undef, undef, undef, undef, undef, undef, undef, undef, undef, undef, undef, undef, undef, undef, undef, undef, undef, undef, undef, undef, undef, undef, undef, undef, undef, undef, undef, undef, undef, undef, undef, undef, undef, undef, undef, undef, undef, undef, undef, undef, undef, undef, undef, undef, undef, undef, undef, undef, undef, undef, undef, undef, undef, undef, undef, undef, undef, undef, undef, undef, undef, undef])) (noded_foot (ami_foot _ _ _ _) _) ?assign ?body ?done ?stop
 case assign =>
  intro l2 pre x Fp X KX hI hFp hFr hK
  obtain ⟨A2, c2, hu2, -, -, -⟩ := x.slice
  have hv : x.val = .agg #[.int .i64 x.ex.kind, .string x.ex.name, .slice A2 x.ex.args.length c2] := by rw [← hu2]; rfl
  have HI := zH hI
  have HU2 := zH hu2
  have HV2 := zH hv
  have HFP := zH hFp
  have HKX := zH hK
  dsimp only
  rw [hv]
  clear hu2 hv hI hFp hFr hK
  gi_wp2
  obtain ⟨q1, q2, q3⟩ := noded_new (ami_foot l (w.heap.size + 2) (w.heap.size + 4) (w.heap.size + 3)) (tm := (fun nb x => #[.agg #[.map (some mb), .map (some mb2)], .agg #[.int .i64 e.kind, .string e.name, .slice A m c], .pointer (some ⟨w.heap.size, 0, none⟩), .pointer (some ⟨w.heap.size + 1, 0, none⟩), .pointer (some ⟨w.heap.size + 2, 0, none⟩), .pointer (some ⟨w.heap.size + 4, 0, none⟩), .pointer (some ⟨nb, 0, none⟩), undef, undef, undef, undef, undef, undef, .map (some (w.heap.size + 3)), .agg #[.int .i64 e.kind, .string e.name, .slice A m c], nodesFun (w.heap.size + 5), x.val, undef, undef, undef, undef, undef, undef, undef, undef, undef, undef, undef, undef, undef, undef, undef, undef, undef, undef, undef, undef, undef, undef, undef, undef, undef, undef, undef, undef, undef, undef, undef, undef, undef, undef, undef, undef, undef, undef, undef, undef, undef, undef, undef, undef, undef, undef, undef, undef, undef, undef, undef, undef, undef, undef, undef, undef, undef, undef, undef, undef, undef, undef, undef])) HI.out (fun k hk => (HFP.out k hk).2) HU2.out rfl
  refine HKX.out _ _ _ q1 q2 ?_
  exact (by simpa only [HV2.out] using q3)
 case body =>
  rintro l2 pre x _ Fp X ⟨nb, _, rfl, hnx, hnb, hAM, rfl⟩ hFp hFr hlen
  obtain ⟨rfl, hne, hR, hO, hok, M, hmo, hko, hfo⟩ := id hAM
  have hFw := HFW.out
  subst hFw
  have hn3 : 1 ≤ n - 1 - 1 := by omega
  obtain ⟨A4, c4, hu2, -, hac1, hac2⟩ := x.slice
  obtain ⟨q4, hq4⟩ : ∃ q4, q4 = x.ex.args.length := ⟨_, rfl⟩
  rw [← hq4] at hu2 hac1
  rw [hu2] at hnx
  have hq4m : (q4 : Int) ≤ 9223372036854775807 := by omega
  have hn0 : X.cell? ⟨nb, 0, none⟩ = some (.int .i64 x.ex.kind) := by simp [World.cell?, hnx]
  have hn1 : X.cell? ⟨nb, 1, none⟩ = some (.string x.ex.name) := by simp [World.cell?, hnx]
  have hn2 : X.cell? ⟨nb, 2, none⟩ = some (.slice A4 q4 c4) := by simp [World.cell?, hnx]
  have HLW := zH (show Below w.heap.size w X from HX.out.2.1.trans (hFr.below (by simp <;> omega) (by omega)))
  have hdb : X.heap[w.heap.size]? = some (.cells #[.map (some mb), .map (some mb2)] 55 (0, 0)) := (hFr.block w.heap.size (by omega) (by simp <;> omega)).trans HX.out.2.2.1
  have HBX := zH (fun (w2 : World) (hb2 : Below X.heap.size X w2) => show w2.cell? ⟨w.heap.size, 0, none⟩ = some (.map (some mb)) ∧ w2.cell? ⟨w.heap.size, 1, none⟩ = some (.map (some mb2)) ∧ w.heap.size < w2.heap.size ∧ w2.cell? ⟨w.heap.size + 2, 0, none⟩ = some (.bool false) ∧ w2.frozen? ⟨w.heap.size + 2, 0, none⟩ = false ∧ w.heap.size + 2 < w2.heap.size ∧ w2.cell? ⟨w.heap.size + 4, 0, none⟩ = some (.map (some (w.heap.size + 3))) ∧ w.heap.size + 4 < w2.heap.size from by
   have k1 : w2.heap[w.heap.size]? = _ := (hb2.block w.heap.size (Array.getElem?_eq_some_iff.1 hdb).1).trans hdb
   have k2 := box_on hR (hb2.block _ hR.lt)
   have k3 := box_on hO (hb2.block _ hO.lt)
   exact ⟨by simp [World.cell?, k1], by simp [World.cell?, k1], (Array.getElem?_eq_some_iff.1 k1).1, k2.cell, k2.frozen, k2.lt, k3.cell, k3.lt⟩)
  have HL1 := zH (fun (Y : World) (hY : Below X.heap.size X Y) => HM1.out.on ((HLW.out.trans (hY.mono HLW.out.size)).block _ HM1.out.lt))
  have HL2 := zH (fun (Y : World) (hY : Below X.heap.size X Y) => HM2.out.on ((HLW.out.trans (hY.mono HLW.out.size)).block _ HM2.out.lt))
  have HLO := zH (fun (Y : World) (hY : Below X.heap.size X Y) => hmo.on (hY.block _ hmo.lt))
  have HAM := zH hAM
  have HNE := zH hne
  have HR := zH hR
  have HO := zH hO
  have HOK := zH hok
  have HMO := zH hmo
  have HKO := zH hko
  have HFO := zH hfo
  have HQ4 := zH hq4
  clear hAM hne hR hO hok hmo hko hfo hdb hFr hFp hlen hnx hu2 hq4 hnb
  by_cases hk3 : x.ex.kind = 3
  · have aK := asKK
    have HT := zH (show formTy x.ex.kind = 97 by rw [hk3]; rfl)
    have HCH := zH (show chk l (pre.map It.ex) x.ex = decide ((x.ex.args.length : Int) = arityR l x.ex.name) by unfold chk; rw [if_pos hk3])
    have HOW := zH (show ownOf l (pre.map It.ex ++ [x.ex]) = ownOf l (pre.map It.ex) by unfold ownOf; rw [List.filterMap_append]; simp [conOf, hk3])
    clear hk3
    obtain ⟨es, clock, -, -, hnd⟩ := id HM1.out
    obtain ⟨vv, bb, -, hit⟩ := HM1.out.look (strT w) Tryz.underlying52 (zeroRule w) (key := .string x.ex.name) ⟨_, rfl⟩ HK1.out
    obtain ⟨hi1, hi2⟩ := idx_first (rname_named x.ex.name) xs 0 l HX1.out
    have HLK := zH (fun (Y : World) (hY : Below X.heap.size X Y) => (HL1.out Y hY).look_eq (strT Y) Tryz.underlying52 (zeroRule Y) (key := .string x.ex.name) ⟨_, rfl⟩ HK1.out hit)
    rcases HF1.out.hits hit with ⟨p, hp1, rfl, rfl⟩ | ⟨hp1, rfl, rfl⟩
    · obtain ⟨A1, d1, A2, d2, A3, d3, hv1, hv2, hv3, -⟩ := p.slices
      have hv : p.val = .agg #[.string p.ru.name, .string p.ru.con, .slice A1 p.ru.vars.length d1, .slice A2 p.ru.params.length d2, .int .i64 p.ru.body.kind, .string p.ru.body.name, .slice A3 p.ru.body.args.length d3] := by rw [← hv1, ← hv2, ← hv3]; rfl
      have HAR := zH (show arityR l x.ex.name = arityS p.ru.con p.ru.params.length from arity_find (hi1 p hp1).2)
      have hpl := HP.out _ (List.mem_of_find?_eq_some (hi1 p hp1).2)
      rw [hv] at HLK
      have HCA := zH (fun (Y : World) => flat_arity p.ru.name p.ru.con p.ru.body.name A1 A2 A3 p.ru.vars.length d1 p.ru.params.length d2 p.ru.body.args.length d3 p.ru.body.kind Y hpl)
      clear hit hi1 hi2 hp1 hv hv1 hv2 hv3 hnd hpl
      obtain ⟨za, hza⟩ : ∃ za, za = arityS p.ru.con p.ru.params.length := ⟨_, rfl⟩
      rw [← hza] at HAR HCA
      have HZA := zH hza
      clear hza
      gi_wp2_with (gi_at_call 58; refine (at_wide rfl (own_form _ _ _ _ _ _) l2).mono ?_; rintro r w2 ⟨rfl, hb2⟩; rw [HT.out]; obtain ⟨hc1, hc2, hc3, hc4, hc5, hc6, hc7, hc8⟩ := HBX.out w2 hb2; have hlk := HLK.out (w2.alloc (.cells #[.string x.ex.name, .slice A4 q4 c4] 97)) (hb2.trans (((wB _ w2).alloc (nR _) _).mono hb2.size)); have HB2 := zH hb2; clear hb2)
      obtain ⟨Wz, hWz⟩ : ∃ Wz, Wz = (w2.alloc (.cells #[.string x.ex.name, .slice A4 q4 c4] 97)).alloc (.cells #[.string p.ru.name, .string p.ru.con, .slice A1 p.ru.vars.length d1, .slice A2 p.ru.params.length d2, .int .i64 p.ru.body.kind, .string p.ru.body.name, .slice A3 p.ru.body.args.length d3] 34) := ⟨_, rfl⟩
      rw [← hWz]
      have hz : Below X.heap.size X Wz := by rw [hWz]; exact HB2.out.trans ((((wB _ w2).alloc (nR _) _).alloc (by simp) _).mono HB2.out.size)
      have hbx : Wz.heap[w2.heap.size + 1]? = some (.cells #[.string p.ru.name, .string p.ru.con, .slice A1 p.ru.vars.length d1, .slice A2 p.ru.params.length d2, .int .i64 p.ru.body.kind, .string p.ru.body.name, .slice A3 p.ru.body.args.length d3] 34 (0, 0)) := by
       have h9 := World.alloc_heap_new (w2.alloc (.cells #[.string x.ex.name, .slice A4 q4 c4] 97)) (.cells #[.string p.ru.name, .string p.ru.con, .slice A1 p.ru.vars.length d1, .slice A2 p.ru.params.length d2, .int .i64 p.ru.body.kind, .string p.ru.body.name, .slice A3 p.ru.body.args.length d3] 34)
       rw [World.size_alloc, ← hWz] at h9
       exact h9
      have hfx : Wz.heap[w2.heap.size]? = some (.cells #[.string x.ex.name, .slice A4 q4 c4] 97 (0, 0)) := by
       rw [hWz]; exact (Below.heap_alloc _ _ _ (by simp)).trans (World.alloc_heap_new w2 _)
      have r0 : ∀ d os, (grow (redrawn Wz d) os).cell? ⟨w2.heap.size + 1, 0, none⟩ = some (.string p.ru.name) := fun d os => cell_regrown (by simp [World.cell?, hbx]) d os
      have r1 : ∀ d os, (grow (redrawn Wz d) os).cell? ⟨w2.heap.size + 1, 1, none⟩ = some (.string p.ru.con) := fun d os => cell_regrown (by simp [World.cell?, hbx]) d os
      have r2 : ∀ d os, (grow (redrawn Wz d) os).cell? ⟨w2.heap.size + 1, 2, none⟩ = some (.slice A1 p.ru.vars.length d1) := fun d os => cell_regrown (by simp [World.cell?, hbx]) d os
      have r3 : ∀ d os, (grow (redrawn Wz d) os).cell? ⟨w2.heap.size + 1, 3, none⟩ = some (.slice A2 p.ru.params.length d2) := fun d os => cell_regrown (by simp [World.cell?, hbx]) d os
      have r4 : ∀ d os, (grow (redrawn Wz d) os).cell? ⟨w2.heap.size + 1, 4, none⟩ = some (.int .i64 p.ru.body.kind) := fun d os => cell_regrown (by simp [World.cell?, hbx]) d os
      have r5 : ∀ d os, (grow (redrawn Wz d) os).cell? ⟨w2.heap.size + 1, 5, none⟩ = some (.string p.ru.body.name) := fun d os => cell_regrown (by simp [World.cell?, hbx]) d os
      have r6 : ∀ d os, (grow (redrawn Wz d) os).cell? ⟨w2.heap.size + 1, 6, none⟩ = some (.slice A3 p.ru.body.args.length d3) := fun d os => cell_regrown (by simp [World.cell?, hbx]) d os
      have r7 : ∀ d os, (grow (redrawn Wz d) os).cell? ⟨w2.heap.size, 1, none⟩ = some (.slice A4 q4 c4) := fun d os => cell_regrown (by simp [World.cell?, hfx]) d os
      have cA := fun d os => Calls.regrown_of ((HCA.out (grow (redrawn Wz d) os)).mono (fun e w' h => h))
      clear hbx hfx
      by_cases hqa : za = (q4 : Int)
      · have hnq : (za != (q4 : Int)) = false := by simp [hqa]
        clear hWz hlk
        refine region_round_below (by kernel_rfl) (by kernel_rfl) (by rfl) ?_
        repeat (quiet_step (exact cA _ _))
        refine wpQuiet_nil ?_
        intro _ hw'
        obtain ⟨⟨dq, osq⟩, hw''⟩ := hw'
        subst hw''
        have hq : Below X.heap.size X (grow (redrawn Wz dq) osq) := hz.trans ((below_regrown Wz dq osq).mono hz.size)
        obtain ⟨Wq, hWq⟩ : ∃ Wq, Wq = grow (redrawn Wz dq) osq := ⟨_, rfl⟩
        rw [← hWq] at hq ⊢
        clear hWq
        obtain ⟨-, -, -, he4, he5, he6, -, -⟩ := HBX.out Wq hq
        gi_wp2
        exact am_keep HAM.out hq (by rw [HCH.out, HAR.out, hqa, ← HQ4.out]; simp) HOW.out
      have hnq : (za != (q4 : Int)) = true := by simp [hqa]
      clear hWz hlk
      refine region_round_below (by kernel_rfl) (by kernel_rfl) (by rfl) ?_
      repeat (quiet_step (exact cA _ _))
      refine wpQuiet_nil ?_
      intro _ hw'
      obtain ⟨⟨dq, osq⟩, hw''⟩ := hw'
      subst hw''
      have hq : Below X.heap.size X (grow (redrawn Wz dq) osq) := hz.trans ((below_regrown Wz dq osq).mono hz.size)
      obtain ⟨Wq, hWq⟩ : ∃ Wq, Wq = grow (redrawn Wz dq) osq := ⟨_, rfl⟩
      rw [← hWq] at hq ⊢
      clear hWq
      obtain ⟨-, -, -, he4, he5, he6, -, -⟩ := HBX.out Wq hq
      gi_wp2
      exact am_stop HR.out hq (by rw [HCH.out, HAR.out, ← HQ4.out]; exact decide_eq_false (fun h => hqa h.symm))
    have HAR := zH (show arityR l x.ex.name = -1 by unfold arityR; rw [(hi2 hp1).2])
    clear hit hi1 hi2 hp1 hnd
    gi_wp2_with (gi_at_call 58; refine (at_wide rfl (own_form _ _ _ _ _ _) l2).mono ?_; rintro r w2 ⟨rfl, hb2⟩; rw [HT.out]; obtain ⟨hc1, hc2, hc3, hc4, hc5, hc6, hc7, hc8⟩ := HBX.out w2 hb2; have hlk := HLK.out (w2.alloc (.cells #[.string x.ex.name, .slice A4 q4 c4] 97)) (hb2.trans (((wB _ w2).alloc (nR _) _).mono hb2.size)); have HB2 := zH hb2; clear hb2)
    obtain ⟨Wz, hWz⟩ : ∃ Wz, Wz = (w2.alloc (.cells #[.string x.ex.name, .slice A4 q4 c4] 97)).alloc (.cells #[.string ⟨#[]⟩, .string ⟨#[]⟩, .slice none 0 0, .slice none 0 0, .int .i64 0, .string ⟨#[]⟩, .slice none 0 0] 34) := ⟨_, rfl⟩
    rw [← hWz]
    have hz : Below X.heap.size X Wz := by rw [hWz]; exact HB2.out.trans ((((wB _ w2).alloc (nR _) _).alloc (by simp) _).mono HB2.out.size)
    clear hWz hlk
    refine region_round_below (by kernel_rfl) (by kernel_rfl) (by rfl) ?_
    repeat (quiet_step (fail))
    refine wpQuiet_nil ?_
    intro _ hw'
    obtain ⟨⟨dq, osq⟩, hw''⟩ := hw'
    subst hw''
    have hq : Below X.heap.size X (grow (redrawn Wz dq) osq) := hz.trans ((below_regrown Wz dq osq).mono hz.size)
    obtain ⟨Wq, hWq⟩ : ∃ Wq, Wq = grow (redrawn Wz dq) osq := ⟨_, rfl⟩
    rw [← hWq] at hq ⊢
    clear hWq
    obtain ⟨-, -, -, he4, he5, he6, -, -⟩ := HBX.out Wq hq
    gi_wp2
    exact am_stop HR.out hq (by rw [HCH.out, HAR.out]; exact decide_eq_false (by omega))
  by_cases hk2 : x.ex.kind = 2
  · have aK := asCK
    have aC := asCC
    have HT := zH (show formTy x.ex.kind = 98 by rw [hk2]; rfl)
    have HCH := zH (show chk l (pre.map It.ex) x.ex = (if 0 ≤ conR x.ex.name l then decide ((x.ex.args.length : Int) = conR x.ex.name l) else chkO x.ex.args.length (((pre.map It.ex).filterMap conOf).find? (isC x.ex.name))) by unfold chk; rw [if_neg hk3, if_pos hk2])
    have HOF := zH (show ownOf l (pre.map It.ex ++ [x.ex]) = ownOf l (pre.map It.ex) ++ (if conR x.ex.name l < 0 then [(x.ex.name, x.ex.args.length)] else []) by
     unfold ownOf
     rw [List.filterMap_append, List.filter_append]
     congr 1
     by_cases hn : conR x.ex.name l < 0 <;> simp [conOf, hk2, hn])
    clear hk2 hk3
    obtain ⟨vv, bb, -, hit⟩ := HM2.out.look (strT w) Tryz.underlying53 (zeroInt w) (key := .string x.ex.name) ⟨_, rfl⟩ HK2.out
    have HLK := zH (fun (Y : World) (hY : Below X.heap.size X Y) => (HL2.out Y hY).look_eq (strT Y) Tryz.underlying53 (zeroInt Y) (key := .string x.ex.name) ⟨_, rfl⟩ HK2.out hit)
    rcases HF2.out.hits hit with ⟨p, hp1, rfl, rfl⟩ | ⟨hp1, rfl, rfl⟩
    · have HCR := zH (show conR x.ex.name l = (p.2 : Int) by rw [conR_find, ← HG.out, first_find _ _ _ hp1]; rfl)
      have HOW := zH (show ownOf l (pre.map It.ex ++ [x.ex]) = ownOf l (pre.map It.ex) by rw [HOF.out, HCR.out, if_neg (by omega), List.append_nil])
      have HC2 := zH (show chk l (pre.map It.ex) x.ex = decide ((x.ex.args.length : Int) = (p.2 : Int)) by rw [HCH.out, HCR.out, if_pos (by omega)])
      clear hit hp1
      simp only [cval] at HLK
      by_cases hqa : (p.2 : Int) = (q4 : Int)
      · have hnq : ((p.2 : Int) != (q4 : Int)) = false := by simp [hqa]
        gi_wp2_with (gi_at_call 58; refine (at_wide rfl (own_form _ _ _ _ _ _) l2).mono ?_; rintro r w2 ⟨rfl, hb2⟩; rw [HT.out]; obtain ⟨hc1, hc2, hc3, hc4, hc5, hc6, hc7, hc8⟩ := HBX.out w2 hb2; have hlk := HLK.out (w2.alloc (.cells #[.string x.ex.name, .slice A4 q4 c4] 98)) (hb2.trans (((wB _ w2).alloc (nR _) _).mono hb2.size)); have HB2 := zH hb2; clear hb2)
        exact am_keep HAM.out (HB2.out.trans (((wB _ w2).alloc (nR _) _).mono HB2.out.size)) (by rw [HC2.out, hqa, ← HQ4.out]; simp) HOW.out
      have hnq : ((p.2 : Int) != (q4 : Int)) = true := by simp [hqa]
      gi_wp2_with (gi_at_call 58; refine (at_wide rfl (own_form _ _ _ _ _ _) l2).mono ?_; rintro r w2 ⟨rfl, hb2⟩; rw [HT.out]; obtain ⟨hc1, hc2, hc3, hc4, hc5, hc6, hc7, hc8⟩ := HBX.out w2 hb2; have hlk := HLK.out (w2.alloc (.cells #[.string x.ex.name, .slice A4 q4 c4] 98)) (hb2.trans (((wB _ w2).alloc (nR _) _).mono hb2.size)); have HB2 := zH hb2; clear hb2)
      exact am_stop2 HR.out HB2.out (by rw [HC2.out, ← HQ4.out]; exact decide_eq_false (fun h => hqa h.symm))
    have HCR := zH (show conR x.ex.name l = -1 by rw [conR_find, ← HG.out, none_find _ _ hp1]; rfl)
    have HOW := zH (show ownOf l (pre.map It.ex ++ [x.ex]) = ownOf l (pre.map It.ex) ++ [(x.ex.name, x.ex.args.length)] by rw [HOF.out, HCR.out, if_pos (by omega)])
    have HFS := zH (own_find' l (pre.map It.ex) x.ex.name (by rw [HCR.out]; omega))
    clear hit hp1
    obtain ⟨vv, bb, -, hit⟩ := HMO.out.look (strT X) Tryz.underlying53 (zeroInt X) (key := .string x.ex.name) ⟨_, rfl⟩ HKO.out
    have HLW2 := zH (fun (Y : World) (hY : Below X.heap.size X Y) => (HLO.out Y hY).look_eq (strT Y) Tryz.underlying53 (zeroInt Y) (key := .string x.ex.name) ⟨_, rfl⟩ HKO.out hit)
    rcases HFO.out.hits hit with ⟨p, hp1, rfl, rfl⟩ | ⟨hp1, rfl, rfl⟩
    · have HC2 := zH (show chk l (pre.map It.ex) x.ex = decide (x.ex.args.length = p.2) by rw [HCH.out, HCR.out, if_neg (by omega), ← HFS.out, first_find _ _ _ hp1]; rfl)
      have HHIT := zH hit
      clear hit hp1
      simp only [cval] at HLW2
      by_cases hqa : (p.2 : Int) = (q4 : Int)
      · have hnq : ((p.2 : Int) != (q4 : Int)) = false := by simp [hqa]
        gi_wp2_with (gi_at_call 58; refine (at_wide rfl (own_form _ _ _ _ _ _) l2).mono ?_; rintro r w2 ⟨rfl, hb2⟩; rw [HT.out]; obtain ⟨hc1, hc2, hc3, hc4, hc5, hc6, hc7, hc8⟩ := HBX.out w2 hb2; have hlk := HLK.out (w2.alloc (.cells #[.string x.ex.name, .slice A4 q4 c4] 98)) (hb2.trans (((wB _ w2).alloc (nR _) _).mono hb2.size)); have hlo := HLW2.out (w2.alloc (.cells #[.string x.ex.name, .slice A4 q4 c4] 98)) (hb2.trans (((wB _ w2).alloc (nR _) _).mono hb2.size)); have HB2 := zH hb2; clear hb2)
        exact am_same (c := (x.ex.name, x.ex.args.length)) HR.out HO.out HNE.out HOK.out HMO.out HKO.out HFO.out (HB2.out.trans (((wB _ w2).alloc (nR _) _).mono HB2.out.size)) (by rw [HC2.out, ← HQ4.out]; exact decide_eq_true (by omega)) HOW.out HHIT.out
      have hnq : ((p.2 : Int) != (q4 : Int)) = true := by simp [hqa]
      gi_wp2_with (gi_at_call 58; refine (at_wide rfl (own_form _ _ _ _ _ _) l2).mono ?_; rintro r w2 ⟨rfl, hb2⟩; rw [HT.out]; obtain ⟨hc1, hc2, hc3, hc4, hc5, hc6, hc7, hc8⟩ := HBX.out w2 hb2; have hlk := HLK.out (w2.alloc (.cells #[.string x.ex.name, .slice A4 q4 c4] 98)) (hb2.trans (((wB _ w2).alloc (nR _) _).mono hb2.size)); have hlo := HLW2.out (w2.alloc (.cells #[.string x.ex.name, .slice A4 q4 c4] 98)) (hb2.trans (((wB _ w2).alloc (nR _) _).mono hb2.size)); have HB2 := zH hb2; clear hb2)
      exact am_stop2 HR.out HB2.out (by rw [HC2.out, ← HQ4.out]; exact decide_eq_false (by omega))
    have HC2 := zH (show chk l (pre.map It.ex) x.ex = true by rw [HCH.out, HCR.out, if_neg (by omega), ← HFS.out, none_find _ _ hp1]; rfl)
    have HHIT := zH hit
    clear hit hp1
    gi_wp2_with (first
     | (gi_at_call 58; refine (at_wide rfl (own_form _ _ _ _ _ _) l2).mono ?_; rintro r w2 ⟨rfl, hb2⟩; rw [HT.out]; obtain ⟨hc1, hc2, hc3, hc4, hc5, hc6, hc7, hc8⟩ := HBX.out w2 hb2; have hlk := HLK.out (w2.alloc (.cells #[.string x.ex.name, .slice A4 q4 c4] 98)) (hb2.trans (((wB _ w2).alloc (nR _) _).mono hb2.size)); have hlo := HLW2.out (w2.alloc (.cells #[.string x.ex.name, .slice A4 q4 c4] 98)) (hb2.trans (((wB _ w2).alloc (nR _) _).mono hb2.size)); have HB2 := zH hb2; clear hb2)
     | (gi_at_mapUpdate; refine asc_put_in _ rfl _ _ _ 53 rfl 9 3 Tryz.underlying53 StrK (strT _) (w.heap.size + 3) M rfl (HLO.out _ (HB2.out.trans (((wB _ w2).alloc (nR _) _).mono HB2.out.size))) _ _ rfl rfl ⟨_, rfl⟩ HKO.out ?_; intro W5 L2 hmi5 hput5 hgr5; have HM5 := zH hmi5; have HP5 := zH hput5; have HG5 := zH hgr5; clear hmi5 hput5 hgr5))
    exact am_put (c := (x.ex.name, x.ex.args.length)) HR.out HO.out HNE.out HOK.out HMO.out HKO.out HFO.out (HB2.out.trans (((wB _ w2).alloc (nR _) _).mono HB2.out.size)) HC2.out HOW.out HHIT.out HM5.out (by have := HP5.out; rw [HQ4.out] at this; exact this) HG5.out
  have aK := asK_no x.ex.kind hk3
  have aC := asC_no x.ex.kind hk2
  have HCH := zH (show chk l (pre.map It.ex) x.ex = true by unfold chk; rw [if_neg hk3, if_neg hk2])
  have HOW := zH (show ownOf l (pre.map It.ex ++ [x.ex]) = ownOf l (pre.map It.ex) by unfold ownOf; rw [List.filterMap_append]; simp [conOf, hk2])
  clear hk2 hk3
  gi_wp2_with (gi_at_call 58; refine (at_wide rfl (own_form _ _ _ _ _ _) l2).mono ?_; rintro r w2 ⟨rfl, hb2⟩; have HB2 := zH hb2; clear hb2)
  exact am_keep HAM.out HB2.out HCH.out HOW.out
 case done =>
  rintro D ks Fp X hD hDF hFl hS ⟨rfl, hne, hR, hO, hok, M, hmo, hko, hfo⟩ hFr hK
  have HDT := zH (show fitE l e e = true by rw [HN.out, ← hS]; exact hok)
  have hrc : X.cell? ⟨w.heap.size + 1 + 1, 0, none⟩ = _ := hR.cell
  have hrf : X.frozen? ⟨w.heap.size + 1 + 1, 0, none⟩ = false := hR.frozen
  have hrl : w.heap.size + 1 + 1 < X.heap.size := hR.lt
  have HR := zH hR
  have HK := zH hK
  have HLW := zH (show Below w.heap.size w X from HX.out.2.1.trans (hFr.below (by simp <;> omega) (by omega)))
  have HDX := zH (show D ≠ w.heap.size + 2 by omega)
  clear hR hO hok hmo hko hfo hFr hK hS hne
  gi_wp2
  rw [HDT.out]
  exact bool4_end rfl rfl (HR.out.set _) ((Below.heap_setCell _ _ _ _ HDX.out).trans HK.out) HDX.out (by omega) (HLW.out.setCell (p := ⟨w.heap.size + 2, 0, none⟩) (by simp) _)
 case stop =>
  rintro D cc pre Fp X hD hDF hFl hSp ⟨rfl, rfl, hR, hbad⟩ hFr hK
  have HDT := zH (show fitE l e e = false by
   obtain ⟨t, ht⟩ := hSp
   rw [HN.out, ← ht, okL_app, hbad, Bool.false_and])
  have HR := zH hR
  have HK := zH hK
  have HLW := zH (show Below w.heap.size w X from HX.out.2.1.trans (hFr.below (by simp <;> omega) (by omega)))
  have HDX := zH (show D ≠ w.heap.size + 2 by omega)
  clear hR hbad hFr hK hSp
  gi_wp2
  rw [HDT.out]
  exact bool4_end rfl rfl HR.out HK.out HDX.out (by omega) HLW.out
end Go.Proofs.YtiaknfnhmoinpaaGreat
