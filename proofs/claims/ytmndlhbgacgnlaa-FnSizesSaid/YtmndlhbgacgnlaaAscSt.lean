/- Maps that the program makes for itself, with stamps of their entries: stores by 'm[k] = v' and by an assignment of several. No condition. -/
import Derived.Test.YtmndlhbgacgnlaaAsc
import Derived.WideKeyEntry
namespace Go.Proofs.Ytmndlhbgacgnlaa
open Go Go.RowKit Go.ChangeMaps Go.WideMaps Go.WideElems

/-- Block b of w is a map with the entries L, each key once, each entry with a stamp of its own. -/
def MapSt (w : World) (b : Nat) (L : List (Value × Value)) : Prop :=
  ∃ es clock, w.heap[b]? = some (.map es clock) ∧ es.toList.map (fun e => (e.key, e.val)) = L ∧ MapKept.Stamped es clock
theorem MapSt.is {w : World} {b : Nat} {L : List (Value × Value)} (h : MapSt w b L) : MapIs w b L := by
  obtain ⟨es, clock, hb, hl, hs⟩ := h
  exact ⟨es, clock, hb, hl, by rw [← hl, List.map_map]; exact hs.2.2⟩
theorem MapSt.nodup {w : World} {b : Nat} {L : List (Value × Value)} (h : MapSt w b L) : (L.map Prod.fst).Nodup := by
  obtain ⟨_, _, _, _, h⟩ := h.is
  exact h
theorem MapSt.on {w w2 : World} {b : Nat} {L : List (Value × Value)} (h : MapSt w b L) (hk : w2.heap[b]? = w.heap[b]?) : MapSt w2 b L := by
  obtain ⟨es, clock, hb, r⟩ := h
  exact ⟨es, clock, hk.trans hb, r⟩
theorem MapSt.made (w : World) : MapSt (w.alloc (.map #[] 0)) w.heap.size [] := ⟨#[], 0, (MapKept.heap_alloc w _).1, rfl, by simp [MapKept.Stamped]⟩

section
variable {P : Program} {w : World} {k e t : TypeId} {K : Value → Prop} {b : Nat} {L : List (Value × Value)}
theorem MapSt.update (h : MapSt w b L) (hK : KeyT P k w K) (ht : P.underlying t = some (.map k e)) {key val : Value} (hkey : K key) (hL : ∀ x ∈ L, K x.1) :
    ∃ w' L2, (Instr.mapUpdate t (.map (some b)) key val).run P w = .ok () w' ∧ MapSt w' b L2 ∧ Put L key val L2 ∧ w.grownBy w' (some b) := by
  obtain ⟨es, clock, hb, rfl, hst⟩ := h
  obtain ⟨s1, s2, hn⟩ := hst
  have hes : ∀ e ∈ es.toList, K e.key := fun e he => hL _ (List.mem_map_of_mem he)
  have grown : ∀ o : Obj, w.grownBy (setBlock w b o) (some b) := fun o => ⟨rfl, rfl, rfl, by simp [setBlock], fun i _ hi => heap_setBlock_other hb _ (fun e => hi (by rw [e]))⟩
  rcases hK.find key es.toList hkey hes with ⟨h1, h2⟩ | ⟨j, e0, h1, h2, h3⟩
  · have hne : ∀ x ∈ es.toList.map (fun e => (e.key, e.val)), x.1 ≠ key := fun x hx => by
      obtain ⟨e1, he1, rfl⟩ := List.mem_map.1 hx
      exact h2 e1 he1
    refine ⟨setBlock w b (.map (es.push ⟨key, val, clock⟩) (clock + 1)), es.toList.map (fun e => (e.key, e.val)) ++ [(key, val)], ?_, ⟨_, _, heap_setBlock_same hb _, by simp, ?_, ?_, ?_⟩, Or.inl ⟨hne, rfl⟩, grown _⟩
    · simp [Instr.mapUpdate, run_underlying ht, MapKept.run_getObj_map hb, hK.check false key hkey, h1, MapKept.run_setObj_map _ hb, Result.andThen, setBlock]
    · intro x hx
      rw [Array.toList_push] at hx
      rcases List.mem_append.1 hx with hx | hx
      · have := s1 x hx; omega
      · rw [List.mem_singleton] at hx; subst hx; exact Nat.lt_succ_self _
    · rw [Array.toList_push, List.map_append, List.nodup_append]
      refine ⟨s2, by simp, fun a ha c hc e => ?_⟩
      simp only [List.map_cons, List.map_nil, List.mem_singleton] at hc
      obtain ⟨x, hx, rfl⟩ := List.mem_map.1 ha
      have := s1 x hx
      omega
    · rw [Array.toList_push, List.map_append, List.nodup_append]
      refine ⟨hn, by simp, fun a ha c hc e => ?_⟩
      simp only [List.map_cons, List.map_nil, List.mem_singleton] at hc
      obtain ⟨x, hx, rfl⟩ := List.mem_map.1 ha
      exact h2 x hx (e.trans hc)
  · have hj : es[j]? = some e0 := by simpa using h2
    have hlist : (es.modify j (fun e' => { e' with key := key, val := val })).toList = es.toList.set j { e0 with key := key, val := val } := by rw [Array.toList_modify, modify_eq_set _ _ _ _ h2]
    obtain ⟨A, B, hAB, hA⟩ : ∃ A B, es.toList = A ++ e0 :: B ∧ A.length = j := by
      have hl := (List.getElem?_eq_some_iff.1 h2).1
      refine ⟨es.toList.take j, es.toList.drop (j + 1), ?_, by rw [List.length_take]; omega⟩
      rw [← (List.getElem?_eq_some_iff.1 h2).2, ← List.drop_eq_getElem_cons hl, List.take_append_drop]
    have hset : es.toList.set j { e0 with key := key, val := val } = A ++ { e0 with key := key, val := val } :: B := by
      rw [hAB, List.set_append_right _ _ (by omega), hA, Nat.sub_self, List.set_cons_zero]
    refine ⟨setBlock w b (.map (es.modify j (fun e' => { e' with key := key, val := val })) clock), A.map (fun e => (e.key, e.val)) ++ (key, val) :: B.map (fun e => (e.key, e.val)), ?_, ⟨_, _, heap_setBlock_same hb _, by rw [hlist, hset]; simp, ?_, ?_, ?_⟩, Or.inr ⟨A.map (fun e => (e.key, e.val)), e0.val, B.map (fun e => (e.key, e.val)), by rw [hAB]; simp [h3], rfl⟩, grown _⟩
    · simp [Instr.mapUpdate, run_underlying ht, MapKept.run_getObj_map hb, hK.check false key hkey, h1, hj, h3, hK.stays key hkey, MapKept.run_setObj_map _ hb, Result.andThen, setBlock]
    · intro x hx
      rw [hlist, hset] at hx
      rcases List.mem_append.1 hx with hx | hx
      · exact s1 x (by rw [hAB]; simp [hx])
      · rcases List.mem_cons.1 hx with rfl | hx
        · exact s1 e0 (by rw [hAB]; simp)
        · exact s1 x (by rw [hAB]; simp [hx])
    · rw [hlist, hset]
      rw [hAB] at s2
      simpa using s2
    · rw [hlist, hset]
      rw [hAB] at hn
      simpa [h3] using hn
/-- The entry of a key that is there, and the store at it, in an assignment of several. -/
theorem MapSt.entry (h : MapSt w b L) (hK : KeyT P k w K) (ht : P.underlying t = some (.map k e)) {key v0 : Value} (hkey : K key) (hL : ∀ x ∈ L, K x.1) (hv : (key, v0) ∈ L) :
    ∃ st : Nat, (Instr.mapEntry t (.map (some b)) key).run P w = .ok (.tuple #[v0, .int .i64 (st : Int)]) w ∧
      ∀ val, ∃ w' L2, (Instr.entryStore t (.map (some b)) (.int .i64 (st : Int)) val).run P w = .ok () w' ∧ MapSt w' b L2 ∧ Put L key val L2 ∧ w.grownBy w' (some b) := by
  obtain ⟨es, clock, hb, rfl, hst⟩ := id h
  obtain ⟨s1, s2, hn⟩ := hst
  have hes : ∀ e ∈ es.toList, K e.key := fun e he => hL _ (List.mem_map_of_mem he)
  obtain ⟨x0, hx0, hx1⟩ := List.mem_map.1 hv
  rcases hK.find key es.toList hkey hes with ⟨h1, h2⟩ | ⟨j, e0, h1, h2, h3⟩
  · exact absurd (Prod.mk.inj hx1).1 (h2 x0 hx0)
  · have hj : es[j]? = some e0 := by simpa using h2
    have hv0 : v0 = e0.val := (Prod.mk.inj (nodup_one _ h.nodup _ hv _ (List.mem_map_of_mem (List.mem_of_getElem? h2)) h3.symm)).2
    have hsame : es.modify j (fun e => { e with key := key }) = es := by
      apply Array.ext'
      rw [Array.toList_modify, modify_eq_set _ _ _ _ h2]
      have : ({ e0 with key := key } : MapEntry) = e0 := by rw [← h3]
      rw [this]
      exact set_self _ _ _ h2
    have hblk : setBlock w b (.map es clock) = w := by
      unfold setBlock
      have hbl := (Array.getElem?_eq_some_iff.1 hb).1
      have : w.heap.setIfInBounds b (.map es clock) = w.heap := by
        apply Array.ext'
        rw [Array.toList_setIfInBounds]
        exact set_self _ _ _ (by simpa using hb)
      cases w
      simp only at this ⊢
      rw [this]
    have hidx : es.findIdx? (fun e => ((e.born : Nat) : Int) == ((e0.born : Nat) : Int)) = some j := by
      rw [findIdx_arr]
      exact findIdx_born s2 h2
    refine ⟨e0.born, ?_, fun val => ?_⟩
    · rw [hv0]
      have := hblk
      unfold setBlock at this
      simp [Instr.mapEntry, run_underlying ht, MapKept.run_getObj_map hb, hK.check false key hkey, h1, hj, h3, hK.stays key hkey, hsame, MapKept.run_setObj_map _ hb, Result.andThen, this, goInt]
    · obtain ⟨w', L2, hrun, r1, r2, r3⟩ := h.update (val := val) hK ht hkey hL
      refine ⟨w', L2, ?_, r1, r2, r3⟩
      rw [← hrun]
      have hmod : es.modify j (fun e => { e with val := val }) = es.modify j (fun e' => { e' with key := key, val := val }) := by
        apply Array.ext'
        rw [Array.toList_modify, Array.toList_modify, modify_eq_set _ _ _ _ h2, modify_eq_set _ _ _ _ h2, ← h3]
      simp [Instr.entryStore, Instr.mapUpdate, run_underlying ht, MapKept.run_getObj_map hb, asInt, asIntOf, hK.check false key hkey, h1, hj, h3, hK.stays key hkey, hidx, hmod, MapKept.run_setObj_map _ hb, Result.andThen]
theorem st_put {o : Oper} (hg : o.guard = none) {ops : Array Oper} {rest : List Oper} {a : Act} {Q : Exit → Act → World → Prop} (m x v : Operand) (t : TypeId) (hop : o.op = Op.mapUpdate t m x v) (k e : TypeId) (ht : P.underlying t = some (.map k e)) (K : Value → Prop) (hK : KeyT P k w K) (b : Nat) (L : List (Value × Value)) (hm : a.eval m = .map (some b)) (h : MapSt w b L) (key val : Value) (hx : a.eval x = key) (hv : a.eval v = val) (hkey : K key) (hL : ∀ x ∈ L, K x.1)
    (hQ : ∀ w' L2, MapSt w' b L2 → Put L key val L2 → w.grownBy w' (some b) → wpList P ops Q rest (a.put o.dst undef) w') : wpList P ops Q (o :: rest) a w := by
  refine wpList_plain hg fun K' hK' => ?_
  obtain ⟨w', L2, hrun, r1, r2, r3⟩ := h.update (val := val) hK ht hkey hL
  unfold Oper.wp
  simp [execOp, hop, hm, hx, hv, hrun, Result.andThen]
  exact hK' _ _ (hQ w' L2 r1 r2 r3)
end
end Go.Proofs.Ytmndlhbgacgnlaa
