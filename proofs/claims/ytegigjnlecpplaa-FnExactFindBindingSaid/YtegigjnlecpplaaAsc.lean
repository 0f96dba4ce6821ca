/- Maps that the program makes for itself, as lists of entries: looked up, written, their size. The keys may be strings, structs of strings, or hold pointers to memory that can be told apart. No condition. -/
import Derived.Test.YtegigjnlecpplaaRows
import Derived.WalkKit
import Derived.Lib.Hide
import Derived.Maps.OwnSet
import Derived.Maps.OwnIn
namespace Go.Proofs.Ytegigjnlecpplaa
open Go Go.RowKit Go.ChangeMaps Go.WideMaps

/-- What the values of K are good for as keys of type k in w. -/
structure KeyT (P : Program) (k : TypeId) (w : World) (K : Value → Prop) : Prop where
  check : ∀ (em : Bool) (v : Value), K v → (Instr.checkKey em 10000 k v).run P w = .ok () w
  find : ∀ (x : Value) (es : List MapEntry), K x → (∀ e ∈ es, K e.key) → ((Instr.findKey k x es).run P w = .ok none w ∧ ∀ e ∈ es, e.key ≠ x) ∨ ∃ j e, (Instr.findKey k x es).run P w = .ok (some (j, e.val)) w ∧ es[j]? = some e ∧ e.key = x
  stays : ∀ v : Value, K v → (Instr.keyThatStays v v).run P w = .ok v w
theorem KeyT.of_keyed {P : Program} {k : TypeId} (h : Maps.Keyed P k) (w : World) : KeyT P k w (fun v => ∃ l, keyOf P k v = some l) :=
  ⟨fun em _ ⟨_, hv⟩ => h.check w em hv, fun _ es ⟨_, hx⟩ he => h.find w hx es he, fun _ ⟨_, hv⟩ => h.stays w hv⟩

/-- Keys that are compared one by one. -/
theorem find_asking {P : Program} {k : TypeId} {w : World} {K : Value → Prop} (heq : ∀ x y : Value, K x → K y → ∃ r : Bool, (Op.equal k x y).run P w = .ok r w ∧ (r = true ↔ x = y)) {x : Value} (hx : K x) :
    ∀ (es : List MapEntry) (i : Nat), (∀ e ∈ es, K e.key) → ((Instr.findAsking k x es i).run P w = .ok none w ∧ ∀ e ∈ es, e.key ≠ x) ∨ ∃ j e, (Instr.findAsking k x es i).run P w = .ok (some (i + j, e.val)) w ∧ es[j]? = some e ∧ e.key = x := by
  intro es
  induction es with
  | nil => intro i _; exact Or.inl ⟨by simp [Instr.findAsking], fun e h => by cases h⟩
  | cons e r ih =>
    intro i hall
    obtain ⟨b, hr, hiff⟩ := heq x e.key hx (hall e (by simp))
    cases b with
    | true => exact Or.inr ⟨0, e, by simp [Instr.findAsking, hr], rfl, (hiff.1 rfl).symm⟩
    | false =>
      have hne : e.key ≠ x := fun h => by have := hiff.2 h.symm; cases this
      rcases ih (i + 1) (fun y hy => hall y (by simp [hy])) with ⟨h1, h2⟩ | ⟨j, e', h1, h2, h3⟩
      · refine Or.inl ⟨by simp [Instr.findAsking, hr, h1], fun y hy => ?_⟩
        rcases List.mem_cons.1 hy with rfl | hy
        · exact hne
        · exact h2 y hy
      · exact Or.inr ⟨j + 1, e', by simp [Instr.findAsking, hr, h1]; omega, by simpa using h2, h3⟩

/-- Block b of w is a map with the entries L, each key once. -/
def MapIs (w : World) (b : Nat) (L : List (Value × Value)) : Prop :=
  ∃ es clock, w.heap[b]? = some (.map es clock) ∧ es.toList.map (fun e => (e.key, e.val)) = L ∧ (L.map Prod.fst).Nodup
theorem MapIs.lt {w : World} {b : Nat} {L : List (Value × Value)} (h : MapIs w b L) : b < w.heap.size := by
  obtain ⟨es, clock, hb, -⟩ := h
  exact (Array.getElem?_eq_some_iff.1 hb).1
theorem MapIs.on {w w2 : World} {b : Nat} {L : List (Value × Value)} (h : MapIs w b L) (hk : w2.heap[b]? = w.heap[b]?) : MapIs w2 b L := by
  obtain ⟨es, clock, hb, r⟩ := h
  exact ⟨es, clock, hk.trans hb, r⟩
theorem MapIs.made (w : World) : MapIs (w.alloc (.map #[] 0)) w.heap.size [] := ⟨#[], 0, (MapKept.heap_alloc w _).1, rfl, List.nodup_nil⟩
/-- What stands at a key. -/
def Hits (L : List (Value × Value)) (key : Value) (z v : Value) (b : Bool) : Prop := ((key, v) ∈ L ∧ b = true) ∨ ((∀ x ∈ L, x.1 ≠ key) ∧ v = z ∧ b = false)
/-- What a store leaves. -/
def Put (L : List (Value × Value)) (key val : Value) (L2 : List (Value × Value)) : Prop := ((∀ x ∈ L, x.1 ≠ key) ∧ L2 = L ++ [(key, val)]) ∨ ∃ A v0 B, L = A ++ (key, v0) :: B ∧ L2 = A ++ (key, val) :: B
theorem nodup_one : ∀ (L : List (Value × Value)), (L.map Prod.fst).Nodup → ∀ x ∈ L, ∀ y ∈ L, x.1 = y.1 → x = y := by
  intro L
  induction L with
  | nil => intro _ x hx; cases hx
  | cons p r ih =>
    intro hn x hx y hy e
    rw [List.map_cons, List.nodup_cons] at hn
    rcases List.mem_cons.1 hx with e1 | h1 <;> rcases List.mem_cons.1 hy with e2 | h2
    · rw [e1, e2]
    · exact (hn.1 (List.mem_map.2 ⟨y, h2, by rw [← e, e1]⟩)).elim
    · exact (hn.1 (List.mem_map.2 ⟨x, h1, by rw [e, e2]⟩)).elim
    · exact ih hn.2 x h1 y h2 e
theorem Hits.uniq {L : List (Value × Value)} (hn : (L.map Prod.fst).Nodup) {key z v v2 : Value} {b b2 : Bool} (h : Hits L key z v b) (h2 : Hits L key z v2 b2) : v = v2 ∧ b = b2 := by
  rcases h with ⟨h1, rfl⟩ | ⟨h1, rfl, rfl⟩ <;> rcases h2 with ⟨h3, rfl⟩ | ⟨h3, rfl, rfl⟩
  · exact ⟨(Prod.mk.inj (nodup_one L hn _ h1 _ h3 rfl)).2, rfl⟩
  · exact absurd rfl (h3 _ h1)
  · exact absurd rfl (h1 _ h3)
  · exact ⟨rfl, rfl⟩

section
variable {P : Program} {w : World} {k e t : TypeId} {K : Value → Prop} {b : Nat} {L : List (Value × Value)}

theorem MapIs.look (h : MapIs w b L) (hK : KeyT P k w K) (ht : P.underlying t = some (.map k e)) {z : Value} (hz : (zeroValue e).run P w = .ok z w) {key : Value} (hkey : K key) (hL : ∀ x ∈ L, K x.1) :
    ∃ v has, (∀ ok : Bool, (Instr.lookup t (.map (some b)) key ok).run P w = .ok (if ok then .tuple #[v, .bool has] else v) w) ∧ Hits L key z v has := by
  obtain ⟨es, clock, hb, rfl, hn⟩ := h
  have hes : ∀ e ∈ es.toList, K e.key := fun e he => hL _ (List.mem_map_of_mem he)
  rcases hK.find key es.toList hkey hes with ⟨h1, h2⟩ | ⟨j, e0, h1, h2, h3⟩
  · refine ⟨z, false, fun ok => ?_, Or.inr ⟨fun x hx => ?_, rfl, rfl⟩⟩
    · simp [Instr.lookup, run_underlying ht, MapKept.run_getObj_map hb, hK.check _ key hkey, h1, hz, Result.andThen]
    · obtain ⟨e1, he1, rfl⟩ := List.mem_map.1 hx
      exact h2 e1 he1
  · refine ⟨e0.val, true, fun ok => ?_, Or.inl ⟨?_, rfl⟩⟩
    · simp [Instr.lookup, run_underlying ht, MapKept.run_getObj_map hb, hK.check _ key hkey, h1, Result.andThen]
    · rw [← h3]
      exact List.mem_map.2 ⟨e0, List.mem_of_getElem? h2, rfl⟩

theorem nodup_split {A B : List (Value × Value)} {key v0 v1 : Value} (h : ((A ++ (key, v0) :: B).map Prod.fst).Nodup) : ((A ++ (key, v1) :: B).map Prod.fst).Nodup := by
  simpa using h

theorem MapIs.update (h : MapIs w b L) (hK : KeyT P k w K) (ht : P.underlying t = some (.map k e)) {key val : Value} (hkey : K key) (hL : ∀ x ∈ L, K x.1) :
    ∃ w' L2, (Instr.mapUpdate t (.map (some b)) key val).run P w = .ok () w' ∧ MapIs w' b L2 ∧ Put L key val L2 ∧ w.grownBy w' (some b) := by
  obtain ⟨es, clock, hb, rfl, hn⟩ := h
  have hes : ∀ e ∈ es.toList, K e.key := fun e he => hL _ (List.mem_map_of_mem he)
  have grown : ∀ o : Obj, w.grownBy (setBlock w b o) (some b) := fun o => ⟨rfl, rfl, rfl, by simp [setBlock], fun i _ hi => heap_setBlock_other hb _ (fun e => hi (by rw [e]))⟩
  rcases hK.find key es.toList hkey hes with ⟨h1, h2⟩ | ⟨j, e0, h1, h2, h3⟩
  · have hne : ∀ x ∈ es.toList.map (fun e => (e.key, e.val)), x.1 ≠ key := fun x hx => by
      obtain ⟨e1, he1, rfl⟩ := List.mem_map.1 hx
      exact h2 e1 he1
    refine ⟨setBlock w b (.map (es.push ⟨key, val, clock⟩) (clock + 1)), es.toList.map (fun e => (e.key, e.val)) ++ [(key, val)], ?_, ⟨_, _, heap_setBlock_same hb _, by simp, ?_⟩, Or.inl ⟨hne, rfl⟩, grown _⟩
    · simp [Instr.mapUpdate, run_underlying ht, MapKept.run_getObj_map hb, hK.check false key hkey, h1, MapKept.run_setObj_map _ hb, Result.andThen, setBlock]
    · rw [List.map_append, List.nodup_append]
      refine ⟨hn, by simp, fun a ha b hb e => ?_⟩
      simp only [List.map_cons, List.map_nil, List.mem_singleton] at hb
      obtain ⟨x, hx, rfl⟩ := List.mem_map.1 ha
      exact hne x hx (e.trans hb)
  · have hj : es[j]? = some e0 := by simpa using h2
    have hlist : (es.modify j (fun e' => { e' with key := key, val := val })).toList = es.toList.set j { e0 with key := key, val := val } := by rw [Array.toList_modify, modify_eq_set _ _ _ _ h2]
    obtain ⟨A, B, hAB, hA⟩ : ∃ A B, es.toList = A ++ e0 :: B ∧ A.length = j := by
      have hl := (List.getElem?_eq_some_iff.1 h2).1
      refine ⟨es.toList.take j, es.toList.drop (j + 1), ?_, by rw [List.length_take]; omega⟩
      rw [← (List.getElem?_eq_some_iff.1 h2).2, ← List.drop_eq_getElem_cons hl, List.take_append_drop]
    have hset : es.toList.set j { e0 with key := key, val := val } = A ++ { e0 with key := key, val := val } :: B := by
      rw [hAB, List.set_append_right _ _ (by omega), hA, Nat.sub_self, List.set_cons_zero]
    refine ⟨setBlock w b (.map (es.modify j (fun e' => { e' with key := key, val := val })) clock), A.map (fun e => (e.key, e.val)) ++ (key, val) :: B.map (fun e => (e.key, e.val)), ?_, ⟨_, _, heap_setBlock_same hb _, by rw [hlist, hset]; simp, ?_⟩, Or.inr ⟨A.map (fun e => (e.key, e.val)), e0.val, B.map (fun e => (e.key, e.val)), by rw [hAB]; simp [h3], rfl⟩, grown _⟩
    · simp [Instr.mapUpdate, run_underlying ht, MapKept.run_getObj_map hb, hK.check false key hkey, h1, hj, h3, hK.stays key hkey, MapKept.run_setObj_map _ hb, Result.andThen, setBlock]
    · rw [hAB] at hn
      refine nodup_split (v0 := e0.val) ?_
      simpa [h3] using hn
end
theorem Put.nodup_keys {L L2 : List (Value × Value)} {key val : Value} (h : Put L key val L2) {K : Value → Prop} (hL : ∀ x ∈ L, K x.1) (hk : K key) : ∀ x ∈ L2, K x.1 := by
  rcases h with ⟨-, rfl⟩ | ⟨A, v0, B, rfl, rfl⟩
  · intro x hx
    rcases List.mem_append.1 hx with hx | hx
    · exact hL x hx
    · rw [List.mem_singleton] at hx; subst hx; exact hk
  · intro x hx
    rcases List.mem_append.1 hx with hx | hx
    · exact hL x (by simp [hx])
    · rcases List.mem_cons.1 hx with rfl | hx
      · exact hk
      · exact hL x (by simp [hx])

section
variable {P : Program} {k e t : TypeId} {K : Value → Prop} {b : Nat} {L : List (Value × Value)} (w : World) {ops : Array Oper} {rest : List Oper} {o : Oper} {a : Act} {Q : Exit → Act → World → Prop} {F : Fence} {nF : Nat}
/-- 'm[k] = v' at the operation. -/
theorem asc_put (hg : o.guard = none) (m x v : Operand) (t : TypeId) (hop : o.op = Op.mapUpdate t m x v) (k e : TypeId) (ht : P.underlying t = some (.map k e)) (K : Value → Prop) (hK : KeyT P k w K) (b : Nat) (L : List (Value × Value)) (hm : a.eval m = .map (some b)) (h : MapIs w b L) (key val : Value) (hx : a.eval x = key) (hv : a.eval v = val) (hkey : K key) (hL : ∀ x ∈ L, K x.1)
    (hQ : ∀ w' L2, MapIs w' b L2 → Put L key val L2 → w.grownBy w' (some b) → wpList P ops Q rest (a.put o.dst undef) w') : wpList P ops Q (o :: rest) a w := by
  refine wpList_plain hg fun K' hK' => ?_
  obtain ⟨w', L2, hrun, r1, r2, r3⟩ := h.update (val := val) hK ht hkey hL
  unfold Oper.wp
  simp [execOp, hop, hm, hx, hv, hrun, Result.andThen]
  exact hK' _ _ (hQ w' L2 r1 r2 r3)
theorem asc_put_in (hg : o.guard = none) (m x v : Operand) (t : TypeId) (hop : o.op = Op.mapUpdate t m x v) (k e : TypeId) (ht : P.underlying t = some (.map k e)) (K : Value → Prop) (hK : KeyT P k w K) (b : Nat) (L : List (Value × Value)) (hm : a.eval m = .map (some b)) (h : MapIs w b L) (key val : Value) (hx : a.eval x = key) (hv : a.eval v = val) (hkey : K key) (hL : ∀ x ∈ L, K x.1)
    (hQ : ∀ w' L2, MapIs w' b L2 → Put L key val L2 → w.grownBy w' (some b) → wpListIn F nF P ops Q rest (a.put o.dst undef) w') : wpListIn F nF P ops Q (o :: rest) a w := by
  refine wpListIn_plain hg fun K' hK' => ?_
  obtain ⟨w', L2, hrun, r1, r2, r3⟩ := h.update (val := val) hK ht hkey hL
  unfold Oper.wpIn
  refine ⟨by simp [Oper.about, hop], ?_⟩
  rw [Oper.semAt_plain F _ _ (by rw [hop]; intro c hc'; cases hc')]
  simp [execOp, hop, hm, hx, hv, hrun, Result.andThen]
  exact hK' _ _ (hQ w' L2 r1 r2 r3)
theorem asc_len_run (h : MapIs w b L) (ht : P.underlying t = some (.map k e)) (ty : TypeId) : (Builtin.len_ #[t] ty #[.map (some b)]).run P w = .ok (.int .i64 (L.length : Int)) w := by
  obtain ⟨es, clock, hb, rfl, -⟩ := h
  simp [Builtin.len_, run_underlying ht, MapKept.run_getObj_map hb, goInt, Result.andThen]
end
end Go.Proofs.Ytegigjnlecpplaa
