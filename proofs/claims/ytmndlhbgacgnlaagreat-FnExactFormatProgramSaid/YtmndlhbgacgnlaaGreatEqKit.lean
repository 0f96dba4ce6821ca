/- The contract of the model's EqualExpr. No condition but that both expressions lie in memory. Maps that the program makes for itself, as lists of entries: looked up, written, their size. The keys may be strings, structs of strings, or hold pointers to memory that can be told apart. No condition. Pairs of pointers, and pointers with a number, as keys of maps: told apart where the memory that they lead to is plain. No condition. For the program's own EqualExpr: pairs of places that are still to be compared, and what is known of the pairs that are remembered. No condition. -/
import Derived.Test.YtmndlhbgacgnlaaGreatSpecSizes
import Derived.Test.YtmndlhbgacgnlaaGreatSpecNames
import Derived.Test.YtmndlhbgacgnlaaGreatExSz
import Derived.Deep.QuietTactic
import Derived.BigQuiet
import Derived.Deep.RegionHeld3
import Derived.Test.YtmndlhbgacgnlaaGreatRows
import Derived.WalkKit
import Derived.Lib.Hide
import Derived.Maps.OwnSet
import Derived.Maps.OwnIn
import Derived.Test.YtmndlhbgacgnlaaGreatExCopy
import Derived.LaidEql
import Derived.Test.YtmndlhbgacgnlaaGreatNodesKit
namespace Go.Proofs.YtmndlhbgacgnlaaGreat
open Go Go.RowKit

mutual
def exEq : Ex → Ex → Bool
  | .mk k s l, .mk k' s' l' => decide (k = k') && (decide (s = s') && exEqs l l')
def exEqs : List Ex → List Ex → Bool
  | [], [] => true
  | e :: r, e' :: r' => exEq e e' && exEqs r r'
  | _, _ => false
end
theorem eqs_len : ∀ (l l' : List Ex), exEqs l l' = true → l.length = l'.length := by
  intro l
  induction l with
  | nil => intro l' h; cases l' with
    | nil => rfl
    | cons e r => simp [exEqs] at h
  | cons e r ih => intro l' h; cases l' with
    | nil => simp [exEqs] at h
    | cons e' r' =>
      rw [exEqs, Bool.and_eq_true] at h
      rw [List.length_cons, List.length_cons, ih r' h.2]
theorem eqs_at : ∀ (l l' : List Ex) (k : Nat) (e e' : Ex), l[k]? = some e → l'[k]? = some e' → exEq e e' = false → exEqs l l' = false := by
  intro l
  induction l with
  | nil => intro l' k e e' h _ _; simp at h
  | cons x r ih => intro l' k e e' h h' he; cases l' with
    | nil => simp at h'
    | cons x' r' =>
      rw [exEqs]
      cases k with
      | zero =>
        simp at h h'
        subst h; subst h'
        rw [he, Bool.false_and]
      | succ k => rw [ih r' k e e' (by simpa using h) (by simpa using h') he, Bool.and_false]
theorem eqs_drop (l l' : List Ex) (k : Nat) (e e' : Ex) (h : l[k]? = some e) (h' : l'[k]? = some e') (he : exEq e e' = true) : exEqs (l.drop k) (l'.drop k) = exEqs (l.drop (k + 1)) (l'.drop (k + 1)) := by
  have hk : k < l.length := (List.getElem?_eq_some_iff.1 h).1
  have hk' : k < l'.length := (List.getElem?_eq_some_iff.1 h').1
  rw [List.drop_eq_getElem_cons hk, List.drop_eq_getElem_cons hk', (List.getElem?_eq_some_iff.1 h).2, (List.getElem?_eq_some_iff.1 h').2, exEqs, he, Bool.true_and]
theorem exEq_parts (a b : Ex) : exEq a b = (decide (a.kind = b.kind) && (decide (a.name = b.name) && exEqs a.args b.args)) := by cases a; cases b; rfl

/-- Eight cells that stay. -/
theorem keep8_start {wr : World} {a b c d e f g h : Addr} {x1 x2 x3 x4 x5 x6 x7 x8 : Value} (H : wr.cell? a = some x1 ∧ wr.cell? b = some x2 ∧ wr.cell? c = some x3 ∧ wr.cell? d = some x4 ∧ wr.cell? e = some x5 ∧ wr.cell? f = some x6 ∧ wr.cell? g = some x7 ∧ wr.cell? h = some x8) :
    wr.drew.cell? a = some x1 ∧ wr.drew.cell? b = some x2 ∧ wr.drew.cell? c = some x3 ∧ wr.drew.cell? d = some x4 ∧ wr.drew.cell? e = some x5 ∧ wr.drew.cell? f = some x6 ∧ wr.drew.cell? g = some x7 ∧ wr.drew.cell? h = some x8 ∧ Hid (Below wr.heap.size wr wr.drew) :=
  ⟨H.1, H.2.1, H.2.2.1, H.2.2.2.1, H.2.2.2.2.1, H.2.2.2.2.2.1, H.2.2.2.2.2.2.1, H.2.2.2.2.2.2.2, Lib.hid (Below.refl _ _).drew⟩
theorem keep8_step {wr X w2 : World} {a b c d e f g h : Addr} {x1 x2 x3 x4 x5 x6 x7 x8 : Value} (H : Hid (wr.cell? a = some x1 ∧ wr.cell? b = some x2 ∧ wr.cell? c = some x3 ∧ wr.cell? d = some x4 ∧ wr.cell? e = some x5 ∧ wr.cell? f = some x6 ∧ wr.cell? g = some x7 ∧ wr.cell? h = some x8)) (hb : Below X.heap.size X w2)
    (hX : X.cell? a = some x1 ∧ X.cell? b = some x2 ∧ X.cell? c = some x3 ∧ X.cell? d = some x4 ∧ X.cell? e = some x5 ∧ X.cell? f = some x6 ∧ X.cell? g = some x7 ∧ X.cell? h = some x8 ∧ Hid (Below wr.heap.size wr X)) :
    w2.cell? a = some x1 ∧ w2.cell? b = some x2 ∧ w2.cell? c = some x3 ∧ w2.cell? d = some x4 ∧ w2.cell? e = some x5 ∧ w2.cell? f = some x6 ∧ w2.cell? g = some x7 ∧ w2.cell? h = some x8 ∧ Hid (Below wr.heap.size wr w2) := by
  have HB := hX.2.2.2.2.2.2.2.2
  have hw := HB.out.trans (hb.mono HB.out.size)
  have k : ∀ {p : Addr} {x : Value}, wr.cell? p = some x → w2.cell? p = some x := fun {p x} hp => (hw.cell (p := p) (World.block_lt_of_cell? wr _ hp)).trans hp
  obtain ⟨h1, h2, h3, h4, h5, h6, h7, h8⟩ := H.out
  exact ⟨k h1, k h2, k h3, k h4, k h5, k h6, k h7, k h8, Lib.hid hw⟩

end Go.Proofs.YtmndlhbgacgnlaaGreat

namespace Go.Proofs.YtmndlhbgacgnlaaGreat
open Go Go.RowKit Go.ChangeMaps Go.WideMaps

/-- What the values of K are good for as keys of type k in w. -/
structure KeyT (P : Program) (k : TypeId) (w : World) (K : Value → Prop) : Prop where
  check : ∀ (em : Bool) (v : Value), K v → (Instr.checkKey em 10000 k v).run P w = .ok () w
  find : ∀ (x : Value) (es : List MapEntry), K x → (∀ e ∈ es, K e.key) → ((Instr.findKey k x es).run P w = .ok none w ∧ ∀ e ∈ es, e.key ≠ x) ∨ ∃ j e, (Instr.findKey k x es).run P w = .ok (some (j, e.val)) w ∧ es[j]? = some e ∧ e.key = x
  stays : ∀ v : Value, K v → (Instr.keyThatStays v v).run P w = .ok v w
theorem KeyT.of_keyed {P : Program} {k : TypeId} (h : Maps.Keyed P k) (w : World) : KeyT P k w (fun v => ∃ l, keyOf P k v = some l) :=
  ⟨fun em _ ⟨_, hv⟩ => h.check w em hv, fun _ es ⟨_, hx⟩ he => h.find w hx es he, fun _ ⟨_, hv⟩ => h.stays w hv⟩

/-- Keys that are compared one by one. -/
theorem find_asking {P : Program} {k : TypeId} {w : World} {K : Value → Prop} (heq : ∀ x y : Value, K x → K y → ∃ r : Bool, (Op.equal k x y).run P w = .ok r w ∧ (r = true ↔ x = y)) {x : Value} (hx : K x) :
    ∀ (es : List MapEntry) (i : Nat), (∀ e ∈ es, K e.key) → ((Instr.findAsking k x es i).run P w = .ok none w ∧ ∀ e ∈ es, e.key ≠ x) ∨ ∃ j e, (Instr.findAsking k x es i).run P w = .ok (some (i + j, e.val)) w ∧ es[j]? = some e ∧ e.key = x := by
  intro es
  induction es with
  | nil => intro i _; exact Or.inl ⟨by simp [Instr.findAsking], fun e h => by cases h⟩
  | cons e r ih =>
    intro i hall
    obtain ⟨b, hr, hiff⟩ := heq x e.key hx (hall e (by simp))
    cases b with
    | true => exact Or.inr ⟨0, e, by simp [Instr.findAsking, hr], rfl, (hiff.1 rfl).symm⟩
    | false =>
      have hne : e.key ≠ x := fun h => by have := hiff.2 h.symm; cases this
      rcases ih (i + 1) (fun y hy => hall y (by simp [hy])) with ⟨h1, h2⟩ | ⟨j, e', h1, h2, h3⟩
      · refine Or.inl ⟨by simp [Instr.findAsking, hr, h1], fun y hy => ?_⟩
        rcases List.mem_cons.1 hy with rfl | hy
        · exact hne
        · exact h2 y hy
      · exact Or.inr ⟨j + 1, e', by simp [Instr.findAsking, hr, h1]; omega, by simpa using h2, h3⟩

/-- Block b of w is a map with the entries L, each key once. -/
def MapIs (w : World) (b : Nat) (L : List (Value × Value)) : Prop :=
  ∃ es clock, w.heap[b]? = some (.map es clock) ∧ es.toList.map (fun e => (e.key, e.val)) = L ∧ (L.map Prod.fst).Nodup
theorem MapIs.lt {w : World} {b : Nat} {L : List (Value × Value)} (h : MapIs w b L) : b < w.heap.size := by
  obtain ⟨es, clock, hb, -⟩ := h
  exact (Array.getElem?_eq_some_iff.1 hb).1
theorem MapIs.on {w w2 : World} {b : Nat} {L : List (Value × Value)} (h : MapIs w b L) (hk : w2.heap[b]? = w.heap[b]?) : MapIs w2 b L := by
  obtain ⟨es, clock, hb, r⟩ := h
  exact ⟨es, clock, hk.trans hb, r⟩
theorem MapIs.made (w : World) : MapIs (w.alloc (.map #[] 0)) w.heap.size [] := ⟨#[], 0, (MapKept.heap_alloc w _).1, rfl, List.nodup_nil⟩
/-- What stands at a key. -/
def Hits (L : List (Value × Value)) (key : Value) (z v : Value) (b : Bool) : Prop := ((key, v) ∈ L ∧ b = true) ∨ ((∀ x ∈ L, x.1 ≠ key) ∧ v = z ∧ b = false)
/-- What a store leaves. -/
def Put (L : List (Value × Value)) (key val : Value) (L2 : List (Value × Value)) : Prop := ((∀ x ∈ L, x.1 ≠ key) ∧ L2 = L ++ [(key, val)]) ∨ ∃ A v0 B, L = A ++ (key, v0) :: B ∧ L2 = A ++ (key, val) :: B
theorem nodup_one : ∀ (L : List (Value × Value)), (L.map Prod.fst).Nodup → ∀ x ∈ L, ∀ y ∈ L, x.1 = y.1 → x = y := by
  intro L
  induction L with
  | nil => intro _ x hx; cases hx
  | cons p r ih =>
    intro hn x hx y hy e
    rw [List.map_cons, List.nodup_cons] at hn
    rcases List.mem_cons.1 hx with e1 | h1 <;> rcases List.mem_cons.1 hy with e2 | h2
    · rw [e1, e2]
    · exact (hn.1 (List.mem_map.2 ⟨y, h2, by rw [← e, e1]⟩)).elim
    · exact (hn.1 (List.mem_map.2 ⟨x, h1, by rw [e, e2]⟩)).elim
    · exact ih hn.2 x h1 y h2 e
theorem Hits.uniq {L : List (Value × Value)} (hn : (L.map Prod.fst).Nodup) {key z v v2 : Value} {b b2 : Bool} (h : Hits L key z v b) (h2 : Hits L key z v2 b2) : v = v2 ∧ b = b2 := by
  rcases h with ⟨h1, rfl⟩ | ⟨h1, rfl, rfl⟩ <;> rcases h2 with ⟨h3, rfl⟩ | ⟨h3, rfl, rfl⟩
  · exact ⟨(Prod.mk.inj (nodup_one L hn _ h1 _ h3 rfl)).2, rfl⟩
  · exact absurd rfl (h3 _ h1)
  · exact absurd rfl (h1 _ h3)
  · exact ⟨rfl, rfl⟩

section
variable {P : Program} {w : World} {k e t : TypeId} {K : Value → Prop} {b : Nat} {L : List (Value × Value)}

theorem MapIs.look (h : MapIs w b L) (hK : KeyT P k w K) (ht : P.underlying t = some (.map k e)) {z : Value} (hz : (zeroValue e).run P w = .ok z w) {key : Value} (hkey : K key) (hL : ∀ x ∈ L, K x.1) :
    ∃ v has, (∀ ok : Bool, (Instr.lookup t (.map (some b)) key ok).run P w = .ok (if ok then .tuple #[v, .bool has] else v) w) ∧ Hits L key z v has := by
  obtain ⟨es, clock, hb, rfl, hn⟩ := h
  have hes : ∀ e ∈ es.toList, K e.key := fun e he => hL _ (List.mem_map_of_mem he)
  rcases hK.find key es.toList hkey hes with ⟨h1, h2⟩ | ⟨j, e0, h1, h2, h3⟩
  · refine ⟨z, false, fun ok => ?_, Or.inr ⟨fun x hx => ?_, rfl, rfl⟩⟩
    · simp [Instr.lookup, run_underlying ht, MapKept.run_getObj_map hb, hK.check _ key hkey, h1, hz, Result.andThen]
    · obtain ⟨e1, he1, rfl⟩ := List.mem_map.1 hx
      exact h2 e1 he1
  · refine ⟨e0.val, true, fun ok => ?_, Or.inl ⟨?_, rfl⟩⟩
    · simp [Instr.lookup, run_underlying ht, MapKept.run_getObj_map hb, hK.check _ key hkey, h1, Result.andThen]
    · rw [← h3]
      exact List.mem_map.2 ⟨e0, List.mem_of_getElem? h2, rfl⟩

theorem nodup_split {A B : List (Value × Value)} {key v0 v1 : Value} (h : ((A ++ (key, v0) :: B).map Prod.fst).Nodup) : ((A ++ (key, v1) :: B).map Prod.fst).Nodup := by
  simpa using h

theorem MapIs.update (h : MapIs w b L) (hK : KeyT P k w K) (ht : P.underlying t = some (.map k e)) {key val : Value} (hkey : K key) (hL : ∀ x ∈ L, K x.1) :
    ∃ w' L2, (Instr.mapUpdate t (.map (some b)) key val).run P w = .ok () w' ∧ MapIs w' b L2 ∧ Put L key val L2 ∧ w.grownBy w' (some b) := by
  obtain ⟨es, clock, hb, rfl, hn⟩ := h
  have hes : ∀ e ∈ es.toList, K e.key := fun e he => hL _ (List.mem_map_of_mem he)
  have grown : ∀ o : Obj, w.grownBy (setBlock w b o) (some b) := fun o => ⟨rfl, rfl, rfl, by simp [setBlock], fun i _ hi => heap_setBlock_other hb _ (fun e => hi (by rw [e]))⟩
  rcases hK.find key es.toList hkey hes with ⟨h1, h2⟩ | ⟨j, e0, h1, h2, h3⟩
  · have hne : ∀ x ∈ es.toList.map (fun e => (e.key, e.val)), x.1 ≠ key := fun x hx => by
      obtain ⟨e1, he1, rfl⟩ := List.mem_map.1 hx
      exact h2 e1 he1
    refine ⟨setBlock w b (.map (es.push ⟨key, val, clock⟩) (clock + 1)), es.toList.map (fun e => (e.key, e.val)) ++ [(key, val)], ?_, ⟨_, _, heap_setBlock_same hb _, by simp, ?_⟩, Or.inl ⟨hne, rfl⟩, grown _⟩
    · simp [Instr.mapUpdate, run_underlying ht, MapKept.run_getObj_map hb, hK.check false key hkey, h1, MapKept.run_setObj_map _ hb, Result.andThen, setBlock]
    · rw [List.map_append, List.nodup_append]
      refine ⟨hn, by simp, fun a ha b hb e => ?_⟩
      simp only [List.map_cons, List.map_nil, List.mem_singleton] at hb
      obtain ⟨x, hx, rfl⟩ := List.mem_map.1 ha
      exact hne x hx (e.trans hb)
  · have hj : es[j]? = some e0 := by simpa using h2
    have hlist : (es.modify j (fun e' => { e' with key := key, val := val })).toList = es.toList.set j { e0 with key := key, val := val } := by rw [Array.toList_modify, modify_eq_set _ _ _ _ h2]
    obtain ⟨A, B, hAB, hA⟩ : ∃ A B, es.toList = A ++ e0 :: B ∧ A.length = j := by
      have hl := (List.getElem?_eq_some_iff.1 h2).1
      refine ⟨es.toList.take j, es.toList.drop (j + 1), ?_, by rw [List.length_take]; omega⟩
      rw [← (List.getElem?_eq_some_iff.1 h2).2, ← List.drop_eq_getElem_cons hl, List.take_append_drop]
    have hset : es.toList.set j { e0 with key := key, val := val } = A ++ { e0 with key := key, val := val } :: B := by
      rw [hAB, List.set_append_right _ _ (by omega), hA, Nat.sub_self, List.set_cons_zero]
    refine ⟨setBlock w b (.map (es.modify j (fun e' => { e' with key := key, val := val })) clock), A.map (fun e => (e.key, e.val)) ++ (key, val) :: B.map (fun e => (e.key, e.val)), ?_, ⟨_, _, heap_setBlock_same hb _, by rw [hlist, hset]; simp, ?_⟩, Or.inr ⟨A.map (fun e => (e.key, e.val)), e0.val, B.map (fun e => (e.key, e.val)), by rw [hAB]; simp [h3], rfl⟩, grown _⟩
    · simp [Instr.mapUpdate, run_underlying ht, MapKept.run_getObj_map hb, hK.check false key hkey, h1, hj, h3, hK.stays key hkey, MapKept.run_setObj_map _ hb, Result.andThen, setBlock]
    · rw [hAB] at hn
      refine nodup_split (v0 := e0.val) ?_
      simpa [h3] using hn
end
theorem Put.nodup_keys {L L2 : List (Value × Value)} {key val : Value} (h : Put L key val L2) {K : Value → Prop} (hL : ∀ x ∈ L, K x.1) (hk : K key) : ∀ x ∈ L2, K x.1 := by
  rcases h with ⟨-, rfl⟩ | ⟨A, v0, B, rfl, rfl⟩
  · intro x hx
    rcases List.mem_append.1 hx with hx | hx
    · exact hL x hx
    · rw [List.mem_singleton] at hx; subst hx; exact hk
  · intro x hx
    rcases List.mem_append.1 hx with hx | hx
    · exact hL x (by simp [hx])
    · rcases List.mem_cons.1 hx with rfl | hx
      · exact hk
      · exact hL x (by simp [hx])

section
variable {P : Program} {k e t : TypeId} {K : Value → Prop} {b : Nat} {L : List (Value × Value)} (w : World) {ops : Array Oper} {rest : List Oper} {o : Oper} {a : Act} {Q : Exit → Act → World → Prop} {F : Fence} {nF : Nat}
/-- 'm[k] = v' at the operation. -/
theorem asc_put (hg : o.guard = none) (m x v : Operand) (t : TypeId) (hop : o.op = Op.mapUpdate t m x v) (k e : TypeId) (ht : P.underlying t = some (.map k e)) (K : Value → Prop) (hK : KeyT P k w K) (b : Nat) (L : List (Value × Value)) (hm : a.eval m = .map (some b)) (h : MapIs w b L) (key val : Value) (hx : a.eval x = key) (hv : a.eval v = val) (hkey : K key) (hL : ∀ x ∈ L, K x.1)
    (hQ : ∀ w' L2, MapIs w' b L2 → Put L key val L2 → w.grownBy w' (some b) → wpList P ops Q rest (a.put o.dst undef) w') : wpList P ops Q (o :: rest) a w := by
  refine wpList_plain hg fun K' hK' => ?_
  obtain ⟨w', L2, hrun, r1, r2, r3⟩ := h.update (val := val) hK ht hkey hL
  unfold Oper.wp
  simp [execOp, hop, hm, hx, hv, hrun, Result.andThen]
  exact hK' _ _ (hQ w' L2 r1 r2 r3)
theorem asc_put_in (hg : o.guard = none) (m x v : Operand) (t : TypeId) (hop : o.op = Op.mapUpdate t m x v) (k e : TypeId) (ht : P.underlying t = some (.map k e)) (K : Value → Prop) (hK : KeyT P k w K) (b : Nat) (L : List (Value × Value)) (hm : a.eval m = .map (some b)) (h : MapIs w b L) (key val : Value) (hx : a.eval x = key) (hv : a.eval v = val) (hkey : K key) (hL : ∀ x ∈ L, K x.1)
    (hQ : ∀ w' L2, MapIs w' b L2 → Put L key val L2 → w.grownBy w' (some b) → wpListIn F nF P ops Q rest (a.put o.dst undef) w') : wpListIn F nF P ops Q (o :: rest) a w := by
  refine wpListIn_plain hg fun K' hK' => ?_
  obtain ⟨w', L2, hrun, r1, r2, r3⟩ := h.update (val := val) hK ht hkey hL
  unfold Oper.wpIn
  refine ⟨by simp [Oper.about, hop], ?_⟩
  rw [Oper.semAt_plain F _ _ (by rw [hop]; intro c hc'; cases hc')]
  simp [execOp, hop, hm, hx, hv, hrun, Result.andThen]
  exact hK' _ _ (hQ w' L2 r1 r2 r3)
theorem asc_len_run (h : MapIs w b L) (ht : P.underlying t = some (.map k e)) (ty : TypeId) : (Builtin.len_ #[t] ty #[.map (some b)]).run P w = .ok (.int .i64 (L.length : Int)) w := by
  obtain ⟨es, clock, hb, rfl, -⟩ := h
  simp [Builtin.len_, run_underlying ht, MapKept.run_getObj_map hb, goInt, Result.andThen]
end
end Go.Proofs.YtmndlhbgacgnlaaGreat

namespace Go.Proofs.YtmndlhbgacgnlaaGreat
open Go Go.RowKit

/-- A block of cells none of which a string shares. -/
def FreeB (w : World) (b : Nat) : Prop := (∃ c t f, w.heap[b]? = some (.cells c t f)) ∧ ∀ o, w.frozen? ⟨b, o, none⟩ = false
theorem FreeB.lt {w : World} {b : Nat} (h : FreeB w b) : b < w.heap.size := by
  obtain ⟨⟨c, t, f, h⟩, -⟩ := h
  exact (Array.getElem?_eq_some_iff.1 h).1
theorem FreeB.on {w w2 : World} {b : Nat} (h : FreeB w b) (hk : w2.heap[b]? = w.heap[b]?) : FreeB w2 b := by
  obtain ⟨⟨c, t, f, h1⟩, h2⟩ := h
  exact ⟨⟨c, t, f, hk.trans h1⟩, fun o => (World.frozen?_of_block (w := w) (a := ⟨b, o, none⟩) hk).trans (h2 o)⟩
theorem FreeB.of_box {w : World} {b : Nat} {cs : Array Value} {t : TypeId} (h : w.heap[b]? = some (.cells cs t (0, 0))) : FreeB w b :=
  ⟨⟨_, _, _, h⟩, fun o => by simp [World.frozen?, h]⟩
theorem FreeB.of_cell {w : World} {b o : Nat} {v : Value} (h : w.cell? ⟨b, o, none⟩ = some v) (hf : ∀ o, w.frozen? ⟨b, o, none⟩ = false) : FreeB w b := by
  refine ⟨?_, hf⟩
  unfold World.cell? at h
  split at h
  · exact ⟨_, _, _, ‹_›⟩
  · cases h
theorem frozen_off {w : World} {b : Nat} (h : ∀ o, w.frozen? ⟨b, o, none⟩ = false) (a : Addr) (ha : a.block = b) : w.frozen? a = false := by
  have := h a.off
  unfold World.frozen? at this ⊢
  rw [ha]; exact this
theorem same_free {P : Program} {w : World} {a b : Addr} (ha : FreeB w a.block) (hb : FreeB w b.block) : (sameAddr a b).run P w = .ok (decide (a = b)) w := by
  by_cases hbl : a.block = b.block
  · have : (a == b) = decide (a = b) := by by_cases h : a = b <;> simp [h]
    simp [sameAddr, hbl, this]
  · obtain ⟨⟨ca, ta, fa, hca⟩, hfa⟩ := ha
    obtain ⟨⟨cb, tb, fb, hcb⟩, hfb⟩ := hb
    have hne : a ≠ b := fun e => hbl (by rw [e])
    have h1 : ∀ o p, w.frozen? ⟨a.block, o, p⟩ = false := fun o p => frozen_off hfa _ rfl
    have h2 : ∀ o p, w.frozen? ⟨b.block, o, p⟩ = false := fun o p => frozen_off hfb _ rfl
    simp [sameAddr, hbl, h1, h2, hca, hcb, noView, viewAt, World.shape?, mayBeOne, stringish, hne]
theorem eq_ptr {P : Program} {w : World} {tp te : TypeId} {j : TypeInfo} {a b : Addr} (hp : P.underlying tp = some (.pointer te)) (hte : P.info? te = some j) (hsz : j.size ≠ 0) (ha : FreeB w a.block) (hb : FreeB w b.block) (d : Nat) :
    (Op.equalIn (d + 1) tp (.pointer (some a)) (.pointer (some b))).run P w = .ok (decide (a = b)) w := by
  simp [Op.equalIn, run_underlying hp, sizeOf, typeInfo, hte, hsz, same_free ha hb]
theorem check_ptr {P : Program} {w : World} {tp te : TypeId} {v : Value} (hp : P.underlying tp = some (.pointer te)) (em : Bool) (d : Nat) : (Instr.checkKey em (d + 1) tp v).run P w = .ok () w := by
  simp [Instr.checkKey, run_underlying hp]

/-- A pair of pointers to plain memory. -/
def PairK (w : World) (v : Value) : Prop := ∃ a b : Addr, v = .agg #[.pointer (some a), .pointer (some b)] ∧ FreeB w a.block ∧ FreeB w b.block
end Go.Proofs.YtmndlhbgacgnlaaGreat

namespace Go.Proofs.YtmndlhbgacgnlaaGreat
open Go Go.RowKit

/-- One place is one expression. -/
theorem at_det (n : Nat) : (∀ (e e' : Ex), exSize e ≤ n → ∀ (w : World) (g o : Nat) (bs bs' : List Nat), ExAt w g o e bs → ExAt w g o e' bs' → e = e') ∧
    (∀ (l l' : List Ex), exSizes l ≤ n → ∀ (w : World) (g o j : Nat) (bs bs' : List Nat), ExsAt w g o j l bs → ExsAt w g o j l' bs' → l.length = l'.length → l = l') := by
  induction n with
  | zero =>
    refine ⟨fun e _ h => by have := exSize_pos e; omega, fun l l' h => ?_⟩
    cases l with
    | nil => intro w g o j bs bs' _ _ hl; exact (List.eq_nil_of_length_eq_zero (by simpa using hl.symm)).symm
    | cons e r => rw [exSizes] at h; have := exSize_pos e; omega
  | succ n ih =>
    have hE : ∀ (e e' : Ex), exSize e ≤ n + 1 → ∀ (w : World) (g o : Nat) (bs bs' : List Nat), ExAt w g o e bs → ExAt w g o e' bs' → e = e' := by
      intro e e' he w g o bs bs' h h'
      cases e with
      | mk k s l =>
        cases e' with
        | mk k' s' l' =>
          rw [exSize] at he
          rw [ExAt] at h h'
          obtain ⟨h1, h2, -, A, c, h4, -, -, h7⟩ := h
          obtain ⟨h1', h2', -, A', c', h4', -, -, h7'⟩ := h'
          rw [h1] at h1'
          rw [h2] at h2'
          rw [h4] at h4'
          simp only [Option.some.injEq, Value.int.injEq, Value.string.injEq, Value.slice.injEq, true_and] at h1' h2' h4'
          obtain ⟨hA, hl, -⟩ := h4'
          subst h1' h2' hA
          have : l = l' := by
            rcases h7 with ⟨rfl, -⟩ | ⟨g1, o1, b1, e1, -, -, h8⟩
            · exact (List.eq_nil_of_length_eq_zero (by simpa using hl.symm)).symm
            · rcases h7' with ⟨rfl, -⟩ | ⟨g2, o2, b2, e2, -, -, h8'⟩
              · exact List.eq_nil_of_length_eq_zero (by simpa using hl)
              · rw [e1] at e2
                cases e2
                exact ih.2 l l' (by omega) w g1 o1 0 b1 b2 h8 h8' hl
          rw [this]
    refine ⟨hE, ?_⟩
    intro l
    induction l with
    | nil => intro l' _ w g o j bs bs' _ _ hl; exact (List.eq_nil_of_length_eq_zero (by simpa using hl.symm)).symm
    | cons e r ihl =>
      intro l' hs w g o j bs bs' h h' hl
      cases l' with
      | nil => simp at hl
      | cons e' r' =>
        rw [exSizes] at hs
        have hp := exSize_pos e
        rw [ExsAt] at h h'
        obtain ⟨b1, b2, -, h1, h2⟩ := h
        obtain ⟨b1', b2', -, h1', h2'⟩ := h'
        rw [hE e e' (by omega) w g _ b1 b1' h1 h1', ihl r' (by omega) w g o (j + 1) b2 b2' h2 h2' (by simpa using hl)]

/-- A place that holds an expression; its blocks are among G. -/
abbrev At (wo : World) (G : List Nat) : Type := { x : Nat × Nat × Ex × List Nat // ExAt wo x.1 x.2.1 x.2.2.1 x.2.2.2 ∧ x.1 ∈ G ∧ ∀ z ∈ x.2.2.2, z ∈ G }
section
variable {wo : World} {G : List Nat}
def At.ex (x : At wo G) : Ex := x.1.2.2.1
def At.adr (x : At wo G) : Addr := ⟨x.1.1, x.1.2.1, none⟩
theorem At.det {x y : At wo G} (h : x.adr = y.adr) : x.ex = y.ex := by
  have h1 : x.1.1 = y.1.1 := congrArg Addr.block h
  have h2 : x.1.2.1 = y.1.2.1 := congrArg Addr.off h
  have hy := y.2.1
  rw [← h1, ← h2] at hy
  exact (at_det _).1 _ _ (Nat.le_refl _) wo _ _ _ _ x.2.1 hy
theorem kids_places {g o : Nat} (hg : g ∈ G) : ∀ (l : List Ex) (j : Nat) (bs : List Nat), ExsAt wo g o j l bs → (∀ z ∈ bs, z ∈ G) → ∃ ks : List (At wo G), ks.map At.ex = l ∧ ∀ (i : Nat) (k : At wo G), ks[i]? = some k → k.adr = ⟨g, o + (j + i) * 3, none⟩ := by
  intro l
  induction l with
  | nil => intro j bs _ _; exact ⟨[], rfl, fun i k h => by simp at h⟩
  | cons e r ih =>
    intro j bs h hb
    rw [ExsAt] at h
    obtain ⟨b1, b2, rfl, h1, h2⟩ := h
    obtain ⟨ks, e1, e2⟩ := ih (j + 1) b2 h2 (fun z hz => hb z (by simp [hz]))
    refine ⟨⟨(g, o + j * 3, e, b1), h1, hg, fun z hz => hb z (by simp [hz])⟩ :: ks, by rw [List.map_cons, e1]; rfl, fun i k hi => ?_⟩
    cases i with
    | zero =>
      simp at hi
      rw [← hi]
      rfl
    | succ i =>
      rw [e2 i k (by simpa using hi)]
      congr 2
      omega
/-- What lies at a place. -/
theorem At.parts (x : At wo G) : ∃ A c, wo.cell? x.adr = some (.int .i64 x.ex.kind) ∧ wo.cell? ⟨x.1.1, x.1.2.1 + 1, none⟩ = some (.string x.ex.name) ∧ wo.cell? ⟨x.1.1, x.1.2.1 + 2, none⟩ = some (.slice A x.ex.args.length c) ∧ x.ex.args.length ≤ c ∧ c ≤ 9223372036854775807 ∧
    ∃ ks : List (At wo G), ks.map At.ex = x.ex.args ∧ ∀ (i : Nat) (k : At wo G), ks[i]? = some k → ∃ g o, A = some ⟨g, o, none⟩ ∧ g < wo.heap.size ∧ k.adr = ⟨g, o + i * 3, none⟩ := by
  obtain ⟨u, c0, c1, c2, h⟩ := x.2.1.is
  obtain ⟨u', e1, -, A, c, e2, h1, h2, h3⟩ := h
  simp only [Value.agg.injEq, Array.mk.injEq, List.cons.injEq, and_true, true_and] at e1
  subst e1; subst e2
  refine ⟨A, c, c0, c1, c2, h1, h2, ?_⟩
  rcases h3 with ⟨h3, -⟩ | ⟨g, o, bs', rfl, hg, e3, h4⟩
  · refine ⟨[], ?_, fun i k h => by simp at h⟩
    show [] = x.1.2.2.1.args
    rw [h3]
  · obtain ⟨ks, k1, k2⟩ := kids_places (G := G) (x.2.2.2 g (by rw [e3]; simp)) _ 0 bs' h4 (fun z hz => x.2.2.2 z (by rw [e3]; simp [hz]))
    exact ⟨ks, k1, fun i k hi => ⟨g, o, rfl, hg, by rw [k2 i k hi, Nat.zero_add]⟩⟩

/-- A pair of places that is still to be compared. -/
abbrev Pr (wo : World) (G : List Nat) : Type := At wo G × At wo G
def pcells (p : Pr wo G) : List Value := [.pointer (some p.1.adr), .pointer (some p.2.adr)]
def pkey (p : Pr wo G) : Value := .agg #[.pointer (some p.1.adr), .pointer (some p.2.adr)]
def pflat (ps : List (Pr wo G)) : List Value := ps.flatMap pcells
def same (p : Pr wo G) : Bool := exEq p.1.ex p.2.ex
def allEq (ps : List (Pr wo G)) : Bool := ps.all same
def weigh : List (Pr wo G) → Nat
  | [] => 0
  | p :: r => exSize p.1.ex + weigh r
theorem pkey_det {p q : Pr wo G} (h : pkey p = pkey q) : p.1.ex = q.1.ex ∧ p.2.ex = q.2.ex := by
  simp only [pkey, Value.agg.injEq, Array.mk.injEq, List.cons.injEq, Value.pointer.injEq, Option.some.injEq, and_true] at h
  exact ⟨At.det h.1, At.det h.2⟩
theorem pflat_len (ps : List (Pr wo G)) : (pflat ps).length = ps.length * 2 := by
  induction ps with
  | nil => rfl
  | cons p r ih => rw [pflat, List.flatMap_cons, List.length_append, ← pflat, ih]; simp [pcells]; omega
theorem pflat_one (ps : List (Pr wo G)) (p : Pr wo G) : pflat (ps ++ [p]) = pflat ps ++ pcells p := by simp [pflat]
theorem all_one (ps : List (Pr wo G)) (p : Pr wo G) : allEq (ps ++ [p]) = (allEq ps && same p) := by simp [allEq]
theorem all_more (ps qs : List (Pr wo G)) : allEq (ps ++ qs) = (allEq ps && allEq qs) := by simp [allEq]
theorem weigh_app : ∀ (a b : List (Pr wo G)), weigh (a ++ b) = weigh a + weigh b := by
  intro a
  induction a with
  | nil => intro b; simp [weigh]
  | cons p r ih => intro b; rw [List.cons_append, weigh, weigh, ih]; omega
theorem weigh_len (ps : List (Pr wo G)) : ps.length ≤ weigh ps := by
  induction ps with
  | nil => simp [weigh]
  | cons p r ih => rw [weigh, List.length_cons]; have := exSize_pos p.1.ex; omega
theorem zip_eq : ∀ (xs ys : List (At wo G)), xs.length = ys.length → allEq (xs.zip ys) = exEqs (xs.map At.ex) (ys.map At.ex) := by
  intro xs
  induction xs with
  | nil => intro ys h; cases ys with
    | nil => rfl
    | cons y r => simp at h
  | cons x r ih => intro ys h; cases ys with
    | nil => simp at h
    | cons y s =>
      rw [List.zip_cons_cons, List.map_cons, List.map_cons, exEqs, ← ih s (by simpa using h)]
      simp [allEq, same]
theorem zip_weigh : ∀ (xs ys : List (At wo G)), xs.length = ys.length → weigh (xs.zip ys) = exSizes (xs.map At.ex) := by
  intro xs
  induction xs with
  | nil => intro ys _; rfl
  | cons x r ih => intro ys h; cases ys with
    | nil => simp at h
    | cons y s =>
      rw [List.zip_cons_cons, weigh, List.map_cons, exSizes, ih s (by simpa using h)]
theorem zip_less {x : At wo G} {xs ys : List (At wo G)} (hx : xs.map At.ex = x.ex.args) : ∀ z ∈ xs.zip ys, exSize z.1.ex < exSize x.ex := by
  intro z hz
  refine exSize_args (e := x.ex) ?_
  rw [← hx]
  exact List.mem_map_of_mem (List.of_mem_zip hz).1

/-- Of each pair that is remembered: behind some place of the list there are smaller ones alone, and if these are equal, it is. -/
def SeenOk (sn ps : List (Pr wo G)) : Prop := ∀ s ∈ sn, ∃ j, j ≤ ps.length ∧ (∀ p ∈ ps.drop j, exSize p.1.ex < exSize s.1.ex) ∧ (allEq (ps.drop j) = true → same s = true)
theorem seen_skip {sn ps : List (Pr wo G)} {p s : Pr wo G} (h : SeenOk sn (ps ++ [p])) (hs : s ∈ sn) (hk : pkey s = pkey p) : same p = true ∧ SeenOk sn ps := by
  obtain ⟨e1, e2⟩ := pkey_det hk
  have hp : same p = true := by
    obtain ⟨j, hj, h1, h2⟩ := h s hs
    by_cases hl : j ≤ ps.length
    · rw [List.drop_append_of_le_length hl] at h1
      have := h1 p (by simp)
      rw [e1] at this
      omega
    · rw [List.drop_eq_nil_of_le (by simp; omega)] at h2
      have := h2 rfl
      unfold same at this ⊢
      rw [← e1, ← e2]
      exact this
  refine ⟨hp, fun t ht => ?_⟩
  obtain ⟨j, hj, h1, h2⟩ := h t ht
  by_cases hl : j ≤ ps.length
  · rw [List.drop_append_of_le_length hl] at h1 h2
    exact ⟨j, hl, fun q hq => h1 q (by simp [hq]), fun ha => h2 (by rw [all_one, ha, hp]; rfl)⟩
  · rw [List.drop_eq_nil_of_le (by simp; omega)] at h2
    exact ⟨ps.length, Nat.le_refl _, fun q hq => by simp at hq, fun _ => h2 rfl⟩
theorem seen_push {sn ps zs : List (Pr wo G)} {p : Pr wo G} (h : SeenOk sn (ps ++ [p])) (heq : allEq zs = true → same p = true) (hz : ∀ z ∈ zs, exSize z.1.ex < exSize p.1.ex) : SeenOk (sn ++ [p]) (ps ++ zs) := by
  intro t ht
  rcases List.mem_append.1 ht with ht | ht
  · obtain ⟨j, hj, h1, h2⟩ := h t ht
    by_cases hl : j ≤ ps.length
    · rw [List.drop_append_of_le_length hl] at h1 h2
      refine ⟨j, by simp; omega, fun q hq => ?_, fun ha => ?_⟩
      · rw [List.drop_append_of_le_length hl] at hq
        rcases List.mem_append.1 hq with hq | hq
        · exact h1 q (by simp [hq])
        · exact Nat.lt_trans (hz q hq) (h1 p (by simp))
      · rw [List.drop_append_of_le_length hl, all_more, Bool.and_eq_true] at ha
        exact h2 (by rw [all_one, ha.1, heq ha.2]; rfl)
    · rw [List.drop_eq_nil_of_le (by simp; omega)] at h2
      exact ⟨(ps ++ zs).length, Nat.le_refl _, fun q hq => by simp at hq, fun _ => h2 rfl⟩
  · rw [List.mem_singleton] at ht
    subst ht
    exact ⟨ps.length, by simp, fun q hq => hz q (by simpa using hq), fun ha => heq (by simpa using ha)⟩
theorem SeenOk.less {sn sn2 ps : List (Pr wo G)} (h : SeenOk sn ps) (hs : ∀ s ∈ sn2, s ∈ sn) : SeenOk sn2 ps := fun s ht => h s (hs s ht)

end
end Go.Proofs.YtmndlhbgacgnlaaGreat
