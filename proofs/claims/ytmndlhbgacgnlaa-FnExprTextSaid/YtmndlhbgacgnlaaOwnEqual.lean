/- Maps that the program makes for itself, as lists of entries: looked up, written, their size. The keys may be strings, structs of strings, or hold pointers to memory that can be told apart. No condition. Pairs of pointers, and pointers with a number, as keys of maps: told apart where the memory that they lead to is plain. No condition. For the program's own EqualExpr: pairs of places that are still to be compared, and what is known of the pairs that are remembered. No condition. Maps that hold the first one of a list at each key; keys that are strings, or structs of two strings. No condition. For the program's own equalities: places that hold arguments, what it says that they are joined, and that joined places hold equal arguments once nothing is left to compare. No condition. Places, pointers with a number, as keys of maps and where they are compared. Condition: the memory that they lead to is plain. The contracts of the program's own equalHeads and placeOf. No condition. Maps that the program makes for itself, with stamps of their entries: stores by 'm[k] = v' and by an assignment of several. No condition. The contract of the program's own endOf: it leads from a place to one that is joined with it and leads nowhere. Conditions: the map's ways end; no string shares the memory of the places. The contract of the program's own join: it tells whether two places were known to hold the same, and joins them if not. Conditions: no string shares the memory of the first place, nor of any when more than 80 nodes were counted. 'left = append(left, [2]*Expr{&a[i], &b[i]})' where the variables lie in boxes and the statement draws its order, within a round too. Condition: fewer than 2^41 elements. The contract of the library's slices.Backward over a slice of expressions, told by the indices that it hands out. No condition. The contract of the program's own appendPairs. Condition: fewer than 2^41 pairs. The contract of the program's own include: whether two expressions are equal, and what is known behind it. Conditions: fewer than 2^40 nodes; no string shares the memory of the expressions. The contract of the program's own include. Conditions: fewer than 2^40 nodes; no string shares the memory of the expressions. The contract of the program's own EqualExpr. Conditions: fewer than 2^40 nodes; no string shares the memory of the arguments. -/
import Derived.Test.YtmndlhbgacgnlaaRows
import Derived.WalkKit
import Derived.Lib.Hide
import Derived.Maps.OwnSet
import Derived.Maps.OwnIn
import Derived.Test.YtmndlhbgacgnlaaExCopy
import Derived.LaidEql
import Derived.Test.YtmndlhbgacgnlaaNodesKit
import Derived.Test.YtmndlhbgacgnlaaSpecEqual
import Derived.Test.YtmndlhbgacgnlaaSpecSizes
import Derived.WideKeyEntry
import Derived.Test.YtmndlhbgacgnlaaFrame
import Derived.CallsIn
import Derived.OrdersIn
import Derived.Deep.LoopGhost
import Derived.Deep.QuietTactic
import Derived.BigQuiet
import Derived.Deep.RegionHeld3
import Derived.WalkSpells
import Derived.Deep.RegionLaw
import Derived.Test.YtmndlhbgacgnlaaPush
import Derived.Test.YtmndlhbgacgnlaaBack
import Derived.Test.YtmndlhbgacgnlaaLawSizes
namespace Go.Proofs.Ytmndlhbgacgnlaa
open Go Go.RowKit Go.ChangeMaps Go.WideMaps

/-- What the values of K are good for as keys of type k in w. -/
structure KeyT (P : Program) (k : TypeId) (w : World) (K : Value → Prop) : Prop where
  check : ∀ (em : Bool) (v : Value), K v → (Instr.checkKey em 10000 k v).run P w = .ok () w
  find : ∀ (x : Value) (es : List MapEntry), K x → (∀ e ∈ es, K e.key) → ((Instr.findKey k x es).run P w = .ok none w ∧ ∀ e ∈ es, e.key ≠ x) ∨ ∃ j e, (Instr.findKey k x es).run P w = .ok (some (j, e.val)) w ∧ es[j]? = some e ∧ e.key = x
  stays : ∀ v : Value, K v → (Instr.keyThatStays v v).run P w = .ok v w
theorem KeyT.of_keyed {P : Program} {k : TypeId} (h : Maps.Keyed P k) (w : World) : KeyT P k w (fun v => ∃ l, keyOf P k v = some l) :=
  ⟨fun em _ ⟨_, hv⟩ => h.check w em hv, fun _ es ⟨_, hx⟩ he => h.find w hx es he, fun _ ⟨_, hv⟩ => h.stays w hv⟩

/-- Keys that are compared one by one. -/
theorem find_asking {P : Program} {k : TypeId} {w : World} {K : Value → Prop} (heq : ∀ x y : Value, K x → K y → ∃ r : Bool, (Op.equal k x y).run P w = .ok r w ∧ (r = true ↔ x = y)) {x : Value} (hx : K x) :
    ∀ (es : List MapEntry) (i : Nat), (∀ e ∈ es, K e.key) → ((Instr.findAsking k x es i).run P w = .ok none w ∧ ∀ e ∈ es, e.key ≠ x) ∨ ∃ j e, (Instr.findAsking k x es i).run P w = .ok (some (i + j, e.val)) w ∧ es[j]? = some e ∧ e.key = x := by
  intro es
  induction es with
  | nil => intro i _; exact Or.inl ⟨by simp [Instr.findAsking], fun e h => by cases h⟩
  | cons e r ih =>
    intro i hall
    obtain ⟨b, hr, hiff⟩ := heq x e.key hx (hall e (by simp))
    cases b with
    | true => exact Or.inr ⟨0, e, by simp [Instr.findAsking, hr], rfl, (hiff.1 rfl).symm⟩
    | false =>
      have hne : e.key ≠ x := fun h => by have := hiff.2 h.symm; cases this
      rcases ih (i + 1) (fun y hy => hall y (by simp [hy])) with ⟨h1, h2⟩ | ⟨j, e', h1, h2, h3⟩
      · refine Or.inl ⟨by simp [Instr.findAsking, hr, h1], fun y hy => ?_⟩
        rcases List.mem_cons.1 hy with rfl | hy
        · exact hne
        · exact h2 y hy
      · exact Or.inr ⟨j + 1, e', by simp [Instr.findAsking, hr, h1]; omega, by simpa using h2, h3⟩

/-- Block b of w is a map with the entries L, each key once. -/
def MapIs (w : World) (b : Nat) (L : List (Value × Value)) : Prop :=
  ∃ es clock, w.heap[b]? = some (.map es clock) ∧ es.toList.map (fun e => (e.key, e.val)) = L ∧ (L.map Prod.fst).Nodup
theorem MapIs.lt {w : World} {b : Nat} {L : List (Value × Value)} (h : MapIs w b L) : b < w.heap.size := by
  obtain ⟨es, clock, hb, -⟩ := h
  exact (Array.getElem?_eq_some_iff.1 hb).1
theorem MapIs.on {w w2 : World} {b : Nat} {L : List (Value × Value)} (h : MapIs w b L) (hk : w2.heap[b]? = w.heap[b]?) : MapIs w2 b L := by
  obtain ⟨es, clock, hb, r⟩ := h
  exact ⟨es, clock, hk.trans hb, r⟩
theorem MapIs.made (w : World) : MapIs (w.alloc (.map #[] 0)) w.heap.size [] := ⟨#[], 0, (MapKept.heap_alloc w _).1, rfl, List.nodup_nil⟩
/-- What stands at a key. -/
def Hits (L : List (Value × Value)) (key : Value) (z v : Value) (b : Bool) : Prop := ((key, v) ∈ L ∧ b = true) ∨ ((∀ x ∈ L, x.1 ≠ key) ∧ v = z ∧ b = false)
/-- What a store leaves. -/
def Put (L : List (Value × Value)) (key val : Value) (L2 : List (Value × Value)) : Prop := ((∀ x ∈ L, x.1 ≠ key) ∧ L2 = L ++ [(key, val)]) ∨ ∃ A v0 B, L = A ++ (key, v0) :: B ∧ L2 = A ++ (key, val) :: B
theorem nodup_one : ∀ (L : List (Value × Value)), (L.map Prod.fst).Nodup → ∀ x ∈ L, ∀ y ∈ L, x.1 = y.1 → x = y := by
  intro L
  induction L with
  | nil => intro _ x hx; cases hx
  | cons p r ih =>
    intro hn x hx y hy e
    rw [List.map_cons, List.nodup_cons] at hn
    rcases List.mem_cons.1 hx with e1 | h1 <;> rcases List.mem_cons.1 hy with e2 | h2
    · rw [e1, e2]
    · exact (hn.1 (List.mem_map.2 ⟨y, h2, by rw [← e, e1]⟩)).elim
    · exact (hn.1 (List.mem_map.2 ⟨x, h1, by rw [e, e2]⟩)).elim
    · exact ih hn.2 x h1 y h2 e
theorem Hits.uniq {L : List (Value × Value)} (hn : (L.map Prod.fst).Nodup) {key z v v2 : Value} {b b2 : Bool} (h : Hits L key z v b) (h2 : Hits L key z v2 b2) : v = v2 ∧ b = b2 := by
  rcases h with ⟨h1, rfl⟩ | ⟨h1, rfl, rfl⟩ <;> rcases h2 with ⟨h3, rfl⟩ | ⟨h3, rfl, rfl⟩
  · exact ⟨(Prod.mk.inj (nodup_one L hn _ h1 _ h3 rfl)).2, rfl⟩
  · exact absurd rfl (h3 _ h1)
  · exact absurd rfl (h1 _ h3)
  · exact ⟨rfl, rfl⟩

section
variable {P : Program} {w : World} {k e t : TypeId} {K : Value → Prop} {b : Nat} {L : List (Value × Value)}

theorem MapIs.look (h : MapIs w b L) (hK : KeyT P k w K) (ht : P.underlying t = some (.map k e)) {z : Value} (hz : (zeroValue e).run P w = .ok z w) {key : Value} (hkey : K key) (hL : ∀ x ∈ L, K x.1) :
    ∃ v has, (∀ ok : Bool, (Instr.lookup t (.map (some b)) key ok).run P w = .ok (if ok then .tuple #[v, .bool has] else v) w) ∧ Hits L key z v has := by
  obtain ⟨es, clock, hb, rfl, hn⟩ := h
  have hes : ∀ e ∈ es.toList, K e.key := fun e he => hL _ (List.mem_map_of_mem he)
  rcases hK.find key es.toList hkey hes with ⟨h1, h2⟩ | ⟨j, e0, h1, h2, h3⟩
  · refine ⟨z, false, fun ok => ?_, Or.inr ⟨fun x hx => ?_, rfl, rfl⟩⟩
    · simp [Instr.lookup, run_underlying ht, MapKept.run_getObj_map hb, hK.check _ key hkey, h1, hz, Result.andThen]
    · obtain ⟨e1, he1, rfl⟩ := List.mem_map.1 hx
      exact h2 e1 he1
  · refine ⟨e0.val, true, fun ok => ?_, Or.inl ⟨?_, rfl⟩⟩
    · simp [Instr.lookup, run_underlying ht, MapKept.run_getObj_map hb, hK.check _ key hkey, h1, Result.andThen]
    · rw [← h3]
      exact List.mem_map.2 ⟨e0, List.mem_of_getElem? h2, rfl⟩

theorem nodup_split {A B : List (Value × Value)} {key v0 v1 : Value} (h : ((A ++ (key, v0) :: B).map Prod.fst).Nodup) : ((A ++ (key, v1) :: B).map Prod.fst).Nodup := by
  simpa using h

theorem MapIs.update (h : MapIs w b L) (hK : KeyT P k w K) (ht : P.underlying t = some (.map k e)) {key val : Value} (hkey : K key) (hL : ∀ x ∈ L, K x.1) :
    ∃ w' L2, (Instr.mapUpdate t (.map (some b)) key val).run P w = .ok () w' ∧ MapIs w' b L2 ∧ Put L key val L2 ∧ w.grownBy w' (some b) := by
  obtain ⟨es, clock, hb, rfl, hn⟩ := h
  have hes : ∀ e ∈ es.toList, K e.key := fun e he => hL _ (List.mem_map_of_mem he)
  have grown : ∀ o : Obj, w.grownBy (setBlock w b o) (some b) := fun o => ⟨rfl, rfl, rfl, by simp [setBlock], fun i _ hi => heap_setBlock_other hb _ (fun e => hi (by rw [e]))⟩
  rcases hK.find key es.toList hkey hes with ⟨h1, h2⟩ | ⟨j, e0, h1, h2, h3⟩
  · have hne : ∀ x ∈ es.toList.map (fun e => (e.key, e.val)), x.1 ≠ key := fun x hx => by
      obtain ⟨e1, he1, rfl⟩ := List.mem_map.1 hx
      exact h2 e1 he1
    refine ⟨setBlock w b (.map (es.push ⟨key, val, clock⟩) (clock + 1)), es.toList.map (fun e => (e.key, e.val)) ++ [(key, val)], ?_, ⟨_, _, heap_setBlock_same hb _, by simp, ?_⟩, Or.inl ⟨hne, rfl⟩, grown _⟩
    · simp [Instr.mapUpdate, run_underlying ht, MapKept.run_getObj_map hb, hK.check false key hkey, h1, MapKept.run_setObj_map _ hb, Result.andThen, setBlock]
    · rw [List.map_append, List.nodup_append]
      refine ⟨hn, by simp, fun a ha b hb e => ?_⟩
      simp only [List.map_cons, List.map_nil, List.mem_singleton] at hb
      obtain ⟨x, hx, rfl⟩ := List.mem_map.1 ha
      exact hne x hx (e.trans hb)
  · have hj : es[j]? = some e0 := by simpa using h2
    have hlist : (es.modify j (fun e' => { e' with key := key, val := val })).toList = es.toList.set j { e0 with key := key, val := val } := by rw [Array.toList_modify, modify_eq_set _ _ _ _ h2]
    obtain ⟨A, B, hAB, hA⟩ : ∃ A B, es.toList = A ++ e0 :: B ∧ A.length = j := by
      have hl := (List.getElem?_eq_some_iff.1 h2).1
      refine ⟨es.toList.take j, es.toList.drop (j + 1), ?_, by rw [List.length_take]; omega⟩
      rw [← (List.getElem?_eq_some_iff.1 h2).2, ← List.drop_eq_getElem_cons hl, List.take_append_drop]
    have hset : es.toList.set j { e0 with key := key, val := val } = A ++ { e0 with key := key, val := val } :: B := by
      rw [hAB, List.set_append_right _ _ (by omega), hA, Nat.sub_self, List.set_cons_zero]
    refine ⟨setBlock w b (.map (es.modify j (fun e' => { e' with key := key, val := val })) clock), A.map (fun e => (e.key, e.val)) ++ (key, val) :: B.map (fun e => (e.key, e.val)), ?_, ⟨_, _, heap_setBlock_same hb _, by rw [hlist, hset]; simp, ?_⟩, Or.inr ⟨A.map (fun e => (e.key, e.val)), e0.val, B.map (fun e => (e.key, e.val)), by rw [hAB]; simp [h3], rfl⟩, grown _⟩
    · simp [Instr.mapUpdate, run_underlying ht, MapKept.run_getObj_map hb, hK.check false key hkey, h1, hj, h3, hK.stays key hkey, MapKept.run_setObj_map _ hb, Result.andThen, setBlock]
    · rw [hAB] at hn
      refine nodup_split (v0 := e0.val) ?_
      simpa [h3] using hn
end
theorem Put.nodup_keys {L L2 : List (Value × Value)} {key val : Value} (h : Put L key val L2) {K : Value → Prop} (hL : ∀ x ∈ L, K x.1) (hk : K key) : ∀ x ∈ L2, K x.1 := by
  rcases h with ⟨-, rfl⟩ | ⟨A, v0, B, rfl, rfl⟩
  · intro x hx
    rcases List.mem_append.1 hx with hx | hx
    · exact hL x hx
    · rw [List.mem_singleton] at hx; subst hx; exact hk
  · intro x hx
    rcases List.mem_append.1 hx with hx | hx
    · exact hL x (by simp [hx])
    · rcases List.mem_cons.1 hx with rfl | hx
      · exact hk
      · exact hL x (by simp [hx])

section
variable {P : Program} {k e t : TypeId} {K : Value → Prop} {b : Nat} {L : List (Value × Value)} (w : World) {ops : Array Oper} {rest : List Oper} {o : Oper} {a : Act} {Q : Exit → Act → World → Prop} {F : Fence} {nF : Nat}
/-- 'm[k] = v' at the operation. -/
theorem asc_put (hg : o.guard = none) (m x v : Operand) (t : TypeId) (hop : o.op = Op.mapUpdate t m x v) (k e : TypeId) (ht : P.underlying t = some (.map k e)) (K : Value → Prop) (hK : KeyT P k w K) (b : Nat) (L : List (Value × Value)) (hm : a.eval m = .map (some b)) (h : MapIs w b L) (key val : Value) (hx : a.eval x = key) (hv : a.eval v = val) (hkey : K key) (hL : ∀ x ∈ L, K x.1)
    (hQ : ∀ w' L2, MapIs w' b L2 → Put L key val L2 → w.grownBy w' (some b) → wpList P ops Q rest (a.put o.dst undef) w') : wpList P ops Q (o :: rest) a w := by
  refine wpList_plain hg fun K' hK' => ?_
  obtain ⟨w', L2, hrun, r1, r2, r3⟩ := h.update (val := val) hK ht hkey hL
  unfold Oper.wp
  simp [execOp, hop, hm, hx, hv, hrun, Result.andThen]
  exact hK' _ _ (hQ w' L2 r1 r2 r3)
theorem asc_put_in (hg : o.guard = none) (m x v : Operand) (t : TypeId) (hop : o.op = Op.mapUpdate t m x v) (k e : TypeId) (ht : P.underlying t = some (.map k e)) (K : Value → Prop) (hK : KeyT P k w K) (b : Nat) (L : List (Value × Value)) (hm : a.eval m = .map (some b)) (h : MapIs w b L) (key val : Value) (hx : a.eval x = key) (hv : a.eval v = val) (hkey : K key) (hL : ∀ x ∈ L, K x.1)
    (hQ : ∀ w' L2, MapIs w' b L2 → Put L key val L2 → w.grownBy w' (some b) → wpListIn F nF P ops Q rest (a.put o.dst undef) w') : wpListIn F nF P ops Q (o :: rest) a w := by
  refine wpListIn_plain hg fun K' hK' => ?_
  obtain ⟨w', L2, hrun, r1, r2, r3⟩ := h.update (val := val) hK ht hkey hL
  unfold Oper.wpIn
  refine ⟨by simp [Oper.about, hop], ?_⟩
  rw [Oper.semAt_plain F _ _ (by rw [hop]; intro c hc'; cases hc')]
  simp [execOp, hop, hm, hx, hv, hrun, Result.andThen]
  exact hK' _ _ (hQ w' L2 r1 r2 r3)
theorem asc_len_run (h : MapIs w b L) (ht : P.underlying t = some (.map k e)) (ty : TypeId) : (Builtin.len_ #[t] ty #[.map (some b)]).run P w = .ok (.int .i64 (L.length : Int)) w := by
  obtain ⟨es, clock, hb, rfl, -⟩ := h
  simp [Builtin.len_, run_underlying ht, MapKept.run_getObj_map hb, goInt, Result.andThen]
end
end Go.Proofs.Ytmndlhbgacgnlaa

namespace Go.Proofs.Ytmndlhbgacgnlaa
open Go Go.RowKit

/-- A block of cells none of which a string shares. -/
def FreeB (w : World) (b : Nat) : Prop := (∃ c t f, w.heap[b]? = some (.cells c t f)) ∧ ∀ o, w.frozen? ⟨b, o, none⟩ = false
theorem FreeB.lt {w : World} {b : Nat} (h : FreeB w b) : b < w.heap.size := by
  obtain ⟨⟨c, t, f, h⟩, -⟩ := h
  exact (Array.getElem?_eq_some_iff.1 h).1
theorem FreeB.on {w w2 : World} {b : Nat} (h : FreeB w b) (hk : w2.heap[b]? = w.heap[b]?) : FreeB w2 b := by
  obtain ⟨⟨c, t, f, h1⟩, h2⟩ := h
  exact ⟨⟨c, t, f, hk.trans h1⟩, fun o => (World.frozen?_of_block (w := w) (a := ⟨b, o, none⟩) hk).trans (h2 o)⟩
theorem FreeB.of_box {w : World} {b : Nat} {cs : Array Value} {t : TypeId} (h : w.heap[b]? = some (.cells cs t (0, 0))) : FreeB w b :=
  ⟨⟨_, _, _, h⟩, fun o => by simp [World.frozen?, h]⟩
theorem FreeB.of_cell {w : World} {b o : Nat} {v : Value} (h : w.cell? ⟨b, o, none⟩ = some v) (hf : ∀ o, w.frozen? ⟨b, o, none⟩ = false) : FreeB w b := by
  refine ⟨?_, hf⟩
  unfold World.cell? at h
  split at h
  · exact ⟨_, _, _, ‹_›⟩
  · cases h
theorem frozen_off {w : World} {b : Nat} (h : ∀ o, w.frozen? ⟨b, o, none⟩ = false) (a : Addr) (ha : a.block = b) : w.frozen? a = false := by
  have := h a.off
  unfold World.frozen? at this ⊢
  rw [ha]; exact this
theorem same_free {P : Program} {w : World} {a b : Addr} (ha : FreeB w a.block) (hb : FreeB w b.block) : (sameAddr a b).run P w = .ok (decide (a = b)) w := by
  by_cases hbl : a.block = b.block
  · have : (a == b) = decide (a = b) := by by_cases h : a = b <;> simp [h]
    simp [sameAddr, hbl, this]
  · obtain ⟨⟨ca, ta, fa, hca⟩, hfa⟩ := ha
    obtain ⟨⟨cb, tb, fb, hcb⟩, hfb⟩ := hb
    have hne : a ≠ b := fun e => hbl (by rw [e])
    have h1 : ∀ o p, w.frozen? ⟨a.block, o, p⟩ = false := fun o p => frozen_off hfa _ rfl
    have h2 : ∀ o p, w.frozen? ⟨b.block, o, p⟩ = false := fun o p => frozen_off hfb _ rfl
    simp [sameAddr, hbl, h1, h2, hca, hcb, noView, viewAt, World.shape?, mayBeOne, stringish, hne]
theorem eq_ptr {P : Program} {w : World} {tp te : TypeId} {j : TypeInfo} {a b : Addr} (hp : P.underlying tp = some (.pointer te)) (hte : P.info? te = some j) (hsz : j.size ≠ 0) (ha : FreeB w a.block) (hb : FreeB w b.block) (d : Nat) :
    (Op.equalIn (d + 1) tp (.pointer (some a)) (.pointer (some b))).run P w = .ok (decide (a = b)) w := by
  simp [Op.equalIn, run_underlying hp, sizeOf, typeInfo, hte, hsz, same_free ha hb]
theorem check_ptr {P : Program} {w : World} {tp te : TypeId} {v : Value} (hp : P.underlying tp = some (.pointer te)) (em : Bool) (d : Nat) : (Instr.checkKey em (d + 1) tp v).run P w = .ok () w := by
  simp [Instr.checkKey, run_underlying hp]

/-- A pair of pointers to plain memory. -/
def PairK (w : World) (v : Value) : Prop := ∃ a b : Addr, v = .agg #[.pointer (some a), .pointer (some b)] ∧ FreeB w a.block ∧ FreeB w b.block
theorem eq_pair (w : World) {a b c d : Addr} (ha : FreeB w a.block) (hb : FreeB w b.block) (hc : FreeB w c.block) (hd : FreeB w d.block) :
    (Op.equal 155 (.agg #[.pointer (some a), .pointer (some b)]) (.agg #[.pointer (some c), .pointer (some d)])).run Try.prog w = .ok (decide (a = c) && decide (b = d)) w := by
  obtain ⟨j, hj, -, hz, -⟩ := info_parts Try.infoEx
  have hz : j.size ≠ 0 := by omega
  have e1 := eq_ptr (P := Try.prog) (w := w) (tp := 154) Try.underlying154 hj hz ha hc 9998
  have e2 := eq_ptr (P := Try.prog) (w := w) (tp := 154) Try.underlying154 hj hz hb hd 9998
  have u129 := run_underlying (w := w) Try.underlying155
  have z : (sizeOf 154).run Try.prog w = .ok 1 w := by kernel_rfl
  have p0 : ∀ x y : Value, (part 154 #[x, y] 0).run Try.prog w = .ok x w := fun x y => by kernel_rfl
  have p1 : ∀ x y : Value, (part 154 #[x, y] 1).run Try.prog w = .ok y w := fun x y => by kernel_rfl
  rw [Op.equal, show Op.maxDepth = 9999 + 1 from rfl, Op.equalIn]
  simp only [Sem.run_bind, u129, Result.andThen_ok, z]
  simp only [Std.Legacy.Range.forIn_eq_forIn_range', Std.Legacy.Range.size, Nat.sub_zero, Nat.add_one_sub_one, Nat.div_one]
  simp only [List.range'_succ, List.range'_zero, List.forIn_cons, Sem.run_bind, Result.andThen_ok, Nat.zero_mul, Nat.one_mul, Nat.zero_add, p0, e1]
  by_cases h1 : a = c
  · by_cases h2 : b = d
    · simp [h1, h2, p1] at e2 ⊢
      simp [e2]
    · simp [h1, h2, p1] at e2 ⊢
      simp [e2]
  · simp [h1]
theorem pairT (w : World) : KeyT Try.prog 155 w (PairK w) := by
  refine ⟨fun em v ⟨a, b, hv, _, _⟩ => ?_, fun x es hx hes => ?_, fun v ⟨a, b, hv, _, _⟩ => ?_⟩
  · subst hv
    have u129 := run_underlying (w := w) Try.underlying155
    have z : (sizeOf 154).run Try.prog w = .ok 1 w := by kernel_rfl
    have p0 : ∀ x y : Value, (part 154 #[x, y] 0).run Try.prog w = .ok x w := fun x y => by kernel_rfl
    have p1 : ∀ x y : Value, (part 154 #[x, y] 1).run Try.prog w = .ok y w := fun x y => by kernel_rfl
    have c := fun v : Value => check_ptr (P := Try.prog) (w := w) (v := v) Try.underlying154 em 9998
    rw [show 10000 = 9999 + 1 from rfl, Instr.checkKey]
    simp only [Sem.run_bind, u129, Result.andThen_ok]
    simp only [Std.Legacy.Range.forIn_eq_forIn_range', Std.Legacy.Range.size, Nat.sub_zero, Nat.add_one_sub_one, Nat.div_one]
    simp only [List.range'_succ, List.range'_zero, List.forIn_cons, Sem.run_bind, Result.andThen_ok, Nat.zero_mul, Nat.one_mul, Nat.zero_add, z, p0, c]
    simp [z, p1, c]
  · have h := find_asking (P := Try.prog) (k := 155) (w := w) (K := PairK w) (fun x y ⟨a, b, hx, h1, h2⟩ ⟨c, d, hy, h3, h4⟩ => ⟨decide (a = c) && decide (b = d), by rw [hx, hy]; exact eq_pair w h1 h2 h3 h4, by rw [hx, hy]; simp⟩) hx es 0 hes
    have e := Go.run_findKey_eq (P := Try.prog) w (k := 155) (by kernel_rfl) x es
    rw [e]
    simpa using h
  · subst hv
    simp [Instr.keyThatStays, Instr.sameBits]
end Go.Proofs.Ytmndlhbgacgnlaa

namespace Go.Proofs.Ytmndlhbgacgnlaa
open Go Go.RowKit

/-- One place is one expression. -/
theorem at_det (n : Nat) : (∀ (e e' : Ex), exSize e ≤ n → ∀ (w : World) (g o : Nat) (bs bs' : List Nat), ExAt w g o e bs → ExAt w g o e' bs' → e = e') ∧
    (∀ (l l' : List Ex), exSizes l ≤ n → ∀ (w : World) (g o j : Nat) (bs bs' : List Nat), ExsAt w g o j l bs → ExsAt w g o j l' bs' → l.length = l'.length → l = l') := by
  induction n with
  | zero =>
    refine ⟨fun e _ h => by have := exSize_pos e; omega, fun l l' h => ?_⟩
    cases l with
    | nil => intro w g o j bs bs' _ _ hl; exact (List.eq_nil_of_length_eq_zero (by simpa using hl.symm)).symm
    | cons e r => rw [exSizes] at h; have := exSize_pos e; omega
  | succ n ih =>
    have hE : ∀ (e e' : Ex), exSize e ≤ n + 1 → ∀ (w : World) (g o : Nat) (bs bs' : List Nat), ExAt w g o e bs → ExAt w g o e' bs' → e = e' := by
      intro e e' he w g o bs bs' h h'
      cases e with
      | mk k s l =>
        cases e' with
        | mk k' s' l' =>
          rw [exSize] at he
          rw [ExAt] at h h'
          obtain ⟨h1, h2, -, A, c, h4, -, -, h7⟩ := h
          obtain ⟨h1', h2', -, A', c', h4', -, -, h7'⟩ := h'
          rw [h1] at h1'
          rw [h2] at h2'
          rw [h4] at h4'
          simp only [Option.some.injEq, Value.int.injEq, Value.string.injEq, Value.slice.injEq, true_and] at h1' h2' h4'
          obtain ⟨hA, hl, -⟩ := h4'
          subst h1' h2' hA
          have : l = l' := by
            rcases h7 with ⟨rfl, -⟩ | ⟨g1, o1, b1, e1, -, -, h8⟩
            · exact (List.eq_nil_of_length_eq_zero (by simpa using hl.symm)).symm
            · rcases h7' with ⟨rfl, -⟩ | ⟨g2, o2, b2, e2, -, -, h8'⟩
              · exact List.eq_nil_of_length_eq_zero (by simpa using hl)
              · rw [e1] at e2
                cases e2
                exact ih.2 l l' (by omega) w g1 o1 0 b1 b2 h8 h8' hl
          rw [this]
    refine ⟨hE, ?_⟩
    intro l
    induction l with
    | nil => intro l' _ w g o j bs bs' _ _ hl; exact (List.eq_nil_of_length_eq_zero (by simpa using hl.symm)).symm
    | cons e r ihl =>
      intro l' hs w g o j bs bs' h h' hl
      cases l' with
      | nil => simp at hl
      | cons e' r' =>
        rw [exSizes] at hs
        have hp := exSize_pos e
        rw [ExsAt] at h h'
        obtain ⟨b1, b2, -, h1, h2⟩ := h
        obtain ⟨b1', b2', -, h1', h2'⟩ := h'
        rw [hE e e' (by omega) w g _ b1 b1' h1 h1', ihl r' (by omega) w g o (j + 1) b2 b2' h2 h2' (by simpa using hl)]

/-- A place that holds an expression; its blocks are among G. -/
abbrev At (wo : World) (G : List Nat) : Type := { x : Nat × Nat × Ex × List Nat // ExAt wo x.1 x.2.1 x.2.2.1 x.2.2.2 ∧ x.1 ∈ G ∧ ∀ z ∈ x.2.2.2, z ∈ G }
section
variable {wo : World} {G : List Nat}
def At.ex (x : At wo G) : Ex := x.1.2.2.1
def At.adr (x : At wo G) : Addr := ⟨x.1.1, x.1.2.1, none⟩
theorem At.det {x y : At wo G} (h : x.adr = y.adr) : x.ex = y.ex := by
  have h1 : x.1.1 = y.1.1 := congrArg Addr.block h
  have h2 : x.1.2.1 = y.1.2.1 := congrArg Addr.off h
  have hy := y.2.1
  rw [← h1, ← h2] at hy
  exact (at_det _).1 _ _ (Nat.le_refl _) wo _ _ _ _ x.2.1 hy
theorem kids_places {g o : Nat} (hg : g ∈ G) : ∀ (l : List Ex) (j : Nat) (bs : List Nat), ExsAt wo g o j l bs → (∀ z ∈ bs, z ∈ G) → ∃ ks : List (At wo G), ks.map At.ex = l ∧ ∀ (i : Nat) (k : At wo G), ks[i]? = some k → k.adr = ⟨g, o + (j + i) * 3, none⟩ := by
  intro l
  induction l with
  | nil => intro j bs _ _; exact ⟨[], rfl, fun i k h => by simp at h⟩
  | cons e r ih =>
    intro j bs h hb
    rw [ExsAt] at h
    obtain ⟨b1, b2, rfl, h1, h2⟩ := h
    obtain ⟨ks, e1, e2⟩ := ih (j + 1) b2 h2 (fun z hz => hb z (by simp [hz]))
    refine ⟨⟨(g, o + j * 3, e, b1), h1, hg, fun z hz => hb z (by simp [hz])⟩ :: ks, by rw [List.map_cons, e1]; rfl, fun i k hi => ?_⟩
    cases i with
    | zero =>
      simp at hi
      rw [← hi]
      rfl
    | succ i =>
      rw [e2 i k (by simpa using hi)]
      congr 2
      omega
/-- What lies at a place. -/
theorem At.parts (x : At wo G) : ∃ A c, wo.cell? x.adr = some (.int .i64 x.ex.kind) ∧ wo.cell? ⟨x.1.1, x.1.2.1 + 1, none⟩ = some (.string x.ex.name) ∧ wo.cell? ⟨x.1.1, x.1.2.1 + 2, none⟩ = some (.slice A x.ex.args.length c) ∧ x.ex.args.length ≤ c ∧ c ≤ 9223372036854775807 ∧
    ∃ ks : List (At wo G), ks.map At.ex = x.ex.args ∧ ∀ (i : Nat) (k : At wo G), ks[i]? = some k → ∃ g o, A = some ⟨g, o, none⟩ ∧ g < wo.heap.size ∧ k.adr = ⟨g, o + i * 3, none⟩ := by
  obtain ⟨u, c0, c1, c2, h⟩ := x.2.1.is
  obtain ⟨u', e1, -, A, c, e2, h1, h2, h3⟩ := h
  simp only [Value.agg.injEq, Array.mk.injEq, List.cons.injEq, and_true, true_and] at e1
  subst e1; subst e2
  refine ⟨A, c, c0, c1, c2, h1, h2, ?_⟩
  rcases h3 with ⟨h3, -⟩ | ⟨g, o, bs', rfl, hg, e3, h4⟩
  · refine ⟨[], ?_, fun i k h => by simp at h⟩
    show [] = x.1.2.2.1.args
    rw [h3]
  · obtain ⟨ks, k1, k2⟩ := kids_places (G := G) (x.2.2.2 g (by rw [e3]; simp)) _ 0 bs' h4 (fun z hz => x.2.2.2 z (by rw [e3]; simp [hz]))
    exact ⟨ks, k1, fun i k hi => ⟨g, o, rfl, hg, by rw [k2 i k hi, Nat.zero_add]⟩⟩

/-- A pair of places that is still to be compared. -/
abbrev Pr (wo : World) (G : List Nat) : Type := At wo G × At wo G
def pcells (p : Pr wo G) : List Value := [.pointer (some p.1.adr), .pointer (some p.2.adr)]
def pkey (p : Pr wo G) : Value := .agg #[.pointer (some p.1.adr), .pointer (some p.2.adr)]
def pflat (ps : List (Pr wo G)) : List Value := ps.flatMap pcells
def same (p : Pr wo G) : Bool := exEq p.1.ex p.2.ex
def allEq (ps : List (Pr wo G)) : Bool := ps.all same
def weigh : List (Pr wo G) → Nat
  | [] => 0
  | p :: r => exSize p.1.ex + weigh r
theorem pkey_det {p q : Pr wo G} (h : pkey p = pkey q) : p.1.ex = q.1.ex ∧ p.2.ex = q.2.ex := by
  simp only [pkey, Value.agg.injEq, Array.mk.injEq, List.cons.injEq, Value.pointer.injEq, Option.some.injEq, and_true] at h
  exact ⟨At.det h.1, At.det h.2⟩
theorem pflat_len (ps : List (Pr wo G)) : (pflat ps).length = ps.length * 2 := by
  induction ps with
  | nil => rfl
  | cons p r ih => rw [pflat, List.flatMap_cons, List.length_append, ← pflat, ih]; simp [pcells]; omega
theorem pflat_one (ps : List (Pr wo G)) (p : Pr wo G) : pflat (ps ++ [p]) = pflat ps ++ pcells p := by simp [pflat]
theorem all_one (ps : List (Pr wo G)) (p : Pr wo G) : allEq (ps ++ [p]) = (allEq ps && same p) := by simp [allEq]
theorem all_more (ps qs : List (Pr wo G)) : allEq (ps ++ qs) = (allEq ps && allEq qs) := by simp [allEq]
theorem weigh_app : ∀ (a b : List (Pr wo G)), weigh (a ++ b) = weigh a + weigh b := by
  intro a
  induction a with
  | nil => intro b; simp [weigh]
  | cons p r ih => intro b; rw [List.cons_append, weigh, weigh, ih]; omega
theorem weigh_len (ps : List (Pr wo G)) : ps.length ≤ weigh ps := by
  induction ps with
  | nil => simp [weigh]
  | cons p r ih => rw [weigh, List.length_cons]; have := exSize_pos p.1.ex; omega
theorem zip_eq : ∀ (xs ys : List (At wo G)), xs.length = ys.length → allEq (xs.zip ys) = exEqs (xs.map At.ex) (ys.map At.ex) := by
  intro xs
  induction xs with
  | nil => intro ys h; cases ys with
    | nil => rfl
    | cons y r => simp at h
  | cons x r ih => intro ys h; cases ys with
    | nil => simp at h
    | cons y s =>
      rw [List.zip_cons_cons, List.map_cons, List.map_cons, exEqs, ← ih s (by simpa using h)]
      simp [allEq, same]
theorem zip_weigh : ∀ (xs ys : List (At wo G)), xs.length = ys.length → weigh (xs.zip ys) = exSizes (xs.map At.ex) := by
  intro xs
  induction xs with
  | nil => intro ys _; rfl
  | cons x r ih => intro ys h; cases ys with
    | nil => simp at h
    | cons y s =>
      rw [List.zip_cons_cons, weigh, List.map_cons, exSizes, ih s (by simpa using h)]
theorem zip_less {x : At wo G} {xs ys : List (At wo G)} (hx : xs.map At.ex = x.ex.args) : ∀ z ∈ xs.zip ys, exSize z.1.ex < exSize x.ex := by
  intro z hz
  refine exSize_args (e := x.ex) ?_
  rw [← hx]
  exact List.mem_map_of_mem (List.of_mem_zip hz).1

/-- Of each pair that is remembered: behind some place of the list there are smaller ones alone, and if these are equal, it is. -/
def SeenOk (sn ps : List (Pr wo G)) : Prop := ∀ s ∈ sn, ∃ j, j ≤ ps.length ∧ (∀ p ∈ ps.drop j, exSize p.1.ex < exSize s.1.ex) ∧ (allEq (ps.drop j) = true → same s = true)
theorem seen_skip {sn ps : List (Pr wo G)} {p s : Pr wo G} (h : SeenOk sn (ps ++ [p])) (hs : s ∈ sn) (hk : pkey s = pkey p) : same p = true ∧ SeenOk sn ps := by
  obtain ⟨e1, e2⟩ := pkey_det hk
  have hp : same p = true := by
    obtain ⟨j, hj, h1, h2⟩ := h s hs
    by_cases hl : j ≤ ps.length
    · rw [List.drop_append_of_le_length hl] at h1
      have := h1 p (by simp)
      rw [e1] at this
      omega
    · rw [List.drop_eq_nil_of_le (by simp; omega)] at h2
      have := h2 rfl
      unfold same at this ⊢
      rw [← e1, ← e2]
      exact this
  refine ⟨hp, fun t ht => ?_⟩
  obtain ⟨j, hj, h1, h2⟩ := h t ht
  by_cases hl : j ≤ ps.length
  · rw [List.drop_append_of_le_length hl] at h1 h2
    exact ⟨j, hl, fun q hq => h1 q (by simp [hq]), fun ha => h2 (by rw [all_one, ha, hp]; rfl)⟩
  · rw [List.drop_eq_nil_of_le (by simp; omega)] at h2
    exact ⟨ps.length, Nat.le_refl _, fun q hq => by simp at hq, fun _ => h2 rfl⟩
theorem seen_push {sn ps zs : List (Pr wo G)} {p : Pr wo G} (h : SeenOk sn (ps ++ [p])) (heq : allEq zs = true → same p = true) (hz : ∀ z ∈ zs, exSize z.1.ex < exSize p.1.ex) : SeenOk (sn ++ [p]) (ps ++ zs) := by
  intro t ht
  rcases List.mem_append.1 ht with ht | ht
  · obtain ⟨j, hj, h1, h2⟩ := h t ht
    by_cases hl : j ≤ ps.length
    · rw [List.drop_append_of_le_length hl] at h1 h2
      refine ⟨j, by simp; omega, fun q hq => ?_, fun ha => ?_⟩
      · rw [List.drop_append_of_le_length hl] at hq
        rcases List.mem_append.1 hq with hq | hq
        · exact h1 q (by simp [hq])
        · exact Nat.lt_trans (hz q hq) (h1 p (by simp))
      · rw [List.drop_append_of_le_length hl, all_more, Bool.and_eq_true] at ha
        exact h2 (by rw [all_one, ha.1, heq ha.2]; rfl)
    · rw [List.drop_eq_nil_of_le (by simp; omega)] at h2
      exact ⟨(ps ++ zs).length, Nat.le_refl _, fun q hq => by simp at hq, fun _ => h2 rfl⟩
  · rw [List.mem_singleton] at ht
    subst ht
    exact ⟨ps.length, by simp, fun q hq => hz q (by simpa using hq), fun ha => heq (by simpa using ha)⟩
theorem SeenOk.less {sn sn2 ps : List (Pr wo G)} (h : SeenOk sn ps) (hs : ∀ s ∈ sn2, s ∈ sn) : SeenOk sn2 ps := fun s ht => h s (hs s ht)

/-- The last pair of the list, written out. -/
theorem pair_top {W : World} {ps : List (Pr wo G)} {p : Pr wo G} {AO : Option Addr} {n co base : Nat} (hn : n = ps.length) (h : W.ownsRow base 155 2 (.slice AO (n + 1) co) (n + 1) (pflat (ps ++ [p]))) :
    ∃ g, AO = some ⟨g, 0, none⟩ ∧ g < W.heap.size ∧ base ≤ g ∧ n + 1 ≤ co ∧ co ≤ maxLen ∧ W.cell? ⟨g, n * 2, none⟩ = some (.pointer (some p.1.adr)) ∧ W.cell? ⟨g, n * 2 + 1, none⟩ = some (.pointer (some p.2.adr)) ∧ W.ownsRow base 155 2 (.slice AO n co) n (pflat ps) := by
  subst hn
  rw [pflat_one] at h
  obtain ⟨g, cap, hv, h1, h2⟩ := h.form (by omega)
  cases hv
  have hx := pflat_len ps
  have hc : ∀ (j : Nat) (v : Value), (pcells p)[j]? = some v → W.cell? ⟨g, ps.length * 2 + j, none⟩ = some v := by
    intro j v hj
    have hj6 : j < 2 := by have := (List.getElem?_eq_some_iff.1 hj).1; simpa [pcells] using this
    rw [h.cellAt (ps.length * 2 + j) (by omega), List.getElem?_append_right (by omega), hx, Nat.add_sub_cancel_left]
    exact hj
  refine ⟨g, rfl, h2, h1, ?_, ?_, hc 0 _ rfl, hc 1 _ rfl, ownsRow_pop (by rw [hx]) h⟩
  · rcases h.2 with ⟨h0, -⟩ | ⟨g', cap', cur, hv, -, -, hn, -⟩
    · cases h0
    · cases hv; exact hn
  · rcases h.2 with ⟨h0, -⟩ | ⟨g', cap', cur, hv, -, -, -, hm, -⟩
    · cases h0
    · cases hv; exact hm
end
theorem Try.infoTwo : (Try.prog.info? 155).map (fun i => (i.zero, i.size, i.bytes)) = some (some (.agg #[.pointer none, .pointer none]), 2, 16) := by kernel_rfl
end Go.Proofs.Ytmndlhbgacgnlaa

namespace Go.Proofs.Ytmndlhbgacgnlaa
open Go Go.RowKit

section
variable {α : Type} {key val : α → Value}
/-- p is the first of F at the key k. -/
def FirstAt (key : α → Value) (F : List α) (k : Value) (p : α) : Prop := ∃ A B, F = A ++ p :: B ∧ key p = k ∧ ∀ a ∈ A, key a ≠ k
theorem FirstAt.mem {F : List α} {k : Value} {p : α} (h : FirstAt key F k p) : p ∈ F ∧ key p = k := by
  obtain ⟨A, B, rfl, h1, -⟩ := h
  exact ⟨by simp, h1⟩
theorem firstAt_cons {F : List α} {x p : α} {k : Value} : FirstAt key (x :: F) k p ↔ (key x = k ∧ p = x) ∨ (key x ≠ k ∧ FirstAt key F k p) := by
  constructor
  · rintro ⟨A, B, h, h1, h2⟩
    cases A with
    | nil =>
      simp only [List.nil_append, List.cons.injEq] at h
      obtain ⟨rfl, rfl⟩ := h
      exact Or.inl ⟨h1, rfl⟩
    | cons a A =>
      simp only [List.cons_append, List.cons.injEq] at h
      obtain ⟨rfl, rfl⟩ := h
      exact Or.inr ⟨h2 _ (by simp), A, B, rfl, h1, fun b hb => h2 b (by simp [hb])⟩
  · rintro (⟨h1, rfl⟩ | ⟨h1, A, B, rfl, h2, h3⟩)
    · exact ⟨[], F, rfl, h1, fun a ha => by cases ha⟩
    · refine ⟨x :: A, B, rfl, h2, fun a ha => ?_⟩
      rcases List.mem_cons.1 ha with rfl | ha
      · exact h1
      · exact h3 a ha
theorem firstAt_some : ∀ {F : List α} {k : Value}, (∃ p ∈ F, key p = k) → ∃ p, FirstAt key F k p := by
  intro F
  induction F with
  | nil => rintro k ⟨p, hp, -⟩; cases hp
  | cons x F ih =>
    rintro k ⟨p, hp, hk⟩
    by_cases hx : key x = k
    · exact ⟨x, firstAt_cons.2 (Or.inl ⟨hx, rfl⟩)⟩
    · rcases List.mem_cons.1 hp with rfl | hp
      · exact absurd hk hx
      · obtain ⟨q, hq⟩ := ih ⟨p, hp, hk⟩
        exact ⟨q, firstAt_cons.2 (Or.inr ⟨hx, hq⟩)⟩
theorem FirstAt.uniq : ∀ {F : List α} {k : Value} {p q : α}, FirstAt key F k p → FirstAt key F k q → p = q := by
  intro F
  induction F with
  | nil => rintro k p q ⟨A, B, h, -⟩; simp at h
  | cons x F ih =>
    intro k p q hp hq
    rcases firstAt_cons.1 hp with ⟨h1, rfl⟩ | ⟨h1, h2⟩ <;> rcases firstAt_cons.1 hq with ⟨h3, rfl⟩ | ⟨h3, h4⟩
    · rfl
    · exact absurd h1 h3
    · exact absurd h3 h1
    · exact ih h2 h4
theorem firstAt_snoc {F : List α} {x p : α} {k : Value} : FirstAt key (F ++ [x]) k p ↔ FirstAt key F k p ∨ ((∀ a ∈ F, key a ≠ k) ∧ key x = k ∧ p = x) := by
  induction F with
  | nil =>
    rw [List.nil_append, firstAt_cons]
    constructor
    · rintro (⟨h1, rfl⟩ | ⟨-, A, B, h, -⟩)
      · exact Or.inr ⟨(fun a ha => by cases ha), h1, rfl⟩
      · simp at h
    · rintro (⟨A, B, h, -⟩ | ⟨-, h1, rfl⟩)
      · simp at h
      · exact Or.inl ⟨h1, rfl⟩
  | cons y F ih =>
    rw [List.cons_append, firstAt_cons, firstAt_cons, ih]
    constructor
    · rintro (h | ⟨h1, h | ⟨h2, h3⟩⟩)
      · exact Or.inl (Or.inl h)
      · exact Or.inl (Or.inr ⟨h1, h⟩)
      · refine Or.inr ⟨fun a ha => ?_, h3⟩
        rcases List.mem_cons.1 ha with rfl | ha
        · exact h1
        · exact h2 a ha
    · rintro ((h | ⟨h1, h⟩) | ⟨h1, h2⟩)
      · exact Or.inl h
      · exact Or.inr ⟨h1, Or.inl h⟩
      · exact Or.inr ⟨h1 y (by simp), Or.inr ⟨fun a ha => h1 a (by simp [ha]), h2⟩⟩

/-- The map holds the first one of F at each key. -/
structure Firsts (key val : α → Value) (F : List α) (M : List (Value × Value)) : Prop where
  mem : ∀ k v, (k, v) ∈ M ↔ ∃ p, FirstAt key F k p ∧ val p = v
  len : M.length ≤ F.length ∧ (M.length = F.length ↔ (F.map key).Nodup)
theorem firsts_nil : Firsts key val [] [] := ⟨fun k v => ⟨(fun h => by cases h), fun ⟨p, ⟨A, B, h, _⟩, _⟩ => by simp at h⟩, by simp⟩
theorem Firsts.keys {F : List α} {M : List (Value × Value)} (h : Firsts key val F M) (k : Value) : (∃ x ∈ M, x.1 = k) ↔ ∃ p ∈ F, key p = k := by
  constructor
  · rintro ⟨⟨k', v⟩, hx, rfl⟩
    obtain ⟨p, hp, -⟩ := (h.mem _ _).1 hx
    exact ⟨p, hp.mem⟩
  · intro hp
    obtain ⟨p, hp⟩ := firstAt_some hp
    exact ⟨(k, val p), (h.mem _ _).2 ⟨p, hp, rfl⟩, rfl⟩
theorem put_mem {L L2 : List (Value × Value)} {k0 v0 : Value} (hn : (L.map Prod.fst).Nodup) (h : Put L k0 v0 L2) (k v : Value) : (k, v) ∈ L2 ↔ (k = k0 ∧ v = v0) ∨ (k ≠ k0 ∧ (k, v) ∈ L) := by
  rcases h with ⟨h1, rfl⟩ | ⟨A, u, B, rfl, rfl⟩
  · rw [List.mem_append, List.mem_singleton, Prod.mk.injEq]
    constructor
    · rintro (h | h)
      · exact Or.inr ⟨h1 _ h, h⟩
      · exact Or.inl h
    · rintro (h | ⟨-, h⟩)
      · exact Or.inr h
      · exact Or.inl h
  · rw [List.map_append, List.map_cons, List.nodup_append] at hn
    obtain ⟨-, h2, h3⟩ := hn
    rw [List.nodup_cons] at h2
    have hA : ∀ x ∈ A, x.1 ≠ k0 := fun x hx => h3 x.1 (List.mem_map_of_mem hx) k0 (by simp)
    have hB : ∀ x ∈ B, x.1 ≠ k0 := fun x hx e => h2.1 (show k0 ∈ B.map Prod.fst by rw [← e]; exact List.mem_map_of_mem hx)
    simp only [List.mem_append, List.mem_cons, Prod.mk.injEq]
    constructor
    · rintro (h | h | h)
      · exact Or.inr ⟨hA _ h, Or.inl h⟩
      · exact Or.inl h
      · exact Or.inr ⟨hB _ h, Or.inr (Or.inr h)⟩
    · rintro (h | ⟨h, h4 | h4 | h4⟩)
      · exact Or.inr (Or.inl h)
      · exact Or.inl h4
      · exact absurd h4.1 h
      · exact Or.inr (Or.inr h4)
/-- One more in front, stored over what was there. -/
theorem Firsts.cons {F : List α} {M M2 : List (Value × Value)} {x : α} (h : Firsts key val F M) (hn : (M.map Prod.fst).Nodup) (hp : Put M (key x) (val x) M2) : Firsts key val (x :: F) M2 := by
  refine ⟨fun k v => ?_, ?_⟩
  · rw [put_mem hn hp, h.mem]
    constructor
    · rintro (⟨rfl, rfl⟩ | ⟨h1, p, h2, h3⟩)
      · exact ⟨x, firstAt_cons.2 (Or.inl ⟨rfl, rfl⟩), rfl⟩
      · exact ⟨p, firstAt_cons.2 (Or.inr ⟨fun e => h1 e.symm, h2⟩), h3⟩
    · rintro ⟨p, h1, h2⟩
      rcases firstAt_cons.1 h1 with ⟨h3, rfl⟩ | ⟨h3, h4⟩
      · exact Or.inl ⟨h3.symm, h2.symm⟩
      · exact Or.inr ⟨fun e => h3 e.symm, p, h4, h2⟩
  · have hk := h.keys (key x)
    have hl := h.len
    rw [List.map_cons, List.nodup_cons, List.length_cons]
    rcases hp with ⟨h1, rfl⟩ | ⟨A, u, B, rfl, rfl⟩
    · have hne : key x ∉ F.map key := fun hm => by
        obtain ⟨p, hp1, hp2⟩ := List.mem_map.1 hm
        obtain ⟨y, hy, e⟩ := hk.2 ⟨p, hp1, hp2⟩
        exact h1 y hy e
      refine ⟨by simp; omega, ?_⟩
      rw [List.length_append]
      simp only [List.length_cons, List.length_nil, hne, not_false_eq_true, true_and]
      rw [← hl.2]
      omega
    · obtain ⟨p, hp1, hp2⟩ := hk.1 ⟨(key x, u), by simp, rfl⟩
      have hin : key x ∈ F.map key := List.mem_map.2 ⟨p, hp1, hp2⟩
      have hl1 := hl.1
      simp only [List.length_append, List.length_cons] at hl1 ⊢
      refine ⟨by omega, ?_⟩
      constructor
      · intro e; omega
      · intro e; exact absurd hin e.1
/-- One more behind, stored where there was none. -/
theorem Firsts.snoc {F : List α} {M M2 : List (Value × Value)} {x : α} (h : Firsts key val F M) (hn : (M.map Prod.fst).Nodup) (hp : Put M (key x) (val x) M2) (ho : ∀ y ∈ M, y.1 ≠ key x) : Firsts key val (F ++ [x]) M2 := by
  have hk : ∀ p ∈ F, key p ≠ key x := fun p hp1 e => by
    obtain ⟨y, hy, e2⟩ := (h.keys (key x)).2 ⟨p, hp1, e⟩
    exact ho y hy e2
  refine ⟨fun k v => ?_, ?_⟩
  · rw [put_mem hn hp, h.mem]
    constructor
    · rintro (⟨rfl, rfl⟩ | ⟨h1, p, h2, h3⟩)
      · exact ⟨x, firstAt_snoc.2 (Or.inr ⟨hk, rfl, rfl⟩), rfl⟩
      · exact ⟨p, firstAt_snoc.2 (Or.inl h2), h3⟩
    · rintro ⟨p, h1, h2⟩
      rcases firstAt_snoc.1 h1 with h3 | ⟨h3, h4, rfl⟩
      · refine Or.inr ⟨fun e => hk p h3.mem.1 (h3.mem.2.trans e), p, h3, h2⟩
      · exact Or.inl ⟨h4.symm, h2.symm⟩
  · have hl := h.len
    have hne : key x ∉ F.map key := fun hm => by
      obtain ⟨p, hp1, hp2⟩ := List.mem_map.1 hm
      exact hk p hp1 hp2
    rcases hp with ⟨h1, rfl⟩ | ⟨A, u, B, rfl, -⟩
    · refine ⟨by simp; omega, ?_⟩
      rw [List.length_append, List.length_append, List.map_append, List.nodup_append]
      constructor
      · intro e
        refine ⟨hl.2.1 (by simpa using e), by simp, fun a ha b hb e2 => ?_⟩
        simp only [List.map_cons, List.map_nil, List.mem_singleton] at hb
        rw [e2, hb] at ha
        exact hne ha
      · intro e
        have := hl.2.2 e.1
        simp; omega
    · exact absurd rfl (ho (key x, u) (by simp))
/-- One more behind, where there is one already. -/
theorem Firsts.more {F : List α} {M : List (Value × Value)} {x : α} (h : Firsts key val F M) (ho : ∃ y ∈ M, y.1 = key x) : ∀ k v, (k, v) ∈ M ↔ ∃ p, FirstAt key (F ++ [x]) k p ∧ val p = v := by
  obtain ⟨q, hq1, hq2⟩ := (h.keys (key x)).1 ho
  intro k v
  rw [h.mem]
  constructor
  · rintro ⟨p, h1, h2⟩; exact ⟨p, firstAt_snoc.2 (Or.inl h1), h2⟩
  · rintro ⟨p, h1, h2⟩
    rcases firstAt_snoc.1 h1 with h3 | ⟨h3, h4, rfl⟩
    · exact ⟨p, h3, h2⟩
    · exact absurd (hq2.trans h4) (h3 q hq1)
theorem Firsts.hits {F : List α} {M : List (Value × Value)} (h : Firsts key val F M) {k z v : Value} {b : Bool} (hh : Hits M k z v b) : (∃ p, FirstAt key F k p ∧ v = val p ∧ b = true) ∨ ((∀ p ∈ F, key p ≠ k) ∧ v = z ∧ b = false) := by
  rcases hh with ⟨h1, rfl⟩ | ⟨h1, rfl, rfl⟩
  · obtain ⟨p, h2, h3⟩ := (h.mem _ _).1 h1
    exact Or.inl ⟨p, h2, h3.symm, rfl⟩
  · refine Or.inr ⟨fun p hp e => ?_, rfl, rfl⟩
    obtain ⟨y, hy, e2⟩ := (h.keys k).2 ⟨p, hp, e⟩
    exact h1 y hy e2
end

/-- Strings as keys. -/
def StrK (v : Value) : Prop := ∃ s, v = .string s
theorem strT (w : World) : KeyT Try.prog 9 w StrK := by
  have hk := Try.underlying9
  have isK : ∀ {v : Value}, StrK v → MapKept.IsKey .string v := fun {v} ⟨s, h⟩ => by subst h; trivial
  refine ⟨fun em v h => MapKept.run_checkKey hk (isK h) em 9999, fun x es hx hes => ?_, fun v h => MapKept.run_keyThatStays (isK h)⟩
  rcases MapKept.findNow_spec (isK hx) es 0 (fun y hy => isK (hes y hy)) with ⟨h1, h2⟩ | ⟨j, e0, h1, h2, h3⟩
  · exact Or.inl ⟨MapKept.run_findKey hk h1, h2⟩
  · exact Or.inr ⟨j, e0, by simpa using MapKept.run_findKey hk h1, h2, h3⟩

/-- Structs of two strings as keys. -/
def TwoK (v : Value) : Prop := ∃ s t, v = .agg #[.string s, .string t]
theorem eq_str {w : World} (a b : ByteArray) (d : Nat) : (Op.equalIn (d + 1) 9 (.string a) (.string b)).run Try.prog w = .ok (a == b) w := by
  simp [Op.equalIn, run_underlying Try.underlying9]
theorem eq_two (w : World) (a b c d : ByteArray) : (Op.equal 187 (.agg #[.string a, .string b]) (.agg #[.string c, .string d])).run Try.prog w = .ok (decide (a = c) && decide (b = d)) w := by
  have e1 : (Op.equalIn 9999 9 (.string a) (.string c)).run Try.prog w = .ok (a == c) w := eq_str a c 9998
  have e2 : (Op.equalIn 9999 9 (.string b) (.string d)).run Try.prog w = .ok (b == d) w := eq_str b d 9998
  have u := run_underlying (w := w) Try.underlying187
  have st : Try.prog.stoodInHeld 187 = false := by kernel_rfl
  have p0 : ∀ x y : Value, (part 9 #[x, y] 0).run Try.prog w = .ok x w := fun x y => by kernel_rfl
  have p1 : ∀ x y : Value, (part 9 #[x, y] 1).run Try.prog w = .ok y w := fun x y => by kernel_rfl
  rw [Op.equal, show Op.maxDepth = 9999 + 1 from rfl, Op.equalIn]
  have q : ∀ x y : ByteArray, (x == y) = decide (x = y) := fun x y => by rw [Bool.eq_iff_iff, MapKept.bytes_beq, decide_eq_true_iff]
  rw [q] at e1 e2
  by_cases h1 : a = c
  · rw [decide_eq_true h1] at e1 ⊢
    by_cases h2 : b = d
    · rw [decide_eq_true h2] at e2 ⊢
      simp [u, st, p0, p1, e1, e2]
    · rw [decide_eq_false h2] at e2 ⊢
      simp [u, st, p0, p1, e1, e2]
  · rw [decide_eq_false h1] at e1 ⊢
    simp [u, st, p0, e1]
theorem twoT (w : World) : KeyT Try.prog 187 w TwoK := by
  refine ⟨fun em v ⟨a, b, hv⟩ => ?_, fun x es hx hes => ?_, fun v ⟨a, b, hv⟩ => ?_⟩
  · subst hv
    have u := run_underlying (w := w) Try.underlying187
    have us := run_underlying (w := w) Try.underlying9
    have p0 : ∀ x y : Value, (part 9 #[x, y] 0).run Try.prog w = .ok x w := fun x y => by kernel_rfl
    have p1 : ∀ x y : Value, (part 9 #[x, y] 1).run Try.prog w = .ok y w := fun x y => by kernel_rfl
    have c : ∀ s, (Instr.checkKey em 9999 9 (.string s)).run Try.prog w = .ok () w := fun s => by rw [show 9999 = 9998 + 1 from rfl, Instr.checkKey]; simp [us]
    rw [show 10000 = 9999 + 1 from rfl, Instr.checkKey]
    simp [u, p0, p1, c]
  · have h := find_asking (P := Try.prog) (k := 187) (w := w) (K := TwoK) (fun x y ⟨a, b, hx⟩ ⟨c, d, hy⟩ => ⟨decide (a = c) && decide (b = d), by rw [hx, hy]; exact eq_two w a b c d, by rw [hx, hy]; simp⟩) hx es 0 hes
    have e := Go.run_findKey_eq (P := Try.prog) w (k := 187) (by kernel_rfl) x es
    rw [e]
    simpa using h
  · subst hv
    simp [Instr.keyThatStays, Instr.sameBits, MapKept.bytes_beq]
end Go.Proofs.Ytmndlhbgacgnlaa

namespace Go.Proofs.Ytmndlhbgacgnlaa
open Go Go.RowKit

theorem eq_iff (n : Nat) : (∀ (a b : Ex), exSize a ≤ n → (exEq a b = true ↔ a = b)) ∧ (∀ (l m : List Ex), exSizes l ≤ n → (exEqs l m = true ↔ l = m)) := by
  induction n with
  | zero =>
    refine ⟨fun a b h => by have := exSize_pos a; omega, fun l m h => ?_⟩
    cases l with
    | nil => cases m <;> simp [exEqs]
    | cons a r => rw [exSizes] at h; have := exSize_pos a; omega
  | succ n ih =>
    have hE : ∀ (a b : Ex), exSize a ≤ n + 1 → (exEq a b = true ↔ a = b) := by
      intro a b h
      cases a with
      | mk k s l =>
        cases b with
        | mk k2 s2 l2 =>
          rw [exSize] at h
          have := ih.2 l l2 (by omega)
          rw [exEq_parts, Bool.and_eq_true, Bool.and_eq_true, Ex.mk.injEq]
          exact ⟨fun h => ⟨of_decide_eq_true h.1, of_decide_eq_true h.2.1, this.1 h.2.2⟩, fun h => ⟨decide_eq_true h.1, decide_eq_true h.2.1, this.2 h.2.2⟩⟩
    refine ⟨hE, ?_⟩
    intro l
    induction l with
    | nil => intro m _; cases m <;> simp [exEqs]
    | cons a r ihl =>
      intro m h
      rw [exSizes] at h
      have := exSize_pos a
      cases m with
      | nil => simp [exEqs]
      | cons b s => rw [exEqs, Bool.and_eq_true, hE a b (by omega), ihl s (by omega)]; simp
theorem exEq_same (a b : Ex) : exEq a b = true ↔ a = b := (eq_iff _).1 a b (Nat.le_refl _)

/-- A place that holds some arguments. -/
abbrev Pl (wo : World) (G : List Nat) : Type := { p : Nat × Nat × List Ex × List Nat // ExsAt wo p.1 p.2.1 0 p.2.2.1 p.2.2.2 ∧ p.1 ∈ G ∧ (∀ z ∈ p.2.2.2, z ∈ G) ∧ p.2.2.1 ≠ [] }
section
variable {wo : World} {G : List Nat}
def Pl.exs (p : Pl wo G) : List Ex := p.1.2.2.1
def Pl.adr (p : Pl wo G) : Addr := ⟨p.1.1, p.1.2.1, none⟩
def Pl.key (p : Pl wo G) : Value := .agg #[.pointer (some p.adr), .int .i64 (p.exs.length : Int)]
theorem Pl.det {p q : Pl wo G} (h : p.key = q.key) : p.exs = q.exs := by
  simp only [Pl.key, Pl.adr, Value.agg.injEq, Array.mk.injEq, List.cons.injEq, Value.pointer.injEq, Option.some.injEq, Addr.mk.injEq, Value.int.injEq, and_true, true_and] at h
  obtain ⟨⟨h1, h2⟩, h3⟩ := h
  have hq := q.2.1
  rw [← h1, ← h2] at hq
  exact (at_det _).2 _ _ (Nat.le_refl _) wo _ _ _ _ _ p.2.1 hq (show p.exs.length = q.exs.length by omega)
theorem Pl.kids_ex (p : Pl wo G) : ∃ ks : List (At wo G), ks.map At.ex = p.exs ∧ ∀ (i : Nat) (k : At wo G), ks[i]? = some k → k.adr = ⟨p.1.1, p.1.2.1 + (0 + i) * 3, none⟩ := kids_places p.2.2.1 _ 0 _ p.2.1 p.2.2.2.1
noncomputable def Pl.kids (p : Pl wo G) : List (At wo G) := Classical.choose p.kids_ex
theorem Pl.kids_map (p : Pl wo G) : p.kids.map At.ex = p.exs := (Classical.choose_spec p.kids_ex).1
theorem Pl.kids_adr (p : Pl wo G) {i : Nat} {k : At wo G} (h : p.kids[i]? = some k) : k.adr = ⟨p.1.1, p.1.2.1 + i * 3, none⟩ := by
  rw [(Classical.choose_spec p.kids_ex).2 i k h, Nat.zero_add]
theorem Pl.kids_len (p : Pl wo G) : p.kids.length = p.exs.length := by rw [← p.kids_map, List.length_map]
theorem Pl.pos (p : Pl wo G) : 0 < p.exs.length := List.length_pos_iff.2 p.2.2.2.2
/-- What lies in the slice cell of an expression. -/
theorem At.place (x : At wo G) : ∃ A c, wo.cell? x.adr = some (.int .i64 x.ex.kind) ∧ wo.cell? ⟨x.1.1, x.1.2.1 + 1, none⟩ = some (.string x.ex.name) ∧ wo.cell? ⟨x.1.1, x.1.2.1 + 2, none⟩ = some (.slice A x.ex.args.length c) ∧ x.ex.name.size ≤ 9223372036854775807 ∧ x.ex.args.length ≤ c ∧ c ≤ 9223372036854775807 ∧
    (x.ex.args = [] ∨ ∃ p : Pl wo G, A = some p.adr ∧ p.exs = x.ex.args) := by
  obtain ⟨u, c0, c1, c2, h⟩ := x.2.1.is
  obtain ⟨u', e1, hs, A, c, e2, h1, h2, h3⟩ := h
  simp only [Value.agg.injEq, Array.mk.injEq, List.cons.injEq, and_true, true_and] at e1
  subst e1; subst e2
  refine ⟨A, c, c0, c1, c2, hs, h1, h2, ?_⟩
  rcases h3 with ⟨h3, -⟩ | ⟨g, o, bs', rfl, hg, e3, h4⟩
  · exact Or.inl h3
  · by_cases h0 : x.ex.args = []
    · exact Or.inl h0
    · exact Or.inr ⟨⟨(g, o, x.ex.args, bs'), h4, x.2.2.2 g (by rw [e3]; simp), fun z hz => x.2.2.2 z (by rw [e3]; simp [hz]), h0⟩, rfl, rfl⟩

/-- What joins two places at once. -/
def Link (E : List (Pl wo G × Pl wo G)) (x y : Pl wo G) : Prop := (x, y) ∈ E ∨ (y, x) ∈ E ∨ x.exs = y.exs
/-- Two places are joined. -/
inductive Conn (E : List (Pl wo G × Pl wo G)) : Pl wo G → Pl wo G → Prop
  | same {x y : Pl wo G} (h : x.exs = y.exs) : Conn E x y
  | next {x y z : Pl wo G} (h : Conn E x y) (l : Link E y z) : Conn E x z
variable {E E2 : List (Pl wo G × Pl wo G)} {x y z : Pl wo G}
theorem Link.symm (h : Link E x y) : Link E y x := by
  rcases h with h | h | h
  · exact Or.inr (Or.inl h)
  · exact Or.inl h
  · exact Or.inr (Or.inr h.symm)
theorem Conn.trans (h : Conn E x y) (k : Conn E y z) : Conn E x z := by
  induction k with
  | same e => exact h.next (Or.inr (Or.inr e))
  | next _ l ih => exact ih.next l
theorem Conn.link (l : Link E x y) : Conn E x y := (Conn.same rfl).next l
theorem Conn.symm (h : Conn E x y) : Conn E y x := by
  induction h with
  | same e => exact Conn.same e.symm
  | next _ l ih => exact (Conn.link l.symm).trans ih
theorem Conn.more (hE : ∀ p ∈ E, p ∈ E2) (h : Conn E x y) : Conn E2 x y := by
  induction h with
  | same e => exact Conn.same e
  | next _ l ih =>
    refine ih.next ?_
    rcases l with h | h | h
    · exact Or.inl (hE _ h)
    · exact Or.inr (Or.inl (hE _ h))
    · exact Or.inr (Or.inr h)

/-- A pair that need not be compared again. -/
def Done (E : List (Pl wo G × Pl wo G)) (x y : Ex) : Prop := x.kind = y.kind ∧ x.name = y.name ∧ ((x.args = [] ∧ y.args = []) ∨ ∃ a b : Pl wo G, a.exs = x.args ∧ b.exs = y.args ∧ Conn E a b)
theorem Done.more {a b : Ex} (hE : ∀ p ∈ E, p ∈ E2) (h : Done E a b) : Done E2 a b := by
  obtain ⟨h1, h2, h3⟩ := h
  refine ⟨h1, h2, ?_⟩
  rcases h3 with h3 | ⟨a, b, e1, e2, h3⟩
  · exact Or.inl h3
  · exact Or.inr ⟨a, b, e1, e2, h3.more hE⟩
/-- Whatever was joined: its parts are done, or still to be compared. -/
def Sound {w1 : World} {G1 : List Nat} (E : List (Pl wo G × Pl wo G)) (ps : List (Pr w1 G1)) : Prop := ∀ e ∈ E, e.1.exs.length = e.2.exs.length ∧ ∀ p ∈ e.1.kids.zip e.2.kids, (∃ q ∈ ps, q.1.ex = p.1.ex ∧ q.2.ex = p.2.ex) ∨ Done E p.1.ex p.2.ex
theorem exs_same {a b : Ex} (h1 : a.kind = b.kind) (h2 : a.name = b.name) (h3 : a.args = b.args) : a = b := by
  cases a; cases b
  simp only [Ex.kind, Ex.name, Ex.args] at h1 h2 h3
  rw [h1, h2, h3]
theorem zip_all : ∀ (xs ys : List (At wo G)), xs.length = ys.length → (∀ p ∈ xs.zip ys, p.1.ex = p.2.ex) → xs.map At.ex = ys.map At.ex := by
  intro xs
  induction xs with
  | nil => intro ys h _; cases ys with
    | nil => rfl
    | cons y r => simp at h
  | cons x r ih => intro ys h ha; cases ys with
    | nil => simp at h
    | cons y s =>
      rw [List.map_cons, List.map_cons, ha (x, y) (by simp), ih s (by simpa using h) (fun p hp => ha p (by simp [hp]))]
variable {w1 : World} {G1 : List Nat}
theorem sound_end (hS : Sound (w1 := w1) (G1 := G1) E []) : ∀ (n : Nat) (x y : Pl wo G), Conn E x y → exSizes x.exs ≤ n → x.exs = y.exs := by
  intro n
  induction n with
  | zero =>
    intro x y _ h
    have := sizes_len x.exs
    have := x.pos
    omega
  | succ n ih =>
    intro x y h
    induction h with
    | same e => intro _; exact e
    | @next y z _ l ihc =>
      intro hx
      have e1 := ihc hx
      rw [e1] at hx ⊢
      have key : ∀ (p : Pr wo G), Done E p.1.ex p.2.ex → (exSize p.1.ex ≤ exSizes y.exs ∨ exSize p.2.ex ≤ exSizes y.exs) → p.1.ex = p.2.ex := by
        intro p hd hl
        obtain ⟨h1, h2, h3⟩ := hd
        refine exs_same h1 h2 ?_
        rcases h3 with ⟨h3, h4⟩ | ⟨a, b, ea, eb, h3⟩
        · rw [h3, h4]
        · rw [← ea, ← eb]
          rcases hl with hl | hl
          · refine ih a b h3 ?_
            rw [ea]
            have : exSizes p.1.ex.args < exSize p.1.ex := by cases p.1.ex; simp [exSize, Ex.args]
            omega
          · refine (ih b a h3.symm ?_).symm
            rw [eb]
            have : exSizes p.2.ex.args < exSize p.2.ex := by cases p.2.ex; simp [exSize, Ex.args]
            omega
      have hk : ∀ k ∈ y.kids, exSize k.ex ≤ exSizes y.exs := fun k hk => exSizes_mem (by rw [← y.kids_map]; exact List.mem_map_of_mem hk)
      rcases l with l | l | l
      · obtain ⟨hl, hp⟩ := hS _ l
        have := zip_all y.kids z.kids (by rw [y.kids_len, z.kids_len, hl]) (fun p hz => key p ((hp p hz).resolve_left (by simp)) (Or.inl (hk _ (List.of_mem_zip hz).1)))
        rwa [y.kids_map, z.kids_map] at this
      · obtain ⟨hl, hp⟩ := hS _ l
        have := zip_all z.kids y.kids (by rw [y.kids_len, z.kids_len, hl]) (fun p hz => key p ((hp p hz).resolve_left (by simp)) (Or.inr (hk _ (List.of_mem_zip hz).2)))
        rw [z.kids_map, y.kids_map] at this
        exact this.symm
      · exact l
theorem Sound.conn (hS : Sound (w1 := w1) (G1 := G1) E []) (h : Conn E x y) : x.exs = y.exs := sound_end hS _ x y h (Nat.le_refl _)
theorem Sound.done (hS : Sound (w1 := w1) (G1 := G1) E []) {a b : Ex} (h : Done E a b) : a = b := by
  obtain ⟨h1, h2, h3⟩ := h
  refine exs_same h1 h2 ?_
  rcases h3 with ⟨h3, h4⟩ | ⟨a, b, ea, eb, h3⟩
  · rw [h3, h4]
  · rw [← ea, ← eb]; exact hS.conn h3
theorem Sound.nil {ps : List (Pr w1 G1)} : Sound (wo := wo) (G := G) [] ps := fun e he => by cases he
/-- The pair that was taken is done. -/
theorem Sound.skip {ps : List (Pr w1 G1)} {p : Pr w1 G1} (h : Sound E (ps ++ [p])) (hd : Done E p.1.ex p.2.ex) : Sound E ps := fun e he => by
  obtain ⟨h1, h2⟩ := h e he
  refine ⟨h1, fun q hq => ?_⟩
  rcases h2 q hq with ⟨r, hr, e1, e2⟩ | h
  · rcases List.mem_append.1 hr with h | h
    · exact Or.inl ⟨r, h, e1, e2⟩
    · rw [List.mem_singleton] at h; subst h; rw [e1, e2] at hd; exact Or.inr hd
  · exact Or.inr h
/-- Two places are joined; their parts are to be compared. -/
theorem Sound.push {ps zs : List (Pr w1 G1)} {p : Pr w1 G1} {a b : Pl wo G} (h : Sound E (ps ++ [p])) (hl : a.exs.length = b.exs.length) (hz : ∀ q ∈ a.kids.zip b.kids, ∃ r ∈ zs, r.1.ex = q.1.ex ∧ r.2.ex = q.2.ex) (hd : Done (E ++ [(a, b)]) p.1.ex p.2.ex) : Sound (E ++ [(a, b)]) (ps ++ zs) := fun e he => by
  rcases List.mem_append.1 he with he | he
  · obtain ⟨h1, h2⟩ := h e he
    refine ⟨h1, fun q hq => ?_⟩
    rcases h2 q hq with ⟨r, hr, e1, e2⟩ | h
    · rcases List.mem_append.1 hr with h | h
      · exact Or.inl ⟨r, List.mem_append_left _ h, e1, e2⟩
      · rw [List.mem_singleton] at h; subst h; rw [e1, e2] at hd; exact Or.inr hd
    · exact Or.inr (h.more (fun q hq => List.mem_append_left _ hq))
  · rw [List.mem_singleton] at he
    subst he
    exact ⟨hl, fun q hq => by
      obtain ⟨r, hr, e1⟩ := hz q hq
      exact Or.inl ⟨r, List.mem_append_right _ hr, e1⟩⟩
theorem done_pair {x y : Ex} {a b : Pl wo G} (h1 : x.kind = y.kind) (h2 : x.name = y.name) (ha : a.exs = x.args) (hb : b.exs = y.args) (h : Conn E a b) : Done E x y := ⟨h1, h2, Or.inr ⟨a, b, ha, hb, h⟩⟩
end

/-- Where a key leads to, and in how many steps. -/
inductive Ends (M : List (Value × Value)) : Value → Nat → Value → Prop
  | stop {k : Value} (h : ∀ x ∈ M, x.1 ≠ k) : Ends M k 0 k
  | next {k k2 r : Value} {n : Nat} (h : (k, k2) ∈ M) (t : Ends M k2 n r) : Ends M k (n + 1) r
def Forest (M : List (Value × Value)) : Prop := ∀ k, ∃ n r, Ends M k n r
theorem Ends.last {M : List (Value × Value)} {k r : Value} {n : Nat} (h : Ends M k n r) : ∀ x ∈ M, x.1 ≠ r := by
  induction h with
  | stop h => exact h
  | next _ _ ih => exact ih
theorem one_of {M : List (Value × Value)} (hn : (M.map Prod.fst).Nodup) {k a b : Value} (h : (k, a) ∈ M) (h2 : (k, b) ∈ M) : a = b := (Prod.mk.inj (nodup_one M hn _ h _ h2 rfl)).2
/-- The way of a key is halved. -/
theorem ends_halve {M M2 : List (Value × Value)} (hn : (M.map Prod.fst).Nodup) {at1 nx af : Value} (h1 : (at1, nx) ∈ M) (h2 : (nx, af) ∈ M) (hp : Put M at1 af M2) : ∀ (n : Nat) (k r : Value), Ends M k n r → ∃ n2, n2 ≤ n ∧ Ends M2 k n2 r := by
  intro n
  induction n using Nat.strongRecOn with
  | ind n ih =>
    intro k r h
    cases h with
    | stop h =>
      refine ⟨0, Nat.le_refl _, Ends.stop fun x hx e => ?_⟩
      obtain ⟨x1, x2⟩ := x
      rcases (put_mem hn hp x1 x2).1 hx with ⟨e1, -⟩ | ⟨-, e1⟩
      · exact h _ h1 (e1.symm.trans e)
      · exact h _ e1 e
    | @next _ k2 _ m hk t =>
      by_cases e : k = at1
      · subst e
        obtain rfl := one_of hn hk h1
        cases t with
        | stop h => exact absurd rfl (h _ h2)
        | @next _ k3 _ m hk3 t =>
          obtain rfl := one_of hn hk3 h2
          obtain ⟨n2, hl, t2⟩ := ih m (by omega) _ _ t
          exact ⟨n2 + 1, by omega, Ends.next ((put_mem hn hp _ _).2 (Or.inl ⟨rfl, rfl⟩)) t2⟩
      · obtain ⟨n2, hl, t2⟩ := ih m (by omega) _ _ t
        exact ⟨n2 + 1, by omega, Ends.next ((put_mem hn hp _ _).2 (Or.inr ⟨e, hk⟩)) t2⟩
theorem forest_halve {M M2 : List (Value × Value)} (hn : (M.map Prod.fst).Nodup) {at1 nx af : Value} (h1 : (at1, nx) ∈ M) (h2 : (nx, af) ∈ M) (hp : Put M at1 af M2) (hF : Forest M) : Forest M2 := fun k => by
  obtain ⟨n, r, h⟩ := hF k
  obtain ⟨n2, -, h2⟩ := ends_halve hn h1 h2 hp n k r h
  exact ⟨n2, r, h2⟩
/-- An end leads on to another end. -/
theorem forest_unite {M M2 : List (Value × Value)} (hn : (M.map Prod.fst).Nodup) {a b : Value} (ha : ∀ x ∈ M, x.1 ≠ a) (hb : ∀ x ∈ M, x.1 ≠ b) (hne : a ≠ b) (hp : Put M a b M2) (hF : Forest M) : Forest M2 := fun k => by
  obtain ⟨n, r, h⟩ := hF k
  induction h with
  | @stop k h =>
    by_cases e : k = a
    · subst e
      refine ⟨1, b, Ends.next ((put_mem hn hp _ _).2 (Or.inl ⟨rfl, rfl⟩)) (Ends.stop fun x hx e => ?_)⟩
      obtain ⟨x1, x2⟩ := x
      rcases (put_mem hn hp x1 x2).1 hx with ⟨e1, -⟩ | ⟨-, e1⟩
      · exact hne (e1.symm.trans e)
      · exact hb _ e1 e
    · refine ⟨0, k, Ends.stop fun x hx e2 => ?_⟩
      obtain ⟨x1, x2⟩ := x
      rcases (put_mem hn hp x1 x2).1 hx with ⟨e1, -⟩ | ⟨-, e1⟩
      · exact e (e2.symm.trans e1)
      · exact h _ e1 e2
  | @next k k2 r n hk t ih =>
    obtain ⟨n2, r2, h2⟩ := ih
    exact ⟨n2 + 1, r2, Ends.next ((put_mem hn hp _ _).2 (Or.inr ⟨fun e => ha _ hk e, hk⟩)) h2⟩
theorem forest_nil : Forest [] := fun k => ⟨0, k, Ends.stop fun x h => by cases h⟩
end Go.Proofs.Ytmndlhbgacgnlaa

namespace Go.Proofs.Ytmndlhbgacgnlaa
open Go Go.RowKit

/-- A pointer to plain memory with a number. -/
def PlaceK (w : World) (v : Value) : Prop := ∃ (a : Addr) (n : Int), v = .agg #[.pointer (some a), .int .i64 n] ∧ FreeB w a.block
theorem eq_int {w : World} (a b : Int) (d : Nat) : (Op.equalIn (d + 1) 3 (.int .i64 a) (.int .i64 b)).run Try.prog w = .ok (decide (a = b)) w := by
  by_cases h : a = b <;> simp [Op.equalIn, run_underlying Try.underlying3, h]
theorem eq_place (w : World) {a c : Addr} {m n : Int} (ha : FreeB w a.block) (hc : FreeB w c.block) :
    (Op.equal 159 (.agg #[.pointer (some a), .int .i64 m]) (.agg #[.pointer (some c), .int .i64 n])).run Try.prog w = .ok (decide (a = c) && decide (m = n)) w := by
  obtain ⟨j, hj, -, hz, -⟩ := info_parts Try.infoEx
  have hz : j.size ≠ 0 := by omega
  have e1 : (Op.equalIn 9999 154 (.pointer (some a)) (.pointer (some c))).run Try.prog w = .ok (decide (a = c)) w := eq_ptr (P := Try.prog) (w := w) (tp := 154) Try.underlying154 hj hz ha hc 9998
  have e2 : (Op.equalIn 9999 3 (.int .i64 m) (.int .i64 n)).run Try.prog w = .ok (decide (m = n)) w := eq_int m n 9998
  have u := run_underlying (w := w) Try.underlying159
  have st : Try.prog.stoodInHeld 159 = false := by kernel_rfl
  have p0 : ∀ x y : Value, (part 154 #[x, y] 0).run Try.prog w = .ok x w := fun x y => by kernel_rfl
  have p1 : ∀ x y : Value, (part 3 #[x, y] 1).run Try.prog w = .ok y w := fun x y => by kernel_rfl
  rw [Op.equal, show Op.maxDepth = 9999 + 1 from rfl, Op.equalIn]
  by_cases h1 : a = c
  · rw [decide_eq_true h1] at e1 ⊢
    by_cases h2 : m = n
    · rw [decide_eq_true h2] at e2 ⊢
      simp [u, st, p0, p1, e1, e2]
    · rw [decide_eq_false h2] at e2 ⊢
      simp [u, st, p0, p1, e1, e2]
  · rw [decide_eq_false h1] at e1 ⊢
    simp [u, st, p0, e1]
theorem placeT (w : World) : KeyT Try.prog 159 w (PlaceK w) := by
  refine ⟨fun em v ⟨a, n, hv, _⟩ => ?_, fun x es hx hes => ?_, fun v ⟨a, n, hv, _⟩ => ?_⟩
  · subst hv
    have u := run_underlying (w := w) Try.underlying159
    have up := run_underlying (w := w) Try.underlying154
    have ui := run_underlying (w := w) Try.underlying3
    have p0 : ∀ x y : Value, (part 154 #[x, y] 0).run Try.prog w = .ok x w := fun x y => by kernel_rfl
    have p1 : ∀ x y : Value, (part 3 #[x, y] 1).run Try.prog w = .ok y w := fun x y => by kernel_rfl
    have c1 : (Instr.checkKey em 9999 154 (.pointer (some a))).run Try.prog w = .ok () w := by rw [show 9999 = 9998 + 1 from rfl, Instr.checkKey]; simp [up]
    have c2 : (Instr.checkKey em 9999 3 (.int .i64 n)).run Try.prog w = .ok () w := by rw [show 9999 = 9998 + 1 from rfl, Instr.checkKey]; simp [ui]
    rw [show 10000 = 9999 + 1 from rfl, Instr.checkKey]
    simp [u, p0, p1, c1, c2]
  · have h := find_asking (P := Try.prog) (k := 159) (w := w) (K := PlaceK w) (fun x y ⟨a, m, hx, h1⟩ ⟨c, n, hy, h2⟩ => ⟨decide (a = c) && decide (m = n), by rw [hx, hy]; exact eq_place w h1 h2, by rw [hx, hy]; simp⟩) hx es 0 hes
    have e := Go.run_findKey_eq (P := Try.prog) w (k := 159) (by kernel_rfl) x es
    rw [e]
    simpa using h
  · subst hv
    simp [Instr.keyThatStays, Instr.sameBits]

/-- Two addresses of which one leads to plain memory that no string shares. -/
theorem same_half {P : Program} {w : World} {a b : Addr} {v : Value} (ha : FreeB w a.block) (hb : w.cell? ⟨b.block, b.off, none⟩ = some v) : (sameAddr a b).run P w = .ok (decide (a = b)) w := by
  by_cases hbl : a.block = b.block
  · have : (a == b) = decide (a = b) := by by_cases h : a = b <;> simp [h]
    simp [sameAddr, hbl, this]
  · obtain ⟨⟨ca, ta, fa, hca⟩, hfa⟩ := ha
    have hne : a ≠ b := fun e => hbl (by rw [e])
    have h1 : ∀ o p, w.frozen? ⟨a.block, o, p⟩ = false := fun o p => frozen_off hfa _ rfl
    obtain ⟨cb, tb, fb, hcb, hsz⟩ : ∃ cb tb fb, w.heap[b.block]? = some (.cells cb tb fb) ∧ cb.size ≠ 0 := by
      unfold World.cell? at hb
      split at hb
      · rename_i cb tb fb he
        refine ⟨cb, tb, fb, he, fun h0 => ?_⟩
        simp [Array.getElem?_eq_none (xs := cb) (i := b.off) (by omega)] at hb
      · cases hb
    simp [sameAddr, hbl, h1, hca, hcb, noView, viewAt, World.shape?, mayBeOne, stringish, hne, hsz]
theorem eq_ptr_half {P : Program} {w : World} {tp te : TypeId} {j : TypeInfo} {a b : Addr} {v : Value} (hp : P.underlying tp = some (.pointer te)) (hte : P.info? te = some j) (hsz : j.size ≠ 0) (ha : FreeB w a.block) (hb : w.cell? ⟨b.block, b.off, none⟩ = some v) (d : Nat) :
    (Op.equalIn (d + 1) tp (.pointer (some a)) (.pointer (some b))).run P w = .ok (decide (a = b)) w := by
  simp [Op.equalIn, run_underlying hp, sizeOf, typeInfo, hte, hsz, same_half ha hb]
theorem eq_place_half (w : World) {a c : Addr} {m n : Int} {v : Value} (ha : FreeB w a.block) (hc : w.cell? ⟨c.block, c.off, none⟩ = some v) :
    (Op.equal 159 (.agg #[.pointer (some a), .int .i64 m]) (.agg #[.pointer (some c), .int .i64 n])).run Try.prog w = .ok (decide (a = c) && decide (m = n)) w := by
  obtain ⟨j, hj, -, hz, -⟩ := info_parts Try.infoEx
  have hz : j.size ≠ 0 := by omega
  have e1 : (Op.equalIn 9999 154 (.pointer (some a)) (.pointer (some c))).run Try.prog w = .ok (decide (a = c)) w := eq_ptr_half (P := Try.prog) (w := w) (tp := 154) Try.underlying154 hj hz ha hc 9998
  have e2 : (Op.equalIn 9999 3 (.int .i64 m) (.int .i64 n)).run Try.prog w = .ok (decide (m = n)) w := eq_int m n 9998
  have u := run_underlying (w := w) Try.underlying159
  have st : Try.prog.stoodInHeld 159 = false := by kernel_rfl
  have p0 : ∀ x y : Value, (part 154 #[x, y] 0).run Try.prog w = .ok x w := fun x y => by kernel_rfl
  have p1 : ∀ x y : Value, (part 3 #[x, y] 1).run Try.prog w = .ok y w := fun x y => by kernel_rfl
  rw [Op.equal, show Op.maxDepth = 9999 + 1 from rfl, Op.equalIn]
  by_cases h1 : a = c
  · rw [decide_eq_true h1] at e1 ⊢
    by_cases h2 : m = n
    · rw [decide_eq_true h2] at e2 ⊢
      simp [u, st, p0, p1, e1, e2]
    · rw [decide_eq_false h2] at e2 ⊢
      simp [u, st, p0, p1, e1, e2]
  · rw [decide_eq_false h1] at e1 ⊢
    simp [u, st, p0, e1]
end Go.Proofs.Ytmndlhbgacgnlaa

namespace Go.Proofs.Ytmndlhbgacgnlaa
open Go Go.RowKit

def headsEq (a b : Ex) : Bool := decide (a.kind = b.kind) && (decide (a.name = b.name) && decide (a.args.length = b.args.length))
set_option maxHeartbeats 1000000 in
theorem own_heads (k k2 : Int) (s s2 : ByteArray) (A A2 : Option Addr) (n m c c2 : Nat) (w : World) :
    Calls Try.prog 109 #[.agg #[.int .i64 k, .string s, .slice A n c], .agg #[.int .i64 k2, .string s2, .slice A2 m c2]] w (RetPost (.bool (decide (k = k2) && (decide (s = s2) && decide (n = m)))) w) := by
  have HL := Lib.hid (fun (o o2 : Obj) => ((Below.refl w.heap.size w).alloc (Nat.le_refl _) o).alloc (by simp) o2)
  by_cases hk : k = k2
  · have h1 : (k == k2) = true := by simp [hk]
    by_cases hs : s = s2
    · have h2 := beq_yes hs
      by_cases hq : n = m
      · have h3 : ((n : Int) == (m : Int)) = true := by simp [hq]
        have HR := Lib.hid (show (decide (k = k2) && (decide (s = s2) && decide (n = m))) = true by simp [hk, hs, hq])
        clear hk hs hq
        go_enter Try.func109, Try.ntmps109
        go_wp2_with fail
        go_ret
        exact ⟨by rw [HR.out]; try rfl, HL.out _ _⟩
      · have h3 : ((n : Int) == (m : Int)) = false := by simp; omega
        have HR := Lib.hid (show (decide (k = k2) && (decide (s = s2) && decide (n = m))) = false by simp [hk, hs, hq])
        clear hk hs hq
        go_enter Try.func109, Try.ntmps109
        go_wp2_with fail
        go_ret
        exact ⟨by rw [HR.out]; try rfl, HL.out _ _⟩
    · have h2 := beq_no hs
      have HR := Lib.hid (show (decide (k = k2) && (decide (s = s2) && decide (n = m))) = false by simp [hk, hs])
      clear hk hs
      go_enter Try.func109, Try.ntmps109
      go_wp2_with fail
      go_ret
      exact ⟨by rw [HR.out]; try rfl, HL.out _ _⟩
  · have h1 : (k == k2) = false := by simp [hk]
    have HR := Lib.hid (show (decide (k = k2) && (decide (s = s2) && decide (n = m))) = false by simp [hk])
    clear hk
    go_enter Try.func109, Try.ntmps109
    go_wp2_with fail
    go_ret
    exact ⟨by rw [HR.out]; try rfl, HL.out _ _⟩
set_option maxHeartbeats 1000000 in
theorem own_place (g o n c : Nat) (w : World) (hn : 0 < n) (hn2 : n ≤ 9223372036854775807) :
    Calls Try.prog 111 #[.slice (some ⟨g, o, none⟩) n c] w (RetPost (.agg #[.pointer (some ⟨g, o, none⟩), .int .i64 (n : Int)]) w) := by
  have HL := Lib.hid (fun (o : Obj) => (Below.refl w.heap.size w).alloc (Nat.le_refl _) o)
  have hn3 : (0 : Int) < (n : Int) := by omega
  obtain ⟨i0, hi, hz0, hz1, hz2⟩ := info_parts Try.infoEx
  go_enter Try.func111, Try.ntmps111
  go_wp2_with fail
  refine bodyPost_ret (v := .agg #[.pointer (some ⟨g, o, none⟩), .int .i64 (n : Int)]) (by simp [results, Try.results111, go_sem]) rfl ?_
  exact ⟨rfl, HL.out _⟩
end Go.Proofs.Ytmndlhbgacgnlaa

namespace Go.Proofs.Ytmndlhbgacgnlaa
open Go Go.RowKit Go.ChangeMaps Go.WideMaps Go.WideElems

/-- Block b of w is a map with the entries L, each key once, each entry with a stamp of its own. -/
def MapSt (w : World) (b : Nat) (L : List (Value × Value)) : Prop :=
  ∃ es clock, w.heap[b]? = some (.map es clock) ∧ es.toList.map (fun e => (e.key, e.val)) = L ∧ MapKept.Stamped es clock
theorem MapSt.is {w : World} {b : Nat} {L : List (Value × Value)} (h : MapSt w b L) : MapIs w b L := by
  obtain ⟨es, clock, hb, hl, hs⟩ := h
  exact ⟨es, clock, hb, hl, by rw [← hl, List.map_map]; exact hs.2.2⟩
theorem MapSt.nodup {w : World} {b : Nat} {L : List (Value × Value)} (h : MapSt w b L) : (L.map Prod.fst).Nodup := by
  obtain ⟨_, _, _, _, h⟩ := h.is
  exact h
theorem MapSt.on {w w2 : World} {b : Nat} {L : List (Value × Value)} (h : MapSt w b L) (hk : w2.heap[b]? = w.heap[b]?) : MapSt w2 b L := by
  obtain ⟨es, clock, hb, r⟩ := h
  exact ⟨es, clock, hk.trans hb, r⟩
theorem MapSt.made (w : World) : MapSt (w.alloc (.map #[] 0)) w.heap.size [] := ⟨#[], 0, (MapKept.heap_alloc w _).1, rfl, by simp [MapKept.Stamped]⟩

section
variable {P : Program} {w : World} {k e t : TypeId} {K : Value → Prop} {b : Nat} {L : List (Value × Value)}
theorem MapSt.update (h : MapSt w b L) (hK : KeyT P k w K) (ht : P.underlying t = some (.map k e)) {key val : Value} (hkey : K key) (hL : ∀ x ∈ L, K x.1) :
    ∃ w' L2, (Instr.mapUpdate t (.map (some b)) key val).run P w = .ok () w' ∧ MapSt w' b L2 ∧ Put L key val L2 ∧ w.grownBy w' (some b) := by
  obtain ⟨es, clock, hb, rfl, hst⟩ := h
  obtain ⟨s1, s2, hn⟩ := hst
  have hes : ∀ e ∈ es.toList, K e.key := fun e he => hL _ (List.mem_map_of_mem he)
  have grown : ∀ o : Obj, w.grownBy (setBlock w b o) (some b) := fun o => ⟨rfl, rfl, rfl, by simp [setBlock], fun i _ hi => heap_setBlock_other hb _ (fun e => hi (by rw [e]))⟩
  rcases hK.find key es.toList hkey hes with ⟨h1, h2⟩ | ⟨j, e0, h1, h2, h3⟩
  · have hne : ∀ x ∈ es.toList.map (fun e => (e.key, e.val)), x.1 ≠ key := fun x hx => by
      obtain ⟨e1, he1, rfl⟩ := List.mem_map.1 hx
      exact h2 e1 he1
    refine ⟨setBlock w b (.map (es.push ⟨key, val, clock⟩) (clock + 1)), es.toList.map (fun e => (e.key, e.val)) ++ [(key, val)], ?_, ⟨_, _, heap_setBlock_same hb _, by simp, ?_, ?_, ?_⟩, Or.inl ⟨hne, rfl⟩, grown _⟩
    · simp [Instr.mapUpdate, run_underlying ht, MapKept.run_getObj_map hb, hK.check false key hkey, h1, MapKept.run_setObj_map _ hb, Result.andThen, setBlock]
    · intro x hx
      rw [Array.toList_push] at hx
      rcases List.mem_append.1 hx with hx | hx
      · have := s1 x hx; omega
      · rw [List.mem_singleton] at hx; subst hx; exact Nat.lt_succ_self _
    · rw [Array.toList_push, List.map_append, List.nodup_append]
      refine ⟨s2, by simp, fun a ha c hc e => ?_⟩
      simp only [List.map_cons, List.map_nil, List.mem_singleton] at hc
      obtain ⟨x, hx, rfl⟩ := List.mem_map.1 ha
      have := s1 x hx
      omega
    · rw [Array.toList_push, List.map_append, List.nodup_append]
      refine ⟨hn, by simp, fun a ha c hc e => ?_⟩
      simp only [List.map_cons, List.map_nil, List.mem_singleton] at hc
      obtain ⟨x, hx, rfl⟩ := List.mem_map.1 ha
      exact h2 x hx (e.trans hc)
  · have hj : es[j]? = some e0 := by simpa using h2
    have hlist : (es.modify j (fun e' => { e' with key := key, val := val })).toList = es.toList.set j { e0 with key := key, val := val } := by rw [Array.toList_modify, modify_eq_set _ _ _ _ h2]
    obtain ⟨A, B, hAB, hA⟩ : ∃ A B, es.toList = A ++ e0 :: B ∧ A.length = j := by
      have hl := (List.getElem?_eq_some_iff.1 h2).1
      refine ⟨es.toList.take j, es.toList.drop (j + 1), ?_, by rw [List.length_take]; omega⟩
      rw [← (List.getElem?_eq_some_iff.1 h2).2, ← List.drop_eq_getElem_cons hl, List.take_append_drop]
    have hset : es.toList.set j { e0 with key := key, val := val } = A ++ { e0 with key := key, val := val } :: B := by
      rw [hAB, List.set_append_right _ _ (by omega), hA, Nat.sub_self, List.set_cons_zero]
    refine ⟨setBlock w b (.map (es.modify j (fun e' => { e' with key := key, val := val })) clock), A.map (fun e => (e.key, e.val)) ++ (key, val) :: B.map (fun e => (e.key, e.val)), ?_, ⟨_, _, heap_setBlock_same hb _, by rw [hlist, hset]; simp, ?_, ?_, ?_⟩, Or.inr ⟨A.map (fun e => (e.key, e.val)), e0.val, B.map (fun e => (e.key, e.val)), by rw [hAB]; simp [h3], rfl⟩, grown _⟩
    · simp [Instr.mapUpdate, run_underlying ht, MapKept.run_getObj_map hb, hK.check false key hkey, h1, hj, h3, hK.stays key hkey, MapKept.run_setObj_map _ hb, Result.andThen, setBlock]
    · intro x hx
      rw [hlist, hset] at hx
      rcases List.mem_append.1 hx with hx | hx
      · exact s1 x (by rw [hAB]; simp [hx])
      · rcases List.mem_cons.1 hx with rfl | hx
        · exact s1 e0 (by rw [hAB]; simp)
        · exact s1 x (by rw [hAB]; simp [hx])
    · rw [hlist, hset]
      rw [hAB] at s2
      simpa using s2
    · rw [hlist, hset]
      rw [hAB] at hn
      simpa [h3] using hn
/-- The entry of a key that is there, and the store at it, in an assignment of several. -/
theorem MapSt.entry (h : MapSt w b L) (hK : KeyT P k w K) (ht : P.underlying t = some (.map k e)) {key v0 : Value} (hkey : K key) (hL : ∀ x ∈ L, K x.1) (hv : (key, v0) ∈ L) :
    ∃ st : Nat, (Instr.mapEntry t (.map (some b)) key).run P w = .ok (.tuple #[v0, .int .i64 (st : Int)]) w ∧
      ∀ val, ∃ w' L2, (Instr.entryStore t (.map (some b)) (.int .i64 (st : Int)) val).run P w = .ok () w' ∧ MapSt w' b L2 ∧ Put L key val L2 ∧ w.grownBy w' (some b) := by
  obtain ⟨es, clock, hb, rfl, hst⟩ := id h
  obtain ⟨s1, s2, hn⟩ := hst
  have hes : ∀ e ∈ es.toList, K e.key := fun e he => hL _ (List.mem_map_of_mem he)
  obtain ⟨x0, hx0, hx1⟩ := List.mem_map.1 hv
  rcases hK.find key es.toList hkey hes with ⟨h1, h2⟩ | ⟨j, e0, h1, h2, h3⟩
  · exact absurd (Prod.mk.inj hx1).1 (h2 x0 hx0)
  · have hj : es[j]? = some e0 := by simpa using h2
    have hv0 : v0 = e0.val := (Prod.mk.inj (nodup_one _ h.nodup _ hv _ (List.mem_map_of_mem (List.mem_of_getElem? h2)) h3.symm)).2
    have hsame : es.modify j (fun e => { e with key := key }) = es := by
      apply Array.ext'
      rw [Array.toList_modify, modify_eq_set _ _ _ _ h2]
      have : ({ e0 with key := key } : MapEntry) = e0 := by rw [← h3]
      rw [this]
      exact set_self _ _ _ h2
    have hblk : setBlock w b (.map es clock) = w := by
      unfold setBlock
      have hbl := (Array.getElem?_eq_some_iff.1 hb).1
      have : w.heap.setIfInBounds b (.map es clock) = w.heap := by
        apply Array.ext'
        rw [Array.toList_setIfInBounds]
        exact set_self _ _ _ (by simpa using hb)
      cases w
      simp only at this ⊢
      rw [this]
    have hidx : es.findIdx? (fun e => ((e.born : Nat) : Int) == ((e0.born : Nat) : Int)) = some j := by
      rw [findIdx_arr]
      exact findIdx_born s2 h2
    refine ⟨e0.born, ?_, fun val => ?_⟩
    · rw [hv0]
      have := hblk
      unfold setBlock at this
      simp [Instr.mapEntry, run_underlying ht, MapKept.run_getObj_map hb, hK.check false key hkey, h1, hj, h3, hK.stays key hkey, hsame, MapKept.run_setObj_map _ hb, Result.andThen, this, goInt]
    · obtain ⟨w', L2, hrun, r1, r2, r3⟩ := h.update (val := val) hK ht hkey hL
      refine ⟨w', L2, ?_, r1, r2, r3⟩
      rw [← hrun]
      have hmod : es.modify j (fun e => { e with val := val }) = es.modify j (fun e' => { e' with key := key, val := val }) := by
        apply Array.ext'
        rw [Array.toList_modify, Array.toList_modify, modify_eq_set _ _ _ _ h2, modify_eq_set _ _ _ _ h2, ← h3]
      simp [Instr.entryStore, Instr.mapUpdate, run_underlying ht, MapKept.run_getObj_map hb, asInt, asIntOf, hK.check false key hkey, h1, hj, h3, hK.stays key hkey, hidx, hmod, MapKept.run_setObj_map _ hb, Result.andThen]
theorem st_put {o : Oper} (hg : o.guard = none) {ops : Array Oper} {rest : List Oper} {a : Act} {Q : Exit → Act → World → Prop} (m x v : Operand) (t : TypeId) (hop : o.op = Op.mapUpdate t m x v) (k e : TypeId) (ht : P.underlying t = some (.map k e)) (K : Value → Prop) (hK : KeyT P k w K) (b : Nat) (L : List (Value × Value)) (hm : a.eval m = .map (some b)) (h : MapSt w b L) (key val : Value) (hx : a.eval x = key) (hv : a.eval v = val) (hkey : K key) (hL : ∀ x ∈ L, K x.1)
    (hQ : ∀ w' L2, MapSt w' b L2 → Put L key val L2 → w.grownBy w' (some b) → wpList P ops Q rest (a.put o.dst undef) w') : wpList P ops Q (o :: rest) a w := by
  refine wpList_plain hg fun K' hK' => ?_
  obtain ⟨w', L2, hrun, r1, r2, r3⟩ := h.update (val := val) hK ht hkey hL
  unfold Oper.wp
  simp [execOp, hop, hm, hx, hv, hrun, Result.andThen]
  exact hK' _ _ (hQ w' L2 r1 r2 r3)
end
end Go.Proofs.Ytmndlhbgacgnlaa

namespace Go.Proofs.Ytmndlhbgacgnlaa
open Go Go.RowKit

/-- Left at its end alone. -/
def onlyR (R : Act → World → Prop) : Exit → Act → World → Prop
  | .normal, a, W => R a W
  | _, _, _ => False
/-- The orders of a piece meet again. -/
theorem cut_reg {P : Program} {c : Code} {K : Act → World → Prop} {Q : Exit → Act → World → Prop} {a : Act} {w : World} (R : Act → World → Prop) (h : c.wp P (onlyR R) a w) (hK : ∀ a W, R a W → K a W) : c.wp P (Exit.then K Q) a w :=
  wpIn_wide.1 (wpIn_mono (wpIn_wide.2 h : c.wpIn Fence.wide 0 P (onlyR R) a w) (fun e a W hq => by
    cases e with
    | normal => exact hK a W hq
    | exit id => exact hq.elim
    | goto t => exact hq.elim
    | ret => exact hq.elim
    | panic c => exact hq.elim
    | outgrown => exact hq.elim))

/-- The record of what is known to be equal. -/
def EqBox (W : World) (kq : Nat) (N : Int) (mo : Option Nat) : Prop := W.heap[kq]? = some (.cells #[.int .i64 N, .map mo] 97 (0, 0))
theorem EqBox.lt {W : World} {kq : Nat} {N : Int} {mo : Option Nat} (h : EqBox W kq N mo) : kq < W.heap.size := (Array.getElem?_eq_some_iff.1 h).1
theorem EqBox.cells {W : World} {kq : Nat} {N : Int} {mo : Option Nat} (h : EqBox W kq N mo) : W.cell? ⟨kq, 0, none⟩ = some (.int .i64 N) ∧ W.cell? ⟨kq, 1, none⟩ = some (.map mo) ∧ ∀ o, W.frozen? ⟨kq, o, none⟩ = false := by
  unfold EqBox at h
  exact ⟨by simp [World.cell?, h], by simp [World.cell?, h], fun o => by simp [World.frozen?, h]⟩
theorem EqBox.on {W W2 : World} {kq : Nat} {N : Int} {mo : Option Nat} (h : EqBox W kq N mo) (hk : W2.heap[kq]? = W.heap[kq]?) : EqBox W2 kq N mo := hk.trans h
/-- A box that holds a place. -/
def PlBox (W : World) (b : Nat) (u v : Value) : Prop := W.heap[b]? = some (.cells #[u, v] 159 (0, 0))
theorem PlBox.lt {W : World} {b : Nat} {u v : Value} (h : PlBox W b u v) : b < W.heap.size := (Array.getElem?_eq_some_iff.1 h).1
theorem PlBox.cells {W : World} {b : Nat} {u v : Value} (h : PlBox W b u v) : W.cell? ⟨b, 0, none⟩ = some u ∧ W.cell? ⟨b, 1, none⟩ = some v ∧ ∀ o, W.frozen? ⟨b, o, none⟩ = false := by
  unfold PlBox at h
  exact ⟨by simp [World.cell?, h], by simp [World.cell?, h], fun o => by simp [World.frozen?, h]⟩
theorem PlBox.on {W W2 : World} {b : Nat} {u v : Value} (h : PlBox W b u v) (hk : W2.heap[b]? = W.heap[b]?) : PlBox W2 b u v := hk.trans h
theorem PlBox.set {W : World} {b : Nat} {u v : Value} (h : PlBox W b u v) (u2 v2 : Value) : PlBox ((W.setCell ⟨b, 0, none⟩ u2).setCell ⟨b, 1, none⟩ v2) b u2 v2 := by
  unfold PlBox at h ⊢
  simp [World.setCell, Array.getElem?_modify, h]
section
variable {wo : World} {G : List Nat}
/-- Every way of the map joins what is joined. -/
def Ent (E : List (Pl wo G × Pl wo G)) (M : List (Value × Value)) : Prop := ∀ x ∈ M, ∃ u v : Pl wo G, x = (u.key, v.key) ∧ Conn E u v
theorem Ent.more {E E2 : List (Pl wo G × Pl wo G)} {M : List (Value × Value)} (h : Ent E M) (hE : ∀ p ∈ E, p ∈ E2) : Ent E2 M := fun x hx => by
  obtain ⟨u, v, e, c⟩ := h x hx
  exact ⟨u, v, e, c.more hE⟩
theorem Ent.put {E : List (Pl wo G × Pl wo G)} {M M2 : List (Value × Value)} (h : Ent E M) (hn : (M.map Prod.fst).Nodup) {u v : Pl wo G} (hc : Conn E u v) (hp : Put M u.key v.key M2) : Ent E M2 := fun x hx => by
  obtain ⟨x1, x2⟩ := x
  rcases (put_mem hn hp x1 x2).1 hx with ⟨rfl, rfl⟩ | ⟨-, hx⟩
  · exact ⟨u, v, rfl, hc⟩
  · exact h _ hx
theorem Ent.one {E : List (Pl wo G × Pl wo G)} {M : List (Value × Value)} (h : Ent E M) {p : Pl wo G} {v : Value} (hv : (p.key, v) ∈ M) : ∃ q : Pl wo G, v = q.key ∧ Conn E p q := by
  obtain ⟨u, q, e, c⟩ := h _ hv
  obtain ⟨e1, e2⟩ := Prod.mk.inj e
  exact ⟨q, e2, (Conn.same (Pl.det e1)).trans c⟩
theorem Ent.keys {E : List (Pl wo G × Pl wo G)} {M : List (Value × Value)} (h : Ent E M) {w : World} (hfr : ∀ p : Pl wo G, FreeB w p.adr.block) : ∀ x ∈ M, PlaceK w x.1 := fun x hx => by
  obtain ⟨u, v, rfl, -⟩ := h x hx
  exact ⟨u.adr, _, rfl, hfr u⟩
theorem Pl.free {w : World} (hfr : ∀ p : Pl wo G, FreeB wo p.adr.block) (hb : Below wo.heap.size wo w) (p : Pl wo G) : FreeB w p.adr.block := (hfr p).on (hb.block _ (hfr p).lt)
/-- What endOf leaves. -/
def EndPost (E : List (Pl wo G × Pl wo G)) (P : Pl wo G) (mb : Nat) (M : List (Value × Value)) (w : World) (r : Ending) (w2 : World) : Prop :=
  ∃ (R : Pl wo G) (M2 : List (Value × Value)), r = .returned R.key ∧ Conn E P R ∧ MapSt w2 mb M2 ∧ Ent E M2 ∧ Forest M2 ∧ (∀ x ∈ M2, x.1 ≠ R.key) ∧ (∀ k, (∀ x ∈ M, x.1 ≠ k) → ∀ x ∈ M2, x.1 ≠ k) ∧ Fr [mb] w w2
/-- What the loop holds. -/
structure En (w : World) (E : List (Pl wo G × Pl wo G)) (P : Pl wo G) (kq mb : Nat) (N : Int) (M : List (Value × Value)) (Q : Pl wo G) (M2 : List (Value × Value)) (wr : World) : Prop where
  fr : Fr [mb] w wr
  low : Below wo.heap.size wo wr
  q : EqBox wr kq N (some mb)
  ab : PlBox wr w.heap.size (.pointer (some Q.adr)) (.int .i64 (Q.exs.length : Int))
  rb : PlBox wr (w.heap.size + 1) (.pointer none) (.int .i64 0)
  map : MapSt wr mb M2
  ent : Ent E M2
  forest : Forest M2
  keys : ∀ k, (∀ x ∈ M, x.1 ≠ k) → ∀ x ∈ M2, x.1 ≠ k
  conn : Conn E P Q
  ml : mb < w.heap.size
  kl : kq < w.heap.size
theorem En.start {w : World} {E : List (Pl wo G × Pl wo G)} {P : Pl wo G} {kq mb : Nat} {N : Int} {M : List (Value × Value)} (hq : EqBox w kq N (some mb)) (hm : MapSt w mb M) (he : Ent E M) (hF : Forest M) (hlow : Below wo.heap.size wo w) :
    En w E P kq mb N M P M ((w.alloc (.cells #[.pointer (some P.adr), .int .i64 (P.exs.length : Int)] 159)).alloc (.cells #[.pointer none, .int .i64 0] 159)) := by
  have hb : Below w.heap.size w ((w.alloc (.cells #[.pointer (some P.adr), .int .i64 (P.exs.length : Int)] 159)).alloc (.cells #[.pointer none, .int .i64 0] 159)) := ((Below.refl _ w).alloc (Nat.le_refl _) _).alloc (by simp) _
  have hml := hm.is.lt
  refine ⟨Fr.of_below hb, hlow.trans (hb.mono hlow.size), hq.on (hb.block _ hq.lt), ?_, ?_, hm.on (hb.block _ hml), he, hF, fun k h => h, Conn.same rfl, hml, hq.lt⟩
  · exact (Below.heap_alloc _ _ _ (by simp)).trans (World.alloc_heap_new w _)
  · have := World.alloc_heap_new (w.alloc (.cells #[.pointer (some P.adr), .int .i64 (P.exs.length : Int)] 159)) (.cells #[.pointer none, .int .i64 0] 159)
    rw [World.size_alloc] at this
    exact this
end
theorem zeroPl (w : World) : (zeroValue 159).run Try.prog w = .ok (.agg #[.pointer none, .int .i64 0]) w := by kernel_rfl
theorem look_all {wo : World} {G : List Nat} {E : List (Pl wo G × Pl wo G)} {mb : Nat} {M : List (Value × Value)} {wr : World} (hm : MapSt wr mb M) (he : Ent E M) (hlow : Below wo.heap.size wo wr) (hfr : ∀ p : Pl wo G, FreeB wo p.adr.block) (R : Pl wo G) :
    ∃ v has, Hits M R.key (.agg #[.pointer none, .int .i64 0]) v has ∧ ∀ X, Below wr.heap.size wr X → (Instr.lookup 95 (.map (some mb)) R.key true).run Try.prog X = .ok (.tuple #[v, .bool has]) X := by
  have one : ∀ X, Below wr.heap.size wr X → ∃ v has, Hits M R.key (.agg #[.pointer none, .int .i64 0]) v has ∧ (Instr.lookup 95 (.map (some mb)) R.key true).run Try.prog X = .ok (.tuple #[v, .bool has]) X := fun X hX => by
    have hfX := Pl.free hfr (hlow.trans (hX.mono hlow.size))
    obtain ⟨v, has, h1, h2⟩ := (hm.on (hX.block _ hm.is.lt)).is.look (placeT X) Try.underlying95 (zeroPl X) (key := R.key) ⟨R.adr, _, rfl, hfX R⟩ (he.keys hfX)
    exact ⟨v, has, h2, by simpa using h1 true⟩
  obtain ⟨v, has, h1, h2⟩ := one wr (Below.refl _ _)
  refine ⟨v, has, h1, fun X hX => ?_⟩
  obtain ⟨v', has', h3, h4⟩ := one X hX
  obtain ⟨rfl, rfl⟩ := Hits.uniq hm.nodup h1 h3
  exact h4
set_option maxRecDepth 100000 in
set_option maxHeartbeats 4000000 in
theorem own_end {wo : World} {G : List Nat} (E : List (Pl wo G × Pl wo G)) (P : Pl wo G) (kq mb : Nat) (N : Int) (M : List (Value × Value)) (w : World) (hq : EqBox w kq N (some mb)) (hm : MapSt w mb M) (he : Ent E M) (hF : Forest M) (hlow : Below wo.heap.size wo w) (hmb : wo.heap.size ≤ mb) (hfr : ∀ p : Pl wo G, FreeB wo p.adr.block) :
    Calls Try.prog 147 #[.pointer (some ⟨kq, 0, none⟩), P.key] w (EndPost E P mb M w) := by
  have HST := Lib.hid (En.start (P := P) hq hm he hF hlow)
  obtain ⟨n0, r0, hn0⟩ := hF P.key
  have HN0 := Lib.hid hn0
  have HFR := Lib.hid hfr
  have HMB := Lib.hid hmb
  obtain ⟨PA, hPA⟩ : ∃ z, z = P.adr := ⟨_, rfl⟩
  obtain ⟨PL, hPL⟩ : ∃ z, z = P.exs.length := ⟨_, rfl⟩
  have hkey : P.key = .agg #[.pointer (some PA), .int .i64 (PL : Int)] := by rw [hPA, hPL]; rfl
  rw [hkey]
  rw [← hPA, ← hPL] at HST
  have HPA := Lib.hid hPA
  have HPL := Lib.hid hPL
  clear hq hm he hF hlow hn0 hfr hmb hkey hPA hPL
  go_enter Try.func147, Try.ntmps147
  go_wp2_with fail
  go_loopg [5, 6, 7, 8] n0 (fun gk l5 l6 l7 l8 wr => ∃ (Q : Pl wo G) (M2 : List (Value × Value)) (r : Value), Hid (Ends M2 Q.key gk r) ∧ Hid (En w E P kq mb N M Q M2 wr))
  case atStart => exact ⟨P, M, r0, HN0, HST⟩
  case round =>
    obtain ⟨Q, M2, r, HE, HQ⟩ := hrel
    obtain ⟨QA, hQA⟩ : ∃ z, z = Q.adr := ⟨_, rfl⟩
    obtain ⟨QL, hQL⟩ : ∃ z, z = Q.exs.length := ⟨_, rfl⟩
    have hkQ : Q.key = .agg #[.pointer (some QA), .int .i64 (QL : Int)] := by rw [hQA, hQL]; rfl
    have hab := HQ.out.ab
    rw [← hQA, ← hQL] at hab
    obtain ⟨v, has, hhit, hrun⟩ := look_all HQ.out.map HQ.out.ent HQ.out.low HFR.out Q
    rw [hkQ] at hrun
    have HS := Lib.hid (show ∀ X, Below wr.heap.size wr X → X.cell? ⟨kq, 1, none⟩ = some (.map (some mb)) ∧ X.cell? ⟨w.heap.size, 0, none⟩ = some (.pointer (some QA)) ∧ X.cell? ⟨w.heap.size, 1, none⟩ = some (.int .i64 (QL : Int)) ∧ (Instr.lookup 95 (.map (some mb)) (.agg #[.pointer (some QA), .int .i64 (QL : Int)]) true).run Try.prog X = .ok (.tuple #[v, .bool has]) X from fun X hX =>
      ⟨(HQ.out.q.on (hX.block _ HQ.out.q.lt)).cells.2.1, (hab.on (hX.block _ hab.lt)).cells.1, (hab.on (hX.block _ hab.lt)).cells.2.1, hrun X hX⟩)
    have HAB := Lib.hid hab
    have HKQ := Lib.hid hkQ
    have HHIT := Lib.hid hhit
    clear hQA hQL hkQ hab hhit hrun
    obtain ⟨po, pl, rfl⟩ : ∃ (po : Option Addr) (pl : Int), v = .agg #[.pointer po, .int .i64 pl] := by
      rcases HHIT.out with ⟨h, -⟩ | ⟨-, h, -⟩
      · obtain ⟨q, rfl, -⟩ := HQ.out.ent.one h
        exact ⟨_, _, rfl⟩
      · exact ⟨_, _, h⟩
    go_wp2_with fail
    refine cut_reg (fun a W => a = { tmps := #[.pointer (some ⟨kq, 0, none⟩), .agg #[.pointer (some PA), .int .i64 (PL : Int)], undef, .pointer (some ⟨w.heap.size, 0, none⟩), .pointer (some ⟨w.heap.size + 1, 0, none⟩), .pointer (some ⟨wr.heap.size, 0, none⟩), .bool has, u7, u8, .tuple #[.agg #[.pointer po, .int .i64 pl], .bool has], .pointer (some ⟨kq, 0, none⟩), .pointer (some ⟨kq, 0, none⟩), .pointer (some ⟨kq, 1, none⟩), .map (some mb), .agg #[.pointer (some QA), .int .i64 (QL : Int)], .tuple #[.agg #[.pointer po, .int .i64 pl], .bool has], .agg #[.pointer po, .int .i64 pl], .bool has, u18, u19, u20, u21, u22, u23, u24, u25, u26, u27, u28, u29, u30, u31, u32, u33, u34, u35, u36, u37, u38, u39, u40], defers := [] } ∧ W = (wr.alloc (.cells #[.pointer po, .int .i64 pl] 159)).drew) ?_ ?_
    · go_region_held3 (fun X => X.cell? ⟨kq, 1, none⟩ = some (.map (some mb)) ∧ X.cell? ⟨w.heap.size, 0, none⟩ = some (.pointer (some QA)) ∧ X.cell? ⟨w.heap.size, 1, none⟩ = some (.int .i64 (QL : Int)) ∧ (Instr.lookup 95 (.map (some mb)) (.agg #[.pointer (some QA), .int .i64 (QL : Int)]) true).run Try.prog X = .ok (.tuple #[.agg #[.pointer po, .int .i64 pl], .bool has]) X)
        (first
        | exact HS.out _ ((Below.refl _ _).drew)
        | exact HS.out _ ((Below.refl _ _).drew.alloc (Nat.le_refl _) _))
        (fail)
      all_goals exact ⟨rfl, rfl⟩
    rintro _ _ ⟨rfl, rfl⟩
    obtain ⟨Wa, hWa⟩ : ∃ W, W = (wr.alloc (.cells #[.pointer po, .int .i64 pl] 159)).drew := ⟨_, rfl⟩
    rw [← hWa]
    have HLA := Lib.hid (show Below wr.heap.size wr Wa by rw [hWa]; exact ((Below.refl _ _).alloc (Nat.le_refl _) _).drew)
    have HNB := Lib.hid (show PlBox Wa wr.heap.size (.pointer po) (.int .i64 pl) by rw [hWa]; exact World.alloc_heap_new wr _)
    have HSZ := Lib.hid (show Wa.heap.size = wr.heap.size + 1 by rw [hWa]; simp)
    have hab2 := HAB.out.on (HLA.out.block _ HAB.out.lt)
    have hrb2 := HQ.out.rb.on (HLA.out.block _ HQ.out.rb.lt)
    obtain ⟨a0, a1, af⟩ := hab2.cells
    obtain ⟨n0', n1', nf⟩ := HNB.out.cells
    obtain ⟨b0, b1, bf⟩ := hrb2.cells
    have hablt := hab2.lt
    have hrblt := hrb2.lt
    have hnblt := HNB.out.lt
    clear hWa
    cases has
    · obtain ⟨hno, hv⟩ : (∀ x ∈ M2, x.1 ≠ Q.key) ∧ (.agg #[.pointer po, .int .i64 pl] : Value) = .agg #[.pointer none, .int .i64 0] := by
        rcases HHIT.out with ⟨-, h⟩ | ⟨h1, h2, -⟩
        · cases h
        · exact ⟨h1, h2⟩
      have HNO := Lib.hid hno
      clear hno hv
      go_wp2_with fail
      have hfin := hrb2.set (.pointer (some QA)) (.int .i64 (QL : Int))
      obtain ⟨W2, hW2⟩ : ∃ W, W = (Wa.setCell ⟨w.heap.size + 1, 0, none⟩ (.pointer (some QA))).setCell ⟨w.heap.size + 1, 1, none⟩ (.int .i64 (QL : Int)) := ⟨_, rfl⟩
      rw [← hW2] at hfin ⊢
      have hf2 : Fr [w.heap.size + 1] Wa W2 := by rw [hW2]; exact (Fr.set _ _ _ (by simp)).trans (Fr.set (S := [w.heap.size + 1]) _ _ _ (by simp)) (fun x h => Or.inl h)
      obtain ⟨f0, f1, -⟩ := hfin.cells
      refine bodyPost_ret (v := .agg #[.pointer (some QA), .int .i64 (QL : Int)]) (by simp [results, Try.results147, go_sem, f0, f1]) rfl ?_
      have hml := HQ.out.ml
      have hls := HLA.out.size
      have hwl := HAB.out.lt
      refine ⟨Q, M2, by rw [HKQ.out], HQ.out.conn, HQ.out.map.on ((hf2.block _ (by omega) (by simp; omega)).trans (HLA.out.block _ (by omega))), HQ.out.ent, HQ.out.forest, HNO.out, HQ.out.keys, ?_⟩
      exact (HQ.out.fr.trans (Fr.of_below (S := [mb]) HLA.out) (fun x h => Or.inl h)).trans hf2 (fun x h => by simp at h; right; omega)
    · obtain ⟨V, hV1, hV2, hV3⟩ : ∃ V : Pl wo G, (.agg #[.pointer po, .int .i64 pl] : Value) = V.key ∧ (Q.key, V.key) ∈ M2 ∧ Conn E Q V := by
        rcases HHIT.out with ⟨h, -⟩ | ⟨-, -, h⟩
        · obtain ⟨q, e, c⟩ := HQ.out.ent.one h
          exact ⟨q, e, by rw [← e]; exact h, c⟩
        · cases h
      obtain ⟨VA, hVA⟩ : ∃ z, z = V.adr := ⟨_, rfl⟩
      obtain ⟨VL, hVL⟩ : ∃ z, z = V.exs.length := ⟨_, rfl⟩
      have hkV : V.key = .agg #[.pointer (some VA), .int .i64 (VL : Int)] := by rw [hVA, hVL]; rfl
      obtain ⟨rfl, rfl⟩ : po = some VA ∧ pl = (VL : Int) := by
        rw [hkV] at hV1
        simp only [Value.agg.injEq, Array.mk.injEq, List.cons.injEq, Value.pointer.injEq, Value.int.injEq, and_true, true_and] at hV1
        exact hV1
      have HV2 := Lib.hid hV2
      have HV3 := Lib.hid hV3
      have HKV := Lib.hid hkV
      have HMA := Lib.hid (HQ.out.map.on (HLA.out.block _ HQ.out.map.is.lt))
      have HLOA := Lib.hid (HQ.out.low.trans (HLA.out.mono HQ.out.low.size))
      have HVAL := Lib.hid (And.intro hVA hVL)
      clear hV1 hV2 hV3 hVA hVL
      obtain ⟨v2, has2, hhit2, hrun2⟩ := look_all HMA.out HQ.out.ent HLOA.out HFR.out V
      rw [hkV] at hrun2
      obtain ⟨po2, pl2, rfl⟩ : ∃ (po : Option Addr) (pl : Int), v2 = .agg #[.pointer po, .int .i64 pl] := by
        rcases hhit2 with ⟨h, -⟩ | ⟨-, h, -⟩
        · obtain ⟨q, rfl, -⟩ := HQ.out.ent.one h
          exact ⟨_, _, rfl⟩
        · exact ⟨_, _, h⟩
      have HS2 := Lib.hid (show ∀ X, Below Wa.heap.size Wa X → X.cell? ⟨kq, 1, none⟩ = some (.map (some mb)) ∧ X.cell? ⟨wr.heap.size, 0, none⟩ = some (.pointer (some VA)) ∧ X.cell? ⟨wr.heap.size, 1, none⟩ = some (.int .i64 (VL : Int)) ∧ (Instr.lookup 95 (.map (some mb)) (.agg #[.pointer (some VA), .int .i64 (VL : Int)]) true).run Try.prog X = .ok (.tuple #[.agg #[.pointer po2, .int .i64 pl2], .bool has2]) X from fun X hX =>
        ⟨(HQ.out.q.on ((hX.block _ (Nat.lt_of_lt_of_le HQ.out.q.lt HLA.out.size)).trans (HLA.out.block _ HQ.out.q.lt))).cells.2.1, (HNB.out.on (hX.block _ HNB.out.lt)).cells.1, (HNB.out.on (hX.block _ HNB.out.lt)).cells.2.1, hrun2 X hX⟩)
      have HHIT2 := Lib.hid hhit2
      clear hhit2 hrun2 hkV
      go_wp2_with fail
      refine cut_reg (fun a W => a = { tmps := #[.pointer (some ⟨kq, 0, none⟩), .agg #[.pointer (some PA), .int .i64 (PL : Int)], undef, .pointer (some ⟨w.heap.size, 0, none⟩), .pointer (some ⟨w.heap.size + 1, 0, none⟩), .pointer (some ⟨wr.heap.size, 0, none⟩), .bool true, .pointer (some ⟨Wa.heap.size, 0, none⟩), .bool has2, .tuple #[.agg #[.pointer (some VA), .int .i64 (VL : Int)], .bool true], .pointer (some ⟨kq, 0, none⟩), .pointer (some ⟨kq, 0, none⟩), .pointer (some ⟨kq, 1, none⟩), .map (some mb), .agg #[.pointer (some QA), .int .i64 (QL : Int)], .tuple #[.agg #[.pointer (some VA), .int .i64 (VL : Int)], .bool true], .agg #[.pointer (some VA), .int .i64 (VL : Int)], .bool true, .bool true, .bool false, u20, .tuple #[.agg #[.pointer po2, .int .i64 pl2], .bool has2], .pointer (some ⟨kq, 0, none⟩), .pointer (some ⟨kq, 0, none⟩), .pointer (some ⟨kq, 1, none⟩), .map (some mb), .agg #[.pointer (some VA), .int .i64 (VL : Int)], .tuple #[.agg #[.pointer po2, .int .i64 pl2], .bool has2], .agg #[.pointer po2, .int .i64 pl2], .bool has2, u30, u31, u32, u33, u34, u35, u36, u37, u38, u39, u40], defers := [] } ∧ W = (Wa.alloc (.cells #[.pointer po2, .int .i64 pl2] 159)).drew) ?_ ?_
      · go_region_held3 (fun X => X.cell? ⟨kq, 1, none⟩ = some (.map (some mb)) ∧ X.cell? ⟨wr.heap.size, 0, none⟩ = some (.pointer (some VA)) ∧ X.cell? ⟨wr.heap.size, 1, none⟩ = some (.int .i64 (VL : Int)) ∧ (Instr.lookup 95 (.map (some mb)) (.agg #[.pointer (some VA), .int .i64 (VL : Int)]) true).run Try.prog X = .ok (.tuple #[.agg #[.pointer po2, .int .i64 pl2], .bool has2]) X)
          (first
          | exact HS2.out _ ((Below.refl _ _).drew)
          | exact HS2.out _ ((Below.refl _ _).drew.alloc (Nat.le_refl _) _))
          (fail)
        all_goals exact ⟨rfl, rfl⟩
      rintro _ _ ⟨rfl, rfl⟩
      obtain ⟨Wb, hWb⟩ : ∃ W, W = (Wa.alloc (.cells #[.pointer po2, .int .i64 pl2] 159)).drew := ⟨_, rfl⟩
      rw [← hWb]
      have HLB := Lib.hid (show Below Wa.heap.size Wa Wb by rw [hWb]; exact ((Below.refl _ _).alloc (Nat.le_refl _) _).drew)
      have HFB := Lib.hid (show PlBox Wb Wa.heap.size (.pointer po2) (.int .i64 pl2) by rw [hWb]; exact World.alloc_heap_new Wa _)
      have HLAB := Lib.hid (HLA.out.trans (HLB.out.mono HLA.out.size))
      have hab3 := hab2.on (HLB.out.block _ hab2.lt)
      have hnb3 := HNB.out.on (HLB.out.block _ HNB.out.lt)
      have HAB3 := Lib.hid hab3
      have HNB3 := Lib.hid hnb3
      have HRB3 := Lib.hid (hrb2.on (HLB.out.block _ hrb2.lt))
      clear hWb a0 a1 af n0' n1' nf b0 b1 bf hablt hrblt hnblt hab2 hrb2
      obtain ⟨a0, a1, af⟩ := hab3.cells
      obtain ⟨n0', n1', nf⟩ := hnb3.cells
      have hablt := hab3.lt
      have hnblt := hnb3.lt
      have HNE := Lib.hid (show w.heap.size < wr.heap.size from HAB.out.lt)
      have HROUND := Lib.hid (show ∀ (Z : Pl wo G) (ZA : Addr) (ZL : Nat) (M3 : List (Value × Value)) (W3 : World), ZA = Z.adr → ZL = Z.exs.length → Conn E Q Z → Fr [mb, wr.heap.size] Wb W3 → MapSt W3 mb M3 → Ent E M3 → Forest M3 → (∀ k, (∀ x ∈ M2, x.1 ≠ k) → ∀ x ∈ M3, x.1 ≠ k) → En w E P kq mb N M Z M3 ((W3.setCell ⟨w.heap.size, 0, none⟩ (.pointer (some ZA))).setCell ⟨w.heap.size, 1, none⟩ (.int .i64 (ZL : Int))) from fun Z ZA ZL M3 W3 e1 e2 hc hf hm he hF hk => by
        subst e1; subst e2
        have hml := HQ.out.ml
        have hkl := HQ.out.kl
        have hne := HNE.out
        have hk1 : kq ≠ mb := fun e => by
          have h1 := HQ.out.q
          obtain ⟨es, clock, h2, -⟩ := HQ.out.map.is
          unfold EqBox at h1
          rw [e, h2] at h1
          cases h1
        have hb3 : ∀ j, j < wr.heap.size → j ≠ mb → W3.heap[j]? = wr.heap[j]? := fun j hj hn => (hf.block j (Nat.lt_of_lt_of_le hj HLAB.out.size) (by simp; omega)).trans (HLAB.out.block j hj)
        have hs : Fr [w.heap.size] W3 ((W3.setCell ⟨w.heap.size, 0, none⟩ (.pointer (some Z.adr))).setCell ⟨w.heap.size, 1, none⟩ (.int .i64 (Z.exs.length : Int))) := (Fr.set _ _ _ (by simp)).trans (Fr.set (S := [w.heap.size]) _ _ _ (by simp)) (fun x h => Or.inl h)
        have hfall : Fr [mb] w ((W3.setCell ⟨w.heap.size, 0, none⟩ (.pointer (some Z.adr))).setCell ⟨w.heap.size, 1, none⟩ (.int .i64 (Z.exs.length : Int))) :=
          ((HQ.out.fr.trans (Fr.of_below (S := [mb]) HLAB.out) (fun x h => Or.inl h)).trans hf (fun x h => by simp at h; rcases h with rfl | rfl; exact Or.inl (by simp); exact Or.inr (by omega))).trans hs (fun x h => by simp at h; right; omega)
        have hlt3 : wr.heap.size ≤ W3.heap.size := Nat.le_trans HLAB.out.size hf.size
        have hrl := HQ.out.rb.lt
        refine ⟨hfall, ?_, HQ.out.q.on ((hs.block _ (by omega) (by simp; omega)).trans (hb3 _ (by omega) hk1)), (HAB.out.on (hb3 _ (by omega) (by omega))).set _ _, HQ.out.rb.on ((hs.block _ (by omega) (by simp)).trans (hb3 _ hrl (by omega))), hm.on (hs.block _ (by omega) (by simp; omega)), he, hF, fun k h => hk k (HQ.out.keys k h), HQ.out.conn.trans hc, hml, hkl⟩
        have hmw := HMB.out
        have h1 : Below wo.heap.size Wb W3 := hf.below (fun x h => by simp at h; rcases h with rfl | rfl; exact hmw; exact HQ.out.low.size) (Nat.le_trans HQ.out.low.size HLAB.out.size)
        have h2 : wo.heap.size ≤ w.heap.size := by omega
        exact ((HLOA.out.trans (HLB.out.mono HLOA.out.size)).trans h1).trans (hs.below (fun x h => by simp at h; omega) (by omega)))
      have HEV := Lib.hid (show ∃ m, gk = m + 1 ∧ Ends M2 V.key m r by
        have h := HE.out
        cases h with
        | stop h => exact absurd rfl (h _ HV2.out)
        | next h t =>
          obtain rfl := one_of HQ.out.map.nodup h HV2.out
          exact ⟨_, rfl, t⟩)
      have hlb := HLB.out.size
      cases has2
      · have HST2 := Lib.hid (HROUND.out V VA VL M2 Wb HVAL.out.1 HVAL.out.2 HV3.out (Fr.refl _ _) (HMA.out.on (HLB.out.block _ HMA.out.is.lt)) HQ.out.ent HQ.out.forest (fun k h => h))
        go_wp2_with fail
        obtain ⟨m, hm1, hm2⟩ := HEV.out
        go_roundg m
        case measure => omega
        case rel => exact ⟨V, M2, r, Lib.hid hm2, HST2⟩
      · obtain ⟨U, hU1, hU2, hU3⟩ : ∃ U : Pl wo G, (.agg #[.pointer po2, .int .i64 pl2] : Value) = U.key ∧ (V.key, U.key) ∈ M2 ∧ Conn E V U := by
          rcases HHIT2.out with ⟨h, -⟩ | ⟨-, -, h⟩
          · obtain ⟨q, e, c⟩ := HQ.out.ent.one h
            exact ⟨q, e, by rw [← e]; exact h, c⟩
          · cases h
        obtain ⟨UA, hUA⟩ : ∃ z, z = U.adr := ⟨_, rfl⟩
        obtain ⟨UL, hUL⟩ : ∃ z, z = U.exs.length := ⟨_, rfl⟩
        have hkU : U.key = .agg #[.pointer (some UA), .int .i64 (UL : Int)] := by rw [hUA, hUL]; rfl
        obtain ⟨rfl, rfl⟩ : po2 = some UA ∧ pl2 = (UL : Int) := by
          rw [hkU] at hU1
          simp only [Value.agg.injEq, Array.mk.injEq, List.cons.injEq, Value.pointer.injEq, Value.int.injEq, and_true, true_and] at hU1
          exact hU1
        have hfX : ∀ p : Pl wo G, FreeB Wb.drew p.adr.block := Pl.free HFR.out (HLOA.out.trans (HLB.out.mono HLOA.out.size)).drew
        obtain ⟨st, hme, hst⟩ := MapSt.entry (w := Wb.drew) (HMA.out.on (HLB.out.block _ HMA.out.is.lt)) (placeT Wb.drew) Try.underlying95 (key := Q.key) (v0 := V.key) ⟨Q.adr, _, rfl, hfX Q⟩ (HQ.out.ent.keys hfX) HV2.out
        obtain ⟨W3, M3, hes, hm3, hp3, hg3⟩ := hst U.key
        rw [HKQ.out] at hme
        rw [HKV.out] at hme
        rw [hkU] at hes
        have HM3 := Lib.hid hm3
        have HP3 := Lib.hid hp3
        have HU2 := Lib.hid hU2
        have HU3 := Lib.hid hU3
        have HUAL := Lib.hid (And.intro hUA hUL)
        have HF3 := Lib.hid (show Fr [mb] Wb W3 from (Fr.refl _ Wb).drew.trans (Fr.grown hg3 (fun k h => by cases h; simp)) (fun x h => Or.inl h))
        have hmlt := HMA.out.is.lt
        have hml0 := HQ.out.ml
        have hkl0 := HQ.out.kl
        have hk1 : kq ≠ mb := fun e => by
          have h1 := HQ.out.q
          obtain ⟨es, clock, h2, -⟩ := HQ.out.map.is
          unfold EqBox at h1
          rw [e, h2] at h1
          cases h1
        have hwne := HNE.out
        have hla := HLA.out.size
        have hq3 := (HQ.out.q.on (HLAB.out.block _ HQ.out.q.lt)).cells.2.1
        obtain ⟨u0, u1, uf⟩ := HFB.out.cells
        have HB1 := Lib.hid (show Wb.drew.cell? ⟨kq, 1, none⟩ = some (.map (some mb)) ∧ Wb.drew.cell? ⟨w.heap.size, 0, none⟩ = some (.pointer (some QA)) ∧ Wb.drew.cell? ⟨w.heap.size, 1, none⟩ = some (.int .i64 (QL : Int)) ∧ Wb.drew.cell? ⟨Wa.heap.size, 0, none⟩ = some (.pointer (some UA)) ∧ Wb.drew.cell? ⟨Wa.heap.size, 1, none⟩ = some (.int .i64 (UL : Int)) from ⟨hq3, a0, a1, u0, u1⟩)
        have k3 : ∀ j o, j < Wb.heap.size → j ≠ mb → W3.cell? ⟨j, o, none⟩ = Wb.cell? ⟨j, o, none⟩ := fun j o h1 h2 => World.cell?_of_block (w := Wb) (HF3.out.block j h1 (by simpa using h2))
        have hfbl := HFB.out.lt
        have HB2 := Lib.hid (show W3.cell? ⟨kq, 1, none⟩ = some (.map (some mb)) ∧ W3.cell? ⟨w.heap.size, 0, none⟩ = some (.pointer (some QA)) ∧ W3.cell? ⟨w.heap.size, 1, none⟩ = some (.int .i64 (QL : Int)) ∧ W3.cell? ⟨Wa.heap.size, 0, none⟩ = some (.pointer (some UA)) ∧ W3.cell? ⟨Wa.heap.size, 1, none⟩ = some (.int .i64 (UL : Int)) from
          ⟨(k3 _ _ (by omega) hk1).trans hq3, (k3 _ _ hablt (by omega)).trans a0, (k3 _ _ hablt (by omega)).trans a1, (k3 _ _ hfbl (by omega)).trans u0, (k3 _ _ hfbl (by omega)).trans u1⟩)
        have HB3 := Lib.hid (show ∀ Y, Y = (W3.setCell ⟨wr.heap.size, 0, none⟩ (.pointer (some UA))).setCell ⟨wr.heap.size, 1, none⟩ (.int .i64 (UL : Int)) → Y.cell? ⟨kq, 1, none⟩ = some (.map (some mb)) ∧ Y.cell? ⟨w.heap.size, 0, none⟩ = some (.pointer (some QA)) ∧ Y.cell? ⟨w.heap.size, 1, none⟩ = some (.int .i64 (QL : Int)) ∧ Y.cell? ⟨Wa.heap.size, 0, none⟩ = some (.pointer (some UA)) ∧ Y.cell? ⟨Wa.heap.size, 1, none⟩ = some (.int .i64 (UL : Int)) from fun Y hY => by
          have k4 : ∀ j o, j ≠ wr.heap.size → Y.cell? ⟨j, o, none⟩ = W3.cell? ⟨j, o, none⟩ := fun j o h => World.cell?_of_block (w := W3) (by rw [hY, Below.heap_setCell _ _ _ _ h, Below.heap_setCell _ _ _ _ h])
          obtain ⟨e1, e2, e3, e4, e5⟩ := HB2.out
          have hsz := HSZ.out
          exact ⟨(k4 _ _ (by omega)).trans e1, (k4 _ _ (by omega)).trans e2, (k4 _ _ (by omega)).trans e3, (k4 _ _ (by omega)).trans e4, (k4 _ _ (by omega)).trans e5⟩)
        have hnb4 : PlBox W3 wr.heap.size (.pointer (some VA)) (.int .i64 (VL : Int)) := HNB3.out.on (HF3.out.block _ hnblt (by simp; omega))
        have HNB4 := Lib.hid hnb4
        obtain ⟨m0, m1, mf⟩ := hnb4.cells
        have hn4lt := hnb4.lt
        clear hm3 hp3 hU1 hU2 hU3 hUA hUL hg3 hst hfX hq3 u0 u1 uf k3 hfbl hmlt hml0 hkl0 hk1 hwne hla hnb4 a0 a1 n0' n1' hkU
        go_wp2_with fail
        refine cut_reg (fun a W => a = { tmps := #[.pointer (some ⟨kq, 0, none⟩), .agg #[.pointer (some PA), .int .i64 (PL : Int)], undef, .pointer (some ⟨w.heap.size, 0, none⟩), .pointer (some ⟨w.heap.size + 1, 0, none⟩), .pointer (some ⟨wr.heap.size, 0, none⟩), .bool true, .pointer (some ⟨Wa.heap.size, 0, none⟩), .bool true, .tuple #[.agg #[.pointer (some VA), .int .i64 (VL : Int)], .bool true], .pointer (some ⟨kq, 0, none⟩), .pointer (some ⟨kq, 0, none⟩), .pointer (some ⟨kq, 1, none⟩), .map (some mb), .agg #[.pointer (some QA), .int .i64 (QL : Int)], .tuple #[.agg #[.pointer (some VA), .int .i64 (VL : Int)], .bool true], .agg #[.pointer (some VA), .int .i64 (VL : Int)], .bool true, .bool true, .bool false, u20, .tuple #[.agg #[.pointer (some UA), .int .i64 (UL : Int)], .bool true], .pointer (some ⟨kq, 0, none⟩), .pointer (some ⟨kq, 0, none⟩), .pointer (some ⟨kq, 1, none⟩), .map (some mb), .agg #[.pointer (some VA), .int .i64 (VL : Int)], .tuple #[.agg #[.pointer (some UA), .int .i64 (UL : Int)], .bool true], .agg #[.pointer (some UA), .int .i64 (UL : Int)], .bool true, .bool true, .pointer (some ⟨kq, 0, none⟩), .pointer (some ⟨kq, 0, none⟩), .pointer (some ⟨kq, 1, none⟩), .map (some mb), .agg #[.pointer (some QA), .int .i64 (QL : Int)], .agg #[.pointer (some UA), .int .i64 (UL : Int)], .agg #[.pointer (some UA), .int .i64 (UL : Int)], .tuple #[.agg #[.pointer (some VA), .int .i64 (VL : Int)], .int .i64 (st : Int)], .int .i64 (st : Int), u40], defers := [] } ∧ W = (W3.setCell ⟨wr.heap.size, 0, none⟩ (.pointer (some UA))).setCell ⟨wr.heap.size, 1, none⟩ (.int .i64 (UL : Int))) ?_ ?_
        · go_region_held3 (fun X => X.cell? ⟨kq, 1, none⟩ = some (.map (some mb)) ∧ X.cell? ⟨w.heap.size, 0, none⟩ = some (.pointer (some QA)) ∧ X.cell? ⟨w.heap.size, 1, none⟩ = some (.int .i64 (QL : Int)) ∧ X.cell? ⟨Wa.heap.size, 0, none⟩ = some (.pointer (some UA)) ∧ X.cell? ⟨Wa.heap.size, 1, none⟩ = some (.int .i64 (UL : Int)))
            (first
            | exact HB1.out
            | exact HB2.out
            | exact HB3.out _ rfl)
            (fail)
          all_goals exact ⟨rfl, rfl⟩
        rintro _ _ ⟨rfl, rfl⟩
        have hnb5 := HNB4.out.set (.pointer (some UA)) (.int .i64 (UL : Int))
        have hab5 : PlBox ((W3.setCell ⟨wr.heap.size, 0, none⟩ (.pointer (some UA))).setCell ⟨wr.heap.size, 1, none⟩ (.int .i64 (UL : Int))) w.heap.size (.pointer (some QA)) (.int .i64 (QL : Int)) := by
          have hne := HNE.out
          refine HAB3.out.on (Eq.trans ?_ (HF3.out.block _ HAB3.out.lt (by have := HQ.out.ml; simp; omega)))
          rw [Below.heap_setCell _ _ _ _ (by simp; omega), Below.heap_setCell _ _ _ _ (by simp; omega)]
        have HST3 := Lib.hid (show En w E P kq mb N M U M3 _ from HROUND.out U UA UL M3 ((W3.setCell ⟨wr.heap.size, 0, none⟩ (.pointer (some UA))).setCell ⟨wr.heap.size, 1, none⟩ (.int .i64 (UL : Int))) HUAL.out.1 HUAL.out.2 (HV3.out.trans HU3.out)
          ((HF3.out.mono (T := [mb, wr.heap.size]) (fun x h => Or.inl (by simp at h; simp [h]))).trans ((Fr.set _ _ _ (by simp)).trans (Fr.set (S := [wr.heap.size]) _ _ _ (by simp)) (fun x h => Or.inl h)) (fun x h => Or.inl (by simp at h; simp [h])))
          (HM3.out.on (by have := HQ.out.ml; have := HNE.out; rw [Below.heap_setCell _ _ _ _ (by simp; omega), Below.heap_setCell _ _ _ _ (by simp; omega)]))
          (HQ.out.ent.put HQ.out.map.nodup (HV3.out.trans HU3.out) HP3.out) (forest_halve HQ.out.map.nodup HV2.out HU2.out HP3.out HQ.out.forest)
          (fun k h x hx e => by
            obtain ⟨x1, x2⟩ := x
            rcases (put_mem HQ.out.map.nodup HP3.out x1 x2).1 hx with ⟨e1, -⟩ | ⟨-, e1⟩
            · exact h _ HV2.out (e1.symm.trans e)
            · exact h _ e1 e))
        obtain ⟨m, hm1, hm2⟩ := HEV.out
        obtain ⟨m2, hm3, hm4⟩ : ∃ m2, m2 < gk ∧ Ends M3 U.key m2 r := by
          cases hm2 with
          | stop h => exact absurd rfl (h _ HU2.out)
          | @next _ _ _ n h t =>
            obtain rfl := one_of HQ.out.map.nodup h HU2.out
            obtain ⟨n2, h1, h2⟩ := ends_halve HQ.out.map.nodup HV2.out HU2.out HP3.out _ _ _ t
            exact ⟨n2, by omega, h2⟩
        have HM4 := Lib.hid hm4
        have HM5 := Lib.hid hm3
        clear hm1 hm2 hm3 hm4
        generalize hWc : (W3.setCell ⟨wr.heap.size, 0, none⟩ (.pointer (some UA))).setCell ⟨wr.heap.size, 1, none⟩ (.int .i64 (UL : Int)) = Wc at *
        obtain ⟨m0, m1, mf⟩ := hnb5.cells
        obtain ⟨a0, a1, af⟩ := hab5.cells
        have hnb5lt := hnb5.lt
        have hab5lt := hab5.lt
        clear hWc hnb5 hab5
        go_wp2_with fail
        go_roundg m2
        case measure => exact HM5.out
        case rel => exact ⟨U, M3, r, HM4, HST3⟩
end Go.Proofs.Ytmndlhbgacgnlaa

namespace Go.Proofs.Ytmndlhbgacgnlaa
open Go Go.RowKit

section
variable {wo : World} {G : List Nat}
/-- What is known of what is equal, at a box with a count and a map. -/
structure EqSt (E : List (Pl wo G × Pl wo G)) (kq N : Nat) (mo : Option Nat) (W : World) : Prop where
  q : EqBox W kq (N : Int) mo
  map : ∀ mb, mo = some mb → wo.heap.size ≤ mb ∧ ∃ M, MapSt W mb M ∧ Ent E M ∧ Forest M
theorem EqSt.more {E E2 : List (Pl wo G × Pl wo G)} {kq N : Nat} {mo : Option Nat} {W : World} (h : EqSt E kq N mo W) (hE : ∀ p ∈ E, p ∈ E2) : EqSt E2 kq N mo W :=
  ⟨h.q, fun mb e => by obtain ⟨h1, M, h2, h3, h4⟩ := h.map mb e; exact ⟨h1, M, h2, h3.more hE, h4⟩⟩
theorem EqSt.on {E : List (Pl wo G × Pl wo G)} {kq N : Nat} {mo : Option Nat} {W W2 : World} (h : EqSt E kq N mo W) (hk : ∀ j ∈ kq :: mo.toList, W2.heap[j]? = W.heap[j]?) : EqSt E kq N mo W2 :=
  ⟨h.q.on (hk _ (by simp)), fun mb e => by obtain ⟨h1, M, h2, h3, h4⟩ := h.map mb e; exact ⟨h1, M, h2.on (hk _ (by simp [e])), h3, h4⟩⟩
theorem EqSt.lt {E : List (Pl wo G × Pl wo G)} {kq N : Nat} {mo : Option Nat} {W : World} (h : EqSt E kq N mo W) : ∀ j ∈ kq :: mo.toList, j < W.heap.size := fun j hj => by
  rcases List.mem_cons.1 hj with rfl | hj
  · exact h.q.lt
  · obtain ⟨-, M, h2, -⟩ := h.map j (by simpa [eq_comm] using hj)
    exact h2.is.lt
theorem Pl.cell (p : Pl wo G) : ∃ v, wo.cell? ⟨p.adr.block, p.adr.off, none⟩ = some v := by
  obtain ⟨⟨g, o, l, bs⟩, h1, h2, h3, h4⟩ := p
  cases l with
  | nil => exact absurd rfl h4
  | cons e r =>
    simp only at h1
    rw [ExsAt] at h1
    obtain ⟨b1, b2, -, h5, -⟩ := h1
    obtain ⟨u, h6, -⟩ := h5.is
    exact ⟨_, by simpa [Pl.adr] using h6⟩
/-- What join leaves. -/
def JoinedPost (E : List (Pl wo G × Pl wo G)) (A B : Pl wo G) (kq N : Nat) (mo : Option Nat) (w : World) (e : Ending) (w2 : World) : Prop :=
  ∃ (r : Bool) (mo2 : Option Nat), e = .returned (.bool r) ∧ (r = true → Conn E A B ∧ EqSt E kq (N + A.exs.length) mo2 w2) ∧ (r = false → EqSt (E ++ [(A, B)]) kq (N + A.exs.length) mo2 w2) ∧
    Fr (kq :: mo.toList) w w2 ∧ (∀ j ∈ mo2.toList, j ∈ mo.toList ∨ w.heap.size ≤ j)
end
theorem jbox {w : World} {u v u2 v2 : Value} : PlBox ((w.alloc (.cells #[u, v] 159)).alloc (.cells #[u2, v2] 159)) w.heap.size u v ∧ PlBox ((w.alloc (.cells #[u, v] 159)).alloc (.cells #[u2, v2] 159)) (w.heap.size + 1) u2 v2 := by
  refine ⟨(Below.heap_alloc _ _ _ (by simp)).trans (World.alloc_heap_new w _), ?_⟩
  have := World.alloc_heap_new (w.alloc (.cells #[u, v] 159)) (.cells #[u2, v2] 159)
  rw [World.size_alloc] at this
  exact this
theorem EqBox.put {W : World} {kq : Nat} {N : Int} {mo : Option Nat} (h : EqBox W kq N mo) (N2 : Int) : EqBox (W.setCell ⟨kq, 0, none⟩ (.int .i64 N2)) kq N2 mo := by
  unfold EqBox at h ⊢
  simp [World.setCell, Array.getElem?_modify, h]
theorem EqBox.putMap {W : World} {kq : Nat} {N : Int} {mo : Option Nat} (h : EqBox W kq N mo) (mo2 : Option Nat) : EqBox (W.setCell ⟨kq, 1, none⟩ (.map mo2)) kq N mo2 := by
  unfold EqBox at h ⊢
  simp [World.setCell, Array.getElem?_modify, h]
theorem own_end2 {wo : World} {G : List Nat} (E : List (Pl wo G × Pl wo G)) (P : Pl wo G) (PA : Addr) (PL : Nat) (hA : PA = P.adr) (hL : PL = P.exs.length) (kq mb : Nat) (N : Int) (M : List (Value × Value)) (w : World) (hq : EqBox w kq N (some mb)) (hm : MapSt w mb M) (he : Ent E M) (hF : Forest M) (hlow : Below wo.heap.size wo w) (hmb : wo.heap.size ≤ mb) (hfr : ∀ p : Pl wo G, FreeB wo p.adr.block) :
    Calls Try.prog 147 #[.pointer (some ⟨kq, 0, none⟩), .agg #[.pointer (some PA), .int .i64 (PL : Int)]] w fun r w2 => ∃ (RA : Addr) (RL : Nat) (R : Pl wo G) (M2 : List (Value × Value)), r = .returned (.agg #[.pointer (some RA), .int .i64 (RL : Int)]) ∧
      (RA = R.adr ∧ RL = R.exs.length ∧ Conn E P R ∧ MapSt w2 mb M2 ∧ Ent E M2 ∧ Forest M2 ∧ (∀ x ∈ M2, x.1 ≠ R.key) ∧ (∀ k, (∀ x ∈ M, x.1 ≠ k) → ∀ x ∈ M2, x.1 ≠ k)) ∧ Fr [mb] w w2 := by
  subst hA; subst hL
  refine (own_end E P kq mb N M w hq hm he hF hlow hmb hfr).mono ?_
  rintro r w2 ⟨R, M2, rfl, h1, h2, h3, h4, h5, h6, h7⟩
  exact ⟨R.adr, R.exs.length, R, M2, rfl, ⟨rfl, rfl, h1, h2, h3, h4, h5, h6⟩, h7⟩
/-- Behind both calls of endOf. -/
structure JoinMid {wo : World} {G : List Nat} (E : List (Pl wo G × Pl wo G)) (A B : Pl wo G) (kq mb N AL : Nat) (w Wy : World) (RA TA : Addr) (RL TL : Nat) (R T : Pl wo G) (M6 : List (Value × Value)) (W : World) : Prop where
  q : EqBox W kq ((N : Int) + (AL : Int)) (some mb)
  ab : PlBox W w.heap.size (.pointer (some RA)) (.int .i64 (RL : Int))
  bb : PlBox W (w.heap.size + 1) (.pointer (some TA)) (.int .i64 (TL : Int))
  map : MapSt W mb M6
  ent : Ent E M6
  forest : Forest M6
  noR : ∀ x ∈ M6, x.1 ≠ R.key
  noT : ∀ x ∈ M6, x.1 ≠ T.key
  ca : Conn E A R
  cb : Conn E B T
  ra : RA = R.adr
  rl : RL = R.exs.length
  ta : TA = T.adr
  tl : TL = T.exs.length
  low : Below wo.heap.size wo W
  fr : Fr [mb, w.heap.size, w.heap.size + 1] Wy W
section
variable {wo : World} {G : List Nat} {E : List (Pl wo G × Pl wo G)} {A B : Pl wo G} {kq mb N AL : Nat} {w Wy : World} {RA TA : Addr} {RL TL : Nat} {R T : Pl wo G} {M M5 M6 : List (Value × Value)} {W w5 w6 : World}
theorem join_mid {u0 u1 u2 u3 : Value} (hq : EqBox Wy kq ((N : Int) + (AL : Int)) (some mb)) (ha : PlBox Wy w.heap.size u0 u1) (hb : PlBox Wy (w.heap.size + 1) u2 u3) (hlow : Below wo.heap.size wo Wy) (hmb : wo.heap.size ≤ mb) (hkm : kq ≠ mb) (hmn : w.heap.size ≠ mb ∧ w.heap.size + 1 ≠ mb) (hkl : kq < w.heap.size) (hws : wo.heap.size ≤ w.heap.size)
    (h1 : RA = R.adr ∧ RL = R.exs.length ∧ Conn E A R ∧ MapSt w5 mb M5 ∧ Ent E M5 ∧ Forest M5 ∧ (∀ x ∈ M5, x.1 ≠ R.key) ∧ (∀ k, (∀ x ∈ M, x.1 ≠ k) → ∀ x ∈ M5, x.1 ≠ k)) (hf1 : Fr [mb] Wy.drew w5)
    (h2 : TA = T.adr ∧ TL = T.exs.length ∧ Conn E B T ∧ MapSt w6 mb M6 ∧ Ent E M6 ∧ Forest M6 ∧ (∀ x ∈ M6, x.1 ≠ T.key) ∧ (∀ k, (∀ x ∈ M5, x.1 ≠ k) → ∀ x ∈ M6, x.1 ≠ k)) (hf2 : Fr [mb] w5 w6) :
    JoinMid E A B kq mb N AL w Wy RA TA RL TL R T M6 ((((w6.setCell ⟨w.heap.size, 0, none⟩ (.pointer (some RA))).setCell ⟨w.heap.size, 1, none⟩ (.int .i64 (RL : Int))).setCell ⟨w.heap.size + 1, 0, none⟩ (.pointer (some TA))).setCell ⟨w.heap.size + 1, 1, none⟩ (.int .i64 (TL : Int))) := by
  have hf : Fr [mb] Wy w6 := (((Fr.refl [mb] Wy).drew.trans hf1 (fun x h => Or.inl h))).trans hf2 (fun x h => Or.inl h)
  have a6 := ha.on (hf.block _ ha.lt (by simpa using hmn.1))
  have b6 := hb.on (hf.block _ hb.lt (by simpa using hmn.2))
  obtain ⟨W7, hW7⟩ : ∃ z, z = (w6.setCell ⟨w.heap.size, 0, none⟩ (.pointer (some RA))).setCell ⟨w.heap.size, 1, none⟩ (.int .i64 (RL : Int)) := ⟨_, rfl⟩
  obtain ⟨W8, hW8⟩ : ∃ z, z = (W7.setCell ⟨w.heap.size + 1, 0, none⟩ (.pointer (some TA))).setCell ⟨w.heap.size + 1, 1, none⟩ (.int .i64 (TL : Int)) := ⟨_, rfl⟩
  have a7 := a6.set (.pointer (some RA)) (.int .i64 (RL : Int))
  rw [← hW7] at a7 ⊢
  rw [← hW8]
  have k7 : ∀ j, j ≠ w.heap.size → W7.heap[j]? = w6.heap[j]? := fun j h => by rw [hW7, Below.heap_setCell _ _ _ _ h, Below.heap_setCell _ _ _ _ h]
  have k8 : ∀ j, j ≠ w.heap.size + 1 → W8.heap[j]? = W7.heap[j]? := fun j h => by rw [hW8, Below.heap_setCell _ _ _ _ h, Below.heap_setCell _ _ _ _ h]
  have b8 := (b6.on (k7 _ (by omega))).set (.pointer (some TA)) (.int .i64 (TL : Int))
  rw [← hW8] at b8
  have hfr : Fr [w.heap.size, w.heap.size + 1] w6 W8 := by
    rw [hW8, hW7]
    exact (((Fr.set _ _ _ (by simp)).trans (Fr.set (S := [w.heap.size, w.heap.size + 1]) _ _ _ (by simp)) (fun x h => Or.inl h)).trans (Fr.set (S := [w.heap.size, w.heap.size + 1]) _ _ _ (by simp)) (fun x h => Or.inl h)).trans (Fr.set (S := [w.heap.size, w.heap.size + 1]) _ _ _ (by simp)) (fun x h => Or.inl h)
  have hall : Fr [mb, w.heap.size, w.heap.size + 1] Wy W8 := (hf.mono (T := [mb, w.heap.size, w.heap.size + 1]) (fun x h => Or.inl (by simp at h; simp [h]))).trans hfr (fun x h => Or.inl (by simp at h; rcases h with h | h <;> simp [h]))
  refine ⟨hq.on ((k8 _ (by omega)).trans ((k7 _ (by omega)).trans (hf.block _ hq.lt (by simpa using hkm)))), a7.on (k8 _ (by omega)), b8, h2.2.2.2.1.on ((k8 _ (fun e => hmn.2 e.symm)).trans (k7 _ (fun e => hmn.1 e.symm))), h2.2.2.2.2.1, h2.2.2.2.2.2.1, h2.2.2.2.2.2.2.2 _ h1.2.2.2.2.2.2.1, h2.2.2.2.2.2.2.1, h1.2.2.1, h2.2.2.1, h1.1, h1.2.1, h2.1, h2.2.1, ?_, hall⟩
  exact hlow.trans (hall.below (fun x h => by simp at h; omega) hlow.size)
variable (h : JoinMid E A B kq mb N AL w Wy RA TA RL TL R T M6 W)
include h
theorem JoinMid.keyR : R.key = .agg #[.pointer (some RA), .int .i64 (RL : Int)] := by rw [h.ra, h.rl]; rfl
theorem JoinMid.keyT : T.key = .agg #[.pointer (some TA), .int .i64 (TL : Int)] := by rw [h.ta, h.tl]; rfl
theorem JoinMid.same (h1 : RA = TA) (h2 : RL = TL) : Conn E A B :=
  (h.ca.trans (Conn.same (Pl.det (by rw [h.keyR, h.keyT, h1, h2])))).trans h.cb.symm
theorem JoinMid.diff (h1 : RA ≠ TA ∨ RL ≠ TL) : R.key ≠ T.key := fun e => by
  rw [h.keyR, h.keyT] at e
  simp only [Value.agg.injEq, Array.mk.injEq, List.cons.injEq, Value.pointer.injEq, Option.some.injEq, Value.int.injEq, and_true, true_and] at e
  rcases h1 with h1 | h1
  · exact h1 e.1
  · exact h1 (by omega)
theorem JoinMid.st (hmb : wo.heap.size ≤ mb) : EqSt E kq (N + AL) (some mb) W := ⟨by have := h.q; simpa using this, fun m e => by cases e; exact ⟨hmb, M6, h.map, h.ent, h.forest⟩⟩
theorem JoinMid.upd (hmb : wo.heap.size ≤ mb) (hfr : ∀ p : Pl wo G, FreeB W p.adr.block) (hne : R.key ≠ T.key) : ∃ W5, (Instr.mapUpdate 95 (.map (some mb)) (.agg #[.pointer (some RA), .int .i64 (RL : Int)]) (.agg #[.pointer (some TA), .int .i64 (TL : Int)])).run Try.prog W.drew = .ok () W5 ∧ EqSt (E ++ [(A, B)]) kq (N + AL) (some mb) W5 ∧ Fr [mb] W W5 := by
  have hfd : ∀ p : Pl wo G, FreeB W.drew p.adr.block := fun p => (hfr p).on rfl
  have hmd : MapSt W.drew mb M6 := h.map.on rfl
  obtain ⟨W5, L2, h1, h2, h3, h4⟩ := hmd.update (val := T.key) (placeT W.drew) Try.underlying95 (key := R.key) ⟨R.adr, _, rfl, hfd R⟩ (h.ent.keys hfd)
  have hf : Fr [mb] W W5 := (Fr.refl [mb] W).drew.trans (Fr.grown h4 (fun k e => by cases e; simp)) (fun x h => Or.inl h)
  refine ⟨W5, by rw [← h.keyR, ← h.keyT]; exact h1, ⟨?_, fun m e => ?_⟩, hf⟩
  · have hkm : kq ≠ mb := fun e => by
      have h1 := h.q
      obtain ⟨es, clock, h2, -⟩ := h.map.is
      unfold EqBox at h1
      rw [e, h2] at h1
      cases h1
    have := h.q.on (hf.block _ h.q.lt (by simpa using hkm))
    simpa using this
  · cases e
    have hE : ∀ p ∈ E, p ∈ E ++ [(A, B)] := fun p hp => List.mem_append_left _ hp
    exact ⟨hmb, L2, h2, (h.ent.more hE).put h.map.nodup (((h.ca.more hE).symm.trans (Conn.link (Or.inl (by simp)))).trans (h.cb.more hE)) h3, forest_unite h.map.nodup h.noR h.noT hne h3 h.forest⟩
end
set_option maxRecDepth 100000 in
set_option maxHeartbeats 4000000 in
theorem own_joined {wo : World} {G : List Nat} (E : List (Pl wo G × Pl wo G)) (A B : Pl wo G) (kq N : Nat) (mo : Option Nat) (w : World) (hst : EqSt E kq N mo w) (hlow : Below wo.heap.size wo w) (hkq : wo.heap.size ≤ kq) (hN : N + A.exs.length ≤ 2199023255552)
    (hone : FreeB wo A.adr.block) (hall : 80 < N + A.exs.length → ∀ p : Pl wo G, FreeB wo p.adr.block) :
    Calls Try.prog 110 #[.pointer (some ⟨kq, 0, none⟩), A.key, B.key] w (JoinedPost E A B kq N mo w) := by
  obtain ⟨AA, hAA⟩ : ∃ z, z = A.adr := ⟨_, rfl⟩
  obtain ⟨AL, hAL⟩ : ∃ z, z = A.exs.length := ⟨_, rfl⟩
  obtain ⟨BA, hBA⟩ : ∃ z, z = B.adr := ⟨_, rfl⟩
  obtain ⟨BL, hBL⟩ : ∃ z, z = B.exs.length := ⟨_, rfl⟩
  have hkA : A.key = .agg #[.pointer (some AA), .int .i64 (AL : Int)] := by rw [hAA, hAL]; rfl
  have hkB : B.key = .agg #[.pointer (some BA), .int .i64 (BL : Int)] := by rw [hBA, hBL]; rfl
  have HSIZE := Lib.hid (show A.exs.length = AL from hAL.symm)
  rw [← hAL] at hN hall
  have HAADR := Lib.hid hAA
  have HBADR := Lib.hid hBA
  have HKA := Lib.hid hkA
  have HKB := Lib.hid hkB
  have HBLEN := Lib.hid hBL
  rw [hkA, hkB]
  have hql := hst.q.lt
  obtain ⟨q0, q1, qf⟩ := hst.q.cells
  obtain ⟨w1, hw1⟩ : ∃ w1, w1 = (w.alloc (.cells #[.pointer (some AA), .int .i64 (AL : Int)] 159)).alloc (.cells #[.pointer (some BA), .int .i64 (BL : Int)] 159) := ⟨_, rfl⟩
  have hb1 : Below w.heap.size w w1 := by rw [hw1]; exact ((Below.refl _ w).alloc (Nat.le_refl _) _).alloc (by simp) _
  have hj := jbox (w := w) (u := .pointer (some AA)) (v := .int .i64 (AL : Int)) (u2 := .pointer (some BA)) (v2 := .int .i64 (BL : Int))
  rw [← hw1] at hj
  have HST := Lib.hid (hst.on (W2 := w1) (fun j hj => hb1.block j (hst.lt j hj)))
  have HLT := Lib.hid hst.lt
  have HLOW := Lib.hid (hlow.trans (hb1.mono hlow.size))
  have HB1 := Lib.hid hb1
  have HKQ := Lib.hid hkq
  have HONE := Lib.hid hone
  have HALL := Lib.hid hall
  have HJ := Lib.hid hj
  have HWS := Lib.hid hlow.size
  have HKL := Lib.hid hql
  obtain ⟨p0, p1, pf⟩ := (HST.out).q.cells
  have hNA : (0 : Int) ≤ (N : Int) + (AL : Int) := by omega
  have hNB : (N : Int) + (AL : Int) ≤ 2199023255552 := by omega
  have hwr : IntKind.i64.wrap ((N : Int) + (AL : Int)) = (N : Int) + (AL : Int) := IntWalk.i64_in _ (by omega)
  have hplt := HST.out.q.lt
  obtain ⟨a0, a1, af⟩ := hj.1.cells
  obtain ⟨b0, b1, bf⟩ := hj.2.cells
  have halt := hj.1.lt
  have hblt := hj.2.lt
  have hEB := HST.out.q.put ((N : Int) + (AL : Int))
  have HEB := Lib.hid hEB
  clear hst hlow hkq hN hone hall hAA hAL hBA hBL hkA hkB hb1 hj hEB q0 q1 qf hql
  go_enter Try.func110, Try.ntmps110
  go_wp2_with fail
  rw [← hw1]
  clear hw1
  refine cut_reg (fun a W => a = { tmps := #[.pointer (some ⟨kq, 0, none⟩), .agg #[.pointer (some AA), .int .i64 (AL : Int)], .agg #[.pointer (some BA), .int .i64 (BL : Int)], undef, .pointer (some ⟨w.heap.size, 0, none⟩), .pointer (some ⟨w.heap.size + 1, 0, none⟩), .bool false, .pointer (some ⟨kq, 0, none⟩), .pointer (some ⟨kq, 0, none⟩), .pointer (some ⟨kq, 0, none⟩), .int .i64 (N : Int), .pointer (some ⟨w.heap.size, 1, none⟩), .int .i64 (AL : Int), .int .i64 ((N : Int) + (AL : Int)), .pointer (some ⟨kq, 0, none⟩), .pointer (some ⟨kq, 0, none⟩), undef, undef, undef, undef, undef, undef, undef, undef, undef, undef, undef, undef, undef, undef, undef, undef, undef, undef, undef, undef, undef, undef, undef, undef, undef, undef, undef, undef, undef, undef, undef, undef], defers := [] } ∧ W = (w1.setCell ⟨kq, 0, none⟩ (.int .i64 ((N : Int) + (AL : Int)))).drew) ?_ ?_
  · go_region
    all_goals exact ⟨rfl, rfl⟩
  rintro _ _ ⟨rfl, rfl⟩
  obtain ⟨W1, hW1⟩ : ∃ W, W = (w1.setCell ⟨kq, 0, none⟩ (.int .i64 ((N : Int) + (AL : Int)))).drew := ⟨_, rfl⟩
  rw [← hW1]
  have HQ1 := Lib.hid (show EqBox W1 kq ((N : Int) + (AL : Int)) mo by rw [hW1]; exact HEB.out)
  have hf1 : Fr [kq] w1 W1 := by rw [hW1]; exact (Fr.set w1 _ _ (by simp)).drew
  have HF1 := Lib.hid hf1
  have hj1 := HJ.out.1.on (hf1.block _ HJ.out.1.lt (by have := HKL.out; simp; omega))
  have hj2 := HJ.out.2.on (hf1.block _ HJ.out.2.lt (by have := HKL.out; simp; omega))
  have HJ1 := Lib.hid hj1
  have HJ2 := Lib.hid hj2
  have HE1 := Lib.hid (show EqSt E kq (N + AL) mo W1 from ⟨by have := HQ1.out; simpa using this, fun mb e => by
    obtain ⟨h1, M, h2, h3, h4⟩ := HST.out.map mb e
    refine ⟨h1, M, h2.on (hf1.block _ h2.is.lt ?_), h3, h4⟩
    intro e2
    rw [List.mem_singleton] at e2
    have h5 := HST.out.q
    obtain ⟨es, clock, h6, -⟩ := h2.is
    unfold EqBox at h5
    rw [← e2, h6] at h5
    cases h5⟩)
  have HL1 := Lib.hid (show Below wo.heap.size wo W1 from HLOW.out.trans (hf1.below (fun x h => by have := HKQ.out; simp at h; omega) HLOW.out.size))
  have HFR1 := Lib.hid (show Fr (kq :: mo.toList) w W1 from (Fr.of_below HB1.out).trans (hf1.mono (T := kq :: mo.toList) (fun x h => Or.inl (by simp at h; simp [h]))) (fun x h => Or.inl h))
  clear hW1 hf1 p0 p1 pf hplt a0 a1 af b0 b1 bf halt hblt
  obtain ⟨p0, p1, pf⟩ := HQ1.out.cells
  have hplt := HQ1.out.lt
  obtain ⟨a0, a1, af⟩ := hj1.cells
  obtain ⟨b0, b1, bf⟩ := hj2.cells
  have halt := hj1.lt
  have hblt := hj2.lt
  clear hj1 hj2
  by_cases h80 : (N : Int) + (AL : Int) ≤ 80
  · obtain ⟨i0, hi, -, hz, -⟩ := info_parts Try.infoEx
    have hz : i0.size ≠ 0 := by omega
    have he1 : (Op.equalIn 9999 154 (.pointer (some AA)) (.pointer (some BA))).run Try.prog W1 = .ok (decide (AA = BA)) W1 := by
      obtain ⟨v, hv⟩ := Pl.cell B
      rw [← HBADR.out] at hv
      refine eq_ptr_half (P := Try.prog) (v := v) Try.underlying154 hi hz ?_ ((HL1.out.cell (p := ⟨BA.block, BA.off, none⟩) (World.block_lt_of_cell? wo _ hv)).trans hv) 9998
      rw [HAADR.out]
      exact HONE.out.on (HL1.out.block _ HONE.out.lt)
    have HYES := Lib.hid (show A.key = B.key → JoinedPost E A B kq N mo w (.returned (.bool true)) W1 from fun h => ⟨true, mo, rfl, fun _ => ⟨Conn.same (Pl.det h), by rw [HSIZE.out]; exact HE1.out⟩, (fun h => by cases h), HFR1.out, fun j hj => Or.inl hj⟩)
    have HNO := Lib.hid (show JoinedPost E A B kq N mo w (.returned (.bool false)) W1 from ⟨false, mo, rfl, fun h => (by cases h), fun _ => by rw [HSIZE.out]; exact HE1.out.more (fun p hp => List.mem_append_left _ hp), HFR1.out, fun j hj => Or.inl hj⟩)
    have HKK := Lib.hid (show AA = BA → AL = BL → A.key = B.key from fun h1 h2 => by rw [HKA.out, HKB.out, h1, h2])
    by_cases hAA : AA = BA
    · rw [decide_eq_true hAA] at he1
      by_cases hLL : (AL : Int) = (BL : Int)
      · have HF := Lib.hid (HYES.out (HKK.out hAA (by omega)))
        clear hAA hi hz
        go_wp2_with fail
        go_ret
        exact HF.out
      · clear hAA hi hz
        go_wp2_with fail
        go_ret
        exact HNO.out
    · rw [decide_eq_false hAA] at he1
      clear hAA hi hz
      by_cases hLL : (AL : Int) = (BL : Int)
      · go_wp2_with fail
        go_ret
        exact HNO.out
      · go_wp2_with fail
        go_ret
        exact HNO.out
  · have HALL2 := Lib.hid (HALL.out (by omega))
    have hmk : ∀ w : World, (Instr.makeMap 95 none).run Try.prog w = .ok (.map (some w.heap.size)) (w.alloc (.map #[] 0)) := fun w => by simp [Instr.makeMap]
    have hmn : ∀ (w : World) (r : Option Nat), (binOp .eql 95 (.map r) (.map none)).run Try.prog w = .ok (.bool r.isNone) w := fun w r => run_eql_map_nil w _ _ _ r Try.underlying95
    cases mo with
    | none =>
      go_wp2_with fail
      obtain ⟨mb, hmbe⟩ : ∃ z, z = W1.heap.size := ⟨_, rfl⟩
      obtain ⟨Wy, hWy⟩ : ∃ W, W = ((W1.setCell ⟨kq, 1, none⟩ (.map (some W1.heap.size))).alloc (.map #[] 0)) := ⟨_, rfl⟩
      rw [← hWy, ← hmbe]
      rw [← hmbe] at hWy
      have hsz : (W1.setCell ⟨kq, 1, none⟩ (.map (some mb))).heap.size = mb := by rw [hmbe]; simp [World.setCell]
      have hbk : ∀ j, j < W1.heap.size → j ≠ kq → Wy.heap[j]? = W1.heap[j]? := fun j h1 h2 => by rw [hWy, Below.heap_alloc _ _ _ (by rw [hsz, hmbe]; exact h1), Below.heap_setCell _ _ _ _ h2]
      have hfy : Fr [kq] W1 Wy := by rw [hWy]; exact (Fr.set (S := [kq]) W1 _ _ (by simp)).trans (Fr.alloc (S := [kq]) _ _) (fun x h => Or.inl h)
      have hkl9 := HKL.out
      have HQY := Lib.hid (show EqBox Wy kq ((N : Int) + (AL : Int)) (some mb) from by
        have h := HQ1.out.putMap (some mb)
        rw [hWy]
        exact (Below.heap_alloc _ _ _ (by rw [hsz, hmbe]; exact hplt)).trans h)
      have HJA := Lib.hid (HJ1.out.on (hbk _ HJ1.out.lt (by omega)))
      have HJB := Lib.hid (HJ2.out.on (hbk _ HJ2.out.lt (by omega)))
      obtain ⟨M, hM⟩ : ∃ M : List (Value × Value), M = [] := ⟨_, rfl⟩
      have HMY := Lib.hid (show MapSt Wy mb M from by
        have h := MapSt.made (W1.setCell ⟨kq, 1, none⟩ (.map (some mb)))
        rw [hsz, ← hWy] at h
        rw [hM]; exact h)
      have HEY := Lib.hid (show Ent E M from fun x hx => by rw [hM] at hx; cases hx)
      have HFY := Lib.hid (show Forest M by rw [hM]; exact forest_nil)
      have HMB := Lib.hid (show wo.heap.size ≤ mb by rw [hmbe]; exact HL1.out.size)
      have HLY := Lib.hid (show Below wo.heap.size wo Wy from HL1.out.trans (hfy.below (fun x h => by have := HKQ.out; simp at h; omega) HL1.out.size))
      have HFRY := Lib.hid (show Fr (kq :: (none : Option Nat).toList) w Wy from HFR1.out.trans (hfy.mono (T := kq :: (none : Option Nat).toList) (fun x h => Or.inl (by simp at h; simp [h]))) (fun x h => Or.inl h))
      have HNEW := Lib.hid (show mb ∈ (none : Option Nat).toList ∨ w.heap.size ≤ mb from Or.inr (by rw [hmbe]; omega))
      have HKM := Lib.hid (show kq ≠ mb by rw [hmbe]; omega)
      have HMN := Lib.hid (show w.heap.size ≠ mb ∧ w.heap.size + 1 ≠ mb by rw [hmbe]; omega)
      clear hWy hsz hbk hfy hM hmbe hkl9 a0 a1 af b0 b1 bf p0 p1 pf hplt halt hblt
      have hw0 := HKL.out
      have HC1 := Lib.hid (own_end2 E A AA AL HAADR.out HSIZE.out.symm kq mb ((N : Int) + (AL : Int)) M Wy.drew HQY.out HMY.out HEY.out HFY.out HLY.out.drew HMB.out HALL2.out)
      have HC2 := Lib.hid (fun (w5 : World) (M5 : List (Value × Value)) (hf : Fr [mb] Wy.drew w5) (hm : MapSt w5 mb M5) (he : Ent E M5) (hF : Forest M5) => own_end2 E B BA BL HBADR.out HBLEN.out kq mb ((N : Int) + (AL : Int)) M5 w5 (HQY.out.on (hf.block _ HQY.out.lt (by simpa using HKM.out))) hm he hF (HLY.out.drew.trans (hf.below (fun x h => by have := HMB.out; simp at h; omega) HLY.out.size)) HMB.out HALL2.out)
      have HBX := Lib.hid (show ∀ (w5 : World), Fr [mb] Wy.drew w5 → PlBox w5 w.heap.size (.pointer (some AA)) (.int .i64 (AL : Int)) ∧ PlBox w5 (w.heap.size + 1) (.pointer (some BA)) (.int .i64 (BL : Int)) from fun w5 hf => ⟨HJA.out.on (hf.block _ HJA.out.lt (by simpa using HMN.out.1)), HJB.out.on (hf.block _ HJB.out.lt (by simpa using HMN.out.2))⟩)
      obtain ⟨a0, a1, af⟩ := HJA.out.cells
      obtain ⟨b0, b1, bf⟩ := HJB.out.cells
      have HFIN := Lib.hid (show ∀ (w5 w6 : World) (RA TA : Addr) (RL TL : Nat) (R T : Pl wo G) (M5 M6 : List (Value × Value)), RA = R.adr ∧ RL = R.exs.length ∧ Conn E A R ∧ MapSt w5 mb M5 ∧ Ent E M5 ∧ Forest M5 ∧ (∀ x ∈ M5, x.1 ≠ R.key) ∧ (∀ k, (∀ x ∈ M, x.1 ≠ k) → ∀ x ∈ M5, x.1 ≠ k) → Fr [mb] Wy.drew w5 →
          TA = T.adr ∧ TL = T.exs.length ∧ Conn E B T ∧ MapSt w6 mb M6 ∧ Ent E M6 ∧ Forest M6 ∧ (∀ x ∈ M6, x.1 ≠ T.key) ∧ (∀ k, (∀ x ∈ M5, x.1 ≠ k) → ∀ x ∈ M6, x.1 ≠ k) → Fr [mb] w5 w6 →
          JoinMid E A B kq mb N AL w Wy RA TA RL TL R T M6 ((((w6.setCell ⟨w.heap.size, 0, none⟩ (.pointer (some RA))).setCell ⟨w.heap.size, 1, none⟩ (.int .i64 (RL : Int))).setCell ⟨w.heap.size + 1, 0, none⟩ (.pointer (some TA))).setCell ⟨w.heap.size + 1, 1, none⟩ (.int .i64 (TL : Int))) from fun w5 w6 RA TA RL TL R T M5 M6 h1 hf1 h2 hf2 =>
        join_mid HQY.out HJA.out HJB.out HLY.out HMB.out HKM.out HMN.out HKL.out HWS.out h1 hf1 h2 hf2)
      refine cut_reg (fun a W => ∃ (RA TA : Addr) (RL TL : Nat) (R T : Pl wo G) (M6 : List (Value × Value)), a = { tmps := #[.pointer (some ⟨kq, 0, none⟩), .agg #[.pointer (some AA), .int .i64 (AL : Int)], .agg #[.pointer (some BA), .int .i64 (BL : Int)], undef, .pointer (some ⟨w.heap.size, 0, none⟩), .pointer (some ⟨w.heap.size + 1, 0, none⟩), .bool false, .pointer (some ⟨kq, 0, none⟩), .pointer (some ⟨kq, 0, none⟩), .pointer (some ⟨kq, 0, none⟩), .int .i64 (N : Int), .pointer (some ⟨w.heap.size, 1, none⟩), .int .i64 (AL : Int), .int .i64 ((N : Int) + (AL : Int)), .pointer (some ⟨kq, 0, none⟩), .pointer (some ⟨kq, 0, none⟩), .pointer (some ⟨kq, 0, none⟩), .pointer (some ⟨kq, 0, none⟩), .pointer (some ⟨kq, 0, none⟩), .int .i64 ((N : Int) + (AL : Int)), .bool false, undef, undef, undef, .pointer (some ⟨kq, 0, none⟩), .pointer (some ⟨kq, 0, none⟩), .pointer (some ⟨kq, 1, none⟩), .map none, .bool true, .pointer (some ⟨kq, 0, none⟩), .map (some mb), .pointer (some ⟨kq, 0, none⟩), .pointer (some ⟨kq, 1, none⟩), .pointer (some ⟨kq, 0, none⟩), .agg #[.pointer (some AA), .int .i64 (AL : Int)], .agg #[.pointer (some RA), .int .i64 (RL : Int)], .pointer (some ⟨kq, 0, none⟩), .agg #[.pointer (some BA), .int .i64 (BL : Int)], .agg #[.pointer (some TA), .int .i64 (TL : Int)], undef, undef, undef, undef, undef, undef, undef, undef, undef], defers := [] } ∧ JoinMid E A B kq mb N AL w Wy RA TA RL TL R T M6 W) ?_ ?_
      · go_region_law (first
          | (go_simp; go_at_call 147; with_reducible refine Calls.mono HC1.out ?_; rintro r w5 ⟨RA, RL, R, M5, rfl, hr5, hf5⟩; have HR5 := Lib.hid hr5; have HF5 := Lib.hid hf5; obtain ⟨hbxa, hbxb⟩ := HBX.out w5 hf5; obtain ⟨b2, b3, bf2⟩ := hbxb.cells; have HC3 := Lib.hid (HC2.out w5 M5 hf5 hr5.2.2.2.1 hr5.2.2.2.2.1 hr5.2.2.2.2.2.1); clear hr5 hf5 hbxa hbxb)
          | (go_simp; go_at_call 147; with_reducible refine Calls.mono HC3.out ?_; rintro r w6 ⟨TA, TL, T, M6, rfl, hr6, hf6⟩; have HR6 := Lib.hid hr6; have HF6 := Lib.hid hf6; obtain ⟨hbxa, hbxb⟩ := HBX.out w6 (HF5.out.trans hf6 (fun x h => Or.inl h)); obtain ⟨c0, c1, cf⟩ := hbxa.cells; obtain ⟨d0, d1, df⟩ := hbxb.cells; have halt6 := hbxa.lt; have hblt6 := hbxb.lt; clear hr6 hf6 hbxa hbxb))
        all_goals exact ⟨RA, TA, RL, TL, R, T, M6, rfl, HFIN.out w5 w6 RA TA RL TL R T M5 M6 HR5.out HF5.out HR6.out HF6.out⟩
      rintro _ Wz ⟨RA, TA, RL, TL, R, T, M6, rfl, hmid⟩
      have HMID := Lib.hid hmid
      obtain ⟨e0, e1, ef⟩ := hmid.ab.cells
      obtain ⟨g0, g1, gf⟩ := hmid.bb.cells
      obtain ⟨q0, q1, qf⟩ := hmid.q.cells
      have hqlt := hmid.q.lt
      have halt := hmid.ab.lt
      have hblt := hmid.bb.lt
      clear hmid a0 a1 af b0 b1 bf
      obtain ⟨i0, hi, -, hz, -⟩ := info_parts Try.infoEx
      have hz : i0.size ≠ 0 := by omega
      have hfZ : ∀ p : Pl wo G, FreeB Wz p.adr.block := Pl.free HALL2.out HMID.out.low
      have HFZ := Lib.hid hfZ
      have he1 : (Op.equalIn 9999 154 (.pointer (some RA)) (.pointer (some TA))).run Try.prog Wz = .ok (decide (RA = TA)) Wz := eq_ptr (P := Try.prog) Try.underlying154 hi hz (by rw [HMID.out.ra]; exact hfZ R) (by rw [HMID.out.ta]; exact hfZ T) 9998
      have HYES := Lib.hid (show RA = TA → RL = TL → JoinedPost E A B kq N none w (.returned (.bool true)) Wz from fun h1 h2 => ⟨true, some mb, rfl, fun _ => ⟨HMID.out.same h1 h2, by rw [HSIZE.out]; exact HMID.out.st HMB.out⟩, (fun h => by cases h), (HFRY.out.trans (HMID.out.fr) (fun x h => by simp at h; rcases h with rfl | rfl | rfl; exact HNEW.out.elim (fun h => Or.inl (List.mem_cons_of_mem _ h)) Or.inr; exact Or.inr (Nat.le_refl _); exact Or.inr (Nat.le_succ _))), fun j hj => by simp at hj; subst hj; exact HNEW.out⟩)
      clear hi hz hfZ
      have HUPD := Lib.hid (HMID.out.upd HMB.out HFZ.out)
      by_cases hAA : RA = TA
      · rw [decide_eq_true hAA] at he1
        by_cases hLL : (RL : Int) = (TL : Int)
        · have HF := Lib.hid (HYES.out hAA (by omega))
          clear hAA
          go_wp2_with fail
          go_ret
          exact HF.out
        · have HNK := Lib.hid (show R.key ≠ T.key from HMID.out.diff (Or.inr (by omega)))
          clear hAA
          obtain ⟨W5, hrun, hst5, hf5⟩ := HUPD.out HNK.out
          have HS5 := Lib.hid (show JoinedPost E A B kq N none w (.returned (.bool false)) W5 from ⟨false, some mb, rfl, (fun h => by cases h), (fun _ => by rw [HSIZE.out]; exact hst5), (HFRY.out.trans (HMID.out.fr) (fun x h => by simp at h; rcases h with rfl | rfl | rfl; exact HNEW.out.elim (fun h => Or.inl (List.mem_cons_of_mem _ h)) Or.inr; exact Or.inr (Nat.le_refl _); exact Or.inr (Nat.le_succ _))).trans hf5 (fun x h => by simp at h; subst h; exact HNEW.out.elim (fun h => Or.inl (List.mem_cons_of_mem _ h)) Or.inr), fun j hj => by simp at hj; subst hj; exact HNEW.out⟩)
          have HBZ := Lib.hid (show Wz.drew.cell? ⟨kq, 1, none⟩ = some (.map (some mb)) ∧ Wz.drew.cell? ⟨w.heap.size, 0, none⟩ = some (.pointer (some RA)) ∧ Wz.drew.cell? ⟨w.heap.size, 1, none⟩ = some (.int .i64 (RL : Int)) ∧ Wz.drew.cell? ⟨w.heap.size + 1, 0, none⟩ = some (.pointer (some TA)) ∧ Wz.drew.cell? ⟨w.heap.size + 1, 1, none⟩ = some (.int .i64 (TL : Int)) from ⟨q1, e0, e1, g0, g1⟩)
          have k5 : ∀ j o, j < Wz.heap.size → j ≠ mb → W5.cell? ⟨j, o, none⟩ = Wz.cell? ⟨j, o, none⟩ := fun j o h1 h2 => World.cell?_of_block (w := Wz) (hf5.block j h1 (by simpa using h2))
          have HBZ5 := Lib.hid (show W5.cell? ⟨kq, 1, none⟩ = some (.map (some mb)) ∧ W5.cell? ⟨w.heap.size, 0, none⟩ = some (.pointer (some RA)) ∧ W5.cell? ⟨w.heap.size, 1, none⟩ = some (.int .i64 (RL : Int)) ∧ W5.cell? ⟨w.heap.size + 1, 0, none⟩ = some (.pointer (some TA)) ∧ W5.cell? ⟨w.heap.size + 1, 1, none⟩ = some (.int .i64 (TL : Int)) from ⟨(k5 _ _ hqlt HKM.out).trans q1, (k5 _ _ halt HMN.out.1).trans e0, (k5 _ _ halt HMN.out.1).trans e1, (k5 _ _ hblt HMN.out.2).trans g0, (k5 _ _ hblt HMN.out.2).trans g1⟩)
          clear hst5 hf5 k5
          go_wp2_with fail
          go_region_held3 (fun X => X.cell? ⟨kq, 1, none⟩ = some (.map (some mb)) ∧ X.cell? ⟨w.heap.size, 0, none⟩ = some (.pointer (some RA)) ∧ X.cell? ⟨w.heap.size, 1, none⟩ = some (.int .i64 (RL : Int)) ∧ X.cell? ⟨w.heap.size + 1, 0, none⟩ = some (.pointer (some TA)) ∧ X.cell? ⟨w.heap.size + 1, 1, none⟩ = some (.int .i64 (TL : Int)))
            (first
            | exact HBZ.out
            | exact HBZ5.out)
            (fail)
          all_goals
            clear ‹_ ∧ _›
            go_wp2_with fail
            go_ret
            exact HS5.out
      · rw [decide_eq_false hAA] at he1
        have HNK := Lib.hid (show R.key ≠ T.key from HMID.out.diff (Or.inl hAA))
        clear hAA
        obtain ⟨W5, hrun, hst5, hf5⟩ := HUPD.out HNK.out
        have HS5 := Lib.hid (show JoinedPost E A B kq N none w (.returned (.bool false)) W5 from ⟨false, some mb, rfl, (fun h => by cases h), (fun _ => by rw [HSIZE.out]; exact hst5), (HFRY.out.trans (HMID.out.fr) (fun x h => by simp at h; rcases h with rfl | rfl | rfl; exact HNEW.out.elim (fun h => Or.inl (List.mem_cons_of_mem _ h)) Or.inr; exact Or.inr (Nat.le_refl _); exact Or.inr (Nat.le_succ _))).trans hf5 (fun x h => by simp at h; subst h; exact HNEW.out.elim (fun h => Or.inl (List.mem_cons_of_mem _ h)) Or.inr), fun j hj => by simp at hj; subst hj; exact HNEW.out⟩)
        have HBZ := Lib.hid (show Wz.drew.cell? ⟨kq, 1, none⟩ = some (.map (some mb)) ∧ Wz.drew.cell? ⟨w.heap.size, 0, none⟩ = some (.pointer (some RA)) ∧ Wz.drew.cell? ⟨w.heap.size, 1, none⟩ = some (.int .i64 (RL : Int)) ∧ Wz.drew.cell? ⟨w.heap.size + 1, 0, none⟩ = some (.pointer (some TA)) ∧ Wz.drew.cell? ⟨w.heap.size + 1, 1, none⟩ = some (.int .i64 (TL : Int)) from ⟨q1, e0, e1, g0, g1⟩)
        have k5 : ∀ j o, j < Wz.heap.size → j ≠ mb → W5.cell? ⟨j, o, none⟩ = Wz.cell? ⟨j, o, none⟩ := fun j o h1 h2 => World.cell?_of_block (w := Wz) (hf5.block j h1 (by simpa using h2))
        have HBZ5 := Lib.hid (show W5.cell? ⟨kq, 1, none⟩ = some (.map (some mb)) ∧ W5.cell? ⟨w.heap.size, 0, none⟩ = some (.pointer (some RA)) ∧ W5.cell? ⟨w.heap.size, 1, none⟩ = some (.int .i64 (RL : Int)) ∧ W5.cell? ⟨w.heap.size + 1, 0, none⟩ = some (.pointer (some TA)) ∧ W5.cell? ⟨w.heap.size + 1, 1, none⟩ = some (.int .i64 (TL : Int)) from ⟨(k5 _ _ hqlt HKM.out).trans q1, (k5 _ _ halt HMN.out.1).trans e0, (k5 _ _ halt HMN.out.1).trans e1, (k5 _ _ hblt HMN.out.2).trans g0, (k5 _ _ hblt HMN.out.2).trans g1⟩)
        clear hst5 hf5 k5
        go_wp2_with fail
        go_region_held3 (fun X => X.cell? ⟨kq, 1, none⟩ = some (.map (some mb)) ∧ X.cell? ⟨w.heap.size, 0, none⟩ = some (.pointer (some RA)) ∧ X.cell? ⟨w.heap.size, 1, none⟩ = some (.int .i64 (RL : Int)) ∧ X.cell? ⟨w.heap.size + 1, 0, none⟩ = some (.pointer (some TA)) ∧ X.cell? ⟨w.heap.size + 1, 1, none⟩ = some (.int .i64 (TL : Int)))
          (first
          | exact HBZ.out
          | exact HBZ5.out)
          (fail)
        all_goals
          clear ‹_ ∧ _›
          go_wp2_with fail
          go_ret
          exact HS5.out
    | some mb =>
      obtain ⟨hmb9, M, hmy, hey, hfy⟩ := HE1.out.map mb rfl
      have hml9 := HLT.out mb (by simp)
      have HMY := Lib.hid hmy
      have HEY := Lib.hid hey
      have HFY := Lib.hid hfy
      have HMB := Lib.hid hmb9
      have HKM := Lib.hid (show kq ≠ mb from fun e => by
        have h1 := HQ1.out
        obtain ⟨es, clock, h2, -⟩ := hmy.is
        unfold EqBox at h1
        rw [e, h2] at h1
        cases h1)
      have HMN := Lib.hid (show w.heap.size ≠ mb ∧ w.heap.size + 1 ≠ mb by omega)
      have HNEW := Lib.hid (show mb ∈ (some mb : Option Nat).toList ∨ w.heap.size ≤ mb from Or.inl (by simp))
      have HQY := HQ1
      have HJA := HJ1
      have HJB := HJ2
      have HLY := HL1
      have HFRY := HFR1
      clear hmy hey hfy hmb9 hml9
      go_wp2_with fail
      clear a0 a1 af b0 b1 bf p0 p1 pf hplt halt hblt
      have hw0 := HKL.out
      have HC1 := Lib.hid (own_end2 E A AA AL HAADR.out HSIZE.out.symm kq mb ((N : Int) + (AL : Int)) M W1.drew HQY.out HMY.out HEY.out HFY.out HLY.out.drew HMB.out HALL2.out)
      have HC2 := Lib.hid (fun (w5 : World) (M5 : List (Value × Value)) (hf : Fr [mb] W1.drew w5) (hm : MapSt w5 mb M5) (he : Ent E M5) (hF : Forest M5) => own_end2 E B BA BL HBADR.out HBLEN.out kq mb ((N : Int) + (AL : Int)) M5 w5 (HQY.out.on (hf.block _ HQY.out.lt (by simpa using HKM.out))) hm he hF (HLY.out.drew.trans (hf.below (fun x h => by have := HMB.out; simp at h; omega) HLY.out.size)) HMB.out HALL2.out)
      have HBX := Lib.hid (show ∀ (w5 : World), Fr [mb] W1.drew w5 → PlBox w5 w.heap.size (.pointer (some AA)) (.int .i64 (AL : Int)) ∧ PlBox w5 (w.heap.size + 1) (.pointer (some BA)) (.int .i64 (BL : Int)) from fun w5 hf => ⟨HJA.out.on (hf.block _ HJA.out.lt (by simpa using HMN.out.1)), HJB.out.on (hf.block _ HJB.out.lt (by simpa using HMN.out.2))⟩)
      obtain ⟨a0, a1, af⟩ := HJA.out.cells
      obtain ⟨b0, b1, bf⟩ := HJB.out.cells
      have HFIN := Lib.hid (show ∀ (w5 w6 : World) (RA TA : Addr) (RL TL : Nat) (R T : Pl wo G) (M5 M6 : List (Value × Value)), RA = R.adr ∧ RL = R.exs.length ∧ Conn E A R ∧ MapSt w5 mb M5 ∧ Ent E M5 ∧ Forest M5 ∧ (∀ x ∈ M5, x.1 ≠ R.key) ∧ (∀ k, (∀ x ∈ M, x.1 ≠ k) → ∀ x ∈ M5, x.1 ≠ k) → Fr [mb] W1.drew w5 →
          TA = T.adr ∧ TL = T.exs.length ∧ Conn E B T ∧ MapSt w6 mb M6 ∧ Ent E M6 ∧ Forest M6 ∧ (∀ x ∈ M6, x.1 ≠ T.key) ∧ (∀ k, (∀ x ∈ M5, x.1 ≠ k) → ∀ x ∈ M6, x.1 ≠ k) → Fr [mb] w5 w6 →
          JoinMid E A B kq mb N AL w W1 RA TA RL TL R T M6 ((((w6.setCell ⟨w.heap.size, 0, none⟩ (.pointer (some RA))).setCell ⟨w.heap.size, 1, none⟩ (.int .i64 (RL : Int))).setCell ⟨w.heap.size + 1, 0, none⟩ (.pointer (some TA))).setCell ⟨w.heap.size + 1, 1, none⟩ (.int .i64 (TL : Int))) from fun w5 w6 RA TA RL TL R T M5 M6 h1 hf1 h2 hf2 =>
        join_mid HQY.out HJA.out HJB.out HLY.out HMB.out HKM.out HMN.out HKL.out HWS.out h1 hf1 h2 hf2)
      refine cut_reg (fun a W => ∃ (RA TA : Addr) (RL TL : Nat) (R T : Pl wo G) (M6 : List (Value × Value)), a = { tmps := #[.pointer (some ⟨kq, 0, none⟩), .agg #[.pointer (some AA), .int .i64 (AL : Int)], .agg #[.pointer (some BA), .int .i64 (BL : Int)], undef, .pointer (some ⟨w.heap.size, 0, none⟩), .pointer (some ⟨w.heap.size + 1, 0, none⟩), .bool false, .pointer (some ⟨kq, 0, none⟩), .pointer (some ⟨kq, 0, none⟩), .pointer (some ⟨kq, 0, none⟩), .int .i64 (N : Int), .pointer (some ⟨w.heap.size, 1, none⟩), .int .i64 (AL : Int), .int .i64 ((N : Int) + (AL : Int)), .pointer (some ⟨kq, 0, none⟩), .pointer (some ⟨kq, 0, none⟩), .pointer (some ⟨kq, 0, none⟩), .pointer (some ⟨kq, 0, none⟩), .pointer (some ⟨kq, 0, none⟩), .int .i64 ((N : Int) + (AL : Int)), .bool false, undef, undef, undef, .pointer (some ⟨kq, 0, none⟩), .pointer (some ⟨kq, 0, none⟩), .pointer (some ⟨kq, 1, none⟩), .map (some mb), .bool false, undef, undef, undef, undef, .pointer (some ⟨kq, 0, none⟩), .agg #[.pointer (some AA), .int .i64 (AL : Int)], .agg #[.pointer (some RA), .int .i64 (RL : Int)], .pointer (some ⟨kq, 0, none⟩), .agg #[.pointer (some BA), .int .i64 (BL : Int)], .agg #[.pointer (some TA), .int .i64 (TL : Int)], undef, undef, undef, undef, undef, undef, undef, undef, undef], defers := [] } ∧ JoinMid E A B kq mb N AL w W1 RA TA RL TL R T M6 W) ?_ ?_
      · go_region_law (first
          | (go_simp; go_at_call 147; with_reducible refine Calls.mono HC1.out ?_; rintro r w5 ⟨RA, RL, R, M5, rfl, hr5, hf5⟩; have HR5 := Lib.hid hr5; have HF5 := Lib.hid hf5; obtain ⟨hbxa, hbxb⟩ := HBX.out w5 hf5; obtain ⟨b2, b3, bf2⟩ := hbxb.cells; have HC3 := Lib.hid (HC2.out w5 M5 hf5 hr5.2.2.2.1 hr5.2.2.2.2.1 hr5.2.2.2.2.2.1); clear hr5 hf5 hbxa hbxb)
          | (go_simp; go_at_call 147; with_reducible refine Calls.mono HC3.out ?_; rintro r w6 ⟨TA, TL, T, M6, rfl, hr6, hf6⟩; have HR6 := Lib.hid hr6; have HF6 := Lib.hid hf6; obtain ⟨hbxa, hbxb⟩ := HBX.out w6 (HF5.out.trans hf6 (fun x h => Or.inl h)); obtain ⟨c0, c1, cf⟩ := hbxa.cells; obtain ⟨d0, d1, df⟩ := hbxb.cells; have halt6 := hbxa.lt; have hblt6 := hbxb.lt; clear hr6 hf6 hbxa hbxb))
        all_goals exact ⟨RA, TA, RL, TL, R, T, M6, rfl, HFIN.out w5 w6 RA TA RL TL R T M5 M6 HR5.out HF5.out HR6.out HF6.out⟩
      rintro _ Wz ⟨RA, TA, RL, TL, R, T, M6, rfl, hmid⟩
      have HMID := Lib.hid hmid
      obtain ⟨e0, e1, ef⟩ := hmid.ab.cells
      obtain ⟨g0, g1, gf⟩ := hmid.bb.cells
      obtain ⟨q0, q1, qf⟩ := hmid.q.cells
      have hqlt := hmid.q.lt
      have halt := hmid.ab.lt
      have hblt := hmid.bb.lt
      clear hmid a0 a1 af b0 b1 bf
      obtain ⟨i0, hi, -, hz, -⟩ := info_parts Try.infoEx
      have hz : i0.size ≠ 0 := by omega
      have hfZ : ∀ p : Pl wo G, FreeB Wz p.adr.block := Pl.free HALL2.out HMID.out.low
      have HFZ := Lib.hid hfZ
      have he1 : (Op.equalIn 9999 154 (.pointer (some RA)) (.pointer (some TA))).run Try.prog Wz = .ok (decide (RA = TA)) Wz := eq_ptr (P := Try.prog) Try.underlying154 hi hz (by rw [HMID.out.ra]; exact hfZ R) (by rw [HMID.out.ta]; exact hfZ T) 9998
      have HYES := Lib.hid (show RA = TA → RL = TL → JoinedPost E A B kq N (some mb) w (.returned (.bool true)) Wz from fun h1 h2 => ⟨true, some mb, rfl, fun _ => ⟨HMID.out.same h1 h2, by rw [HSIZE.out]; exact HMID.out.st HMB.out⟩, (fun h => by cases h), (HFRY.out.trans (HMID.out.fr) (fun x h => by simp at h; rcases h with rfl | rfl | rfl; exact HNEW.out.elim (fun h => Or.inl (List.mem_cons_of_mem _ h)) Or.inr; exact Or.inr (Nat.le_refl _); exact Or.inr (Nat.le_succ _))), fun j hj => by simp at hj; subst hj; exact HNEW.out⟩)
      clear hi hz hfZ
      have HUPD := Lib.hid (HMID.out.upd HMB.out HFZ.out)
      by_cases hAA : RA = TA
      · rw [decide_eq_true hAA] at he1
        by_cases hLL : (RL : Int) = (TL : Int)
        · have HF := Lib.hid (HYES.out hAA (by omega))
          clear hAA
          go_wp2_with fail
          go_ret
          exact HF.out
        · have HNK := Lib.hid (show R.key ≠ T.key from HMID.out.diff (Or.inr (by omega)))
          clear hAA
          obtain ⟨W5, hrun, hst5, hf5⟩ := HUPD.out HNK.out
          have HS5 := Lib.hid (show JoinedPost E A B kq N (some mb) w (.returned (.bool false)) W5 from ⟨false, some mb, rfl, (fun h => by cases h), (fun _ => by rw [HSIZE.out]; exact hst5), (HFRY.out.trans (HMID.out.fr) (fun x h => by simp at h; rcases h with rfl | rfl | rfl; exact HNEW.out.elim (fun h => Or.inl (List.mem_cons_of_mem _ h)) Or.inr; exact Or.inr (Nat.le_refl _); exact Or.inr (Nat.le_succ _))).trans hf5 (fun x h => by simp at h; subst h; exact HNEW.out.elim (fun h => Or.inl (List.mem_cons_of_mem _ h)) Or.inr), fun j hj => by simp at hj; subst hj; exact HNEW.out⟩)
          have HBZ := Lib.hid (show Wz.drew.cell? ⟨kq, 1, none⟩ = some (.map (some mb)) ∧ Wz.drew.cell? ⟨w.heap.size, 0, none⟩ = some (.pointer (some RA)) ∧ Wz.drew.cell? ⟨w.heap.size, 1, none⟩ = some (.int .i64 (RL : Int)) ∧ Wz.drew.cell? ⟨w.heap.size + 1, 0, none⟩ = some (.pointer (some TA)) ∧ Wz.drew.cell? ⟨w.heap.size + 1, 1, none⟩ = some (.int .i64 (TL : Int)) from ⟨q1, e0, e1, g0, g1⟩)
          have k5 : ∀ j o, j < Wz.heap.size → j ≠ mb → W5.cell? ⟨j, o, none⟩ = Wz.cell? ⟨j, o, none⟩ := fun j o h1 h2 => World.cell?_of_block (w := Wz) (hf5.block j h1 (by simpa using h2))
          have HBZ5 := Lib.hid (show W5.cell? ⟨kq, 1, none⟩ = some (.map (some mb)) ∧ W5.cell? ⟨w.heap.size, 0, none⟩ = some (.pointer (some RA)) ∧ W5.cell? ⟨w.heap.size, 1, none⟩ = some (.int .i64 (RL : Int)) ∧ W5.cell? ⟨w.heap.size + 1, 0, none⟩ = some (.pointer (some TA)) ∧ W5.cell? ⟨w.heap.size + 1, 1, none⟩ = some (.int .i64 (TL : Int)) from ⟨(k5 _ _ hqlt HKM.out).trans q1, (k5 _ _ halt HMN.out.1).trans e0, (k5 _ _ halt HMN.out.1).trans e1, (k5 _ _ hblt HMN.out.2).trans g0, (k5 _ _ hblt HMN.out.2).trans g1⟩)
          clear hst5 hf5 k5
          go_wp2_with fail
          go_region_held3 (fun X => X.cell? ⟨kq, 1, none⟩ = some (.map (some mb)) ∧ X.cell? ⟨w.heap.size, 0, none⟩ = some (.pointer (some RA)) ∧ X.cell? ⟨w.heap.size, 1, none⟩ = some (.int .i64 (RL : Int)) ∧ X.cell? ⟨w.heap.size + 1, 0, none⟩ = some (.pointer (some TA)) ∧ X.cell? ⟨w.heap.size + 1, 1, none⟩ = some (.int .i64 (TL : Int)))
            (first
            | exact HBZ.out
            | exact HBZ5.out)
            (fail)
          all_goals
            clear ‹_ ∧ _›
            go_wp2_with fail
            go_ret
            exact HS5.out
      · rw [decide_eq_false hAA] at he1
        have HNK := Lib.hid (show R.key ≠ T.key from HMID.out.diff (Or.inl hAA))
        clear hAA
        obtain ⟨W5, hrun, hst5, hf5⟩ := HUPD.out HNK.out
        have HS5 := Lib.hid (show JoinedPost E A B kq N (some mb) w (.returned (.bool false)) W5 from ⟨false, some mb, rfl, (fun h => by cases h), (fun _ => by rw [HSIZE.out]; exact hst5), (HFRY.out.trans (HMID.out.fr) (fun x h => by simp at h; rcases h with rfl | rfl | rfl; exact HNEW.out.elim (fun h => Or.inl (List.mem_cons_of_mem _ h)) Or.inr; exact Or.inr (Nat.le_refl _); exact Or.inr (Nat.le_succ _))).trans hf5 (fun x h => by simp at h; subst h; exact HNEW.out.elim (fun h => Or.inl (List.mem_cons_of_mem _ h)) Or.inr), fun j hj => by simp at hj; subst hj; exact HNEW.out⟩)
        have HBZ := Lib.hid (show Wz.drew.cell? ⟨kq, 1, none⟩ = some (.map (some mb)) ∧ Wz.drew.cell? ⟨w.heap.size, 0, none⟩ = some (.pointer (some RA)) ∧ Wz.drew.cell? ⟨w.heap.size, 1, none⟩ = some (.int .i64 (RL : Int)) ∧ Wz.drew.cell? ⟨w.heap.size + 1, 0, none⟩ = some (.pointer (some TA)) ∧ Wz.drew.cell? ⟨w.heap.size + 1, 1, none⟩ = some (.int .i64 (TL : Int)) from ⟨q1, e0, e1, g0, g1⟩)
        have k5 : ∀ j o, j < Wz.heap.size → j ≠ mb → W5.cell? ⟨j, o, none⟩ = Wz.cell? ⟨j, o, none⟩ := fun j o h1 h2 => World.cell?_of_block (w := Wz) (hf5.block j h1 (by simpa using h2))
        have HBZ5 := Lib.hid (show W5.cell? ⟨kq, 1, none⟩ = some (.map (some mb)) ∧ W5.cell? ⟨w.heap.size, 0, none⟩ = some (.pointer (some RA)) ∧ W5.cell? ⟨w.heap.size, 1, none⟩ = some (.int .i64 (RL : Int)) ∧ W5.cell? ⟨w.heap.size + 1, 0, none⟩ = some (.pointer (some TA)) ∧ W5.cell? ⟨w.heap.size + 1, 1, none⟩ = some (.int .i64 (TL : Int)) from ⟨(k5 _ _ hqlt HKM.out).trans q1, (k5 _ _ halt HMN.out.1).trans e0, (k5 _ _ halt HMN.out.1).trans e1, (k5 _ _ hblt HMN.out.2).trans g0, (k5 _ _ hblt HMN.out.2).trans g1⟩)
        clear hst5 hf5 k5
        go_wp2_with fail
        go_region_held3 (fun X => X.cell? ⟨kq, 1, none⟩ = some (.map (some mb)) ∧ X.cell? ⟨w.heap.size, 0, none⟩ = some (.pointer (some RA)) ∧ X.cell? ⟨w.heap.size, 1, none⟩ = some (.int .i64 (RL : Int)) ∧ X.cell? ⟨w.heap.size + 1, 0, none⟩ = some (.pointer (some TA)) ∧ X.cell? ⟨w.heap.size + 1, 1, none⟩ = some (.int .i64 (TL : Int)))
          (first
          | exact HBZ.out
          | exact HBZ5.out)
          (fail)
        all_goals
          clear ‹_ ∧ _›
          go_wp2_with fail
          go_ret
          exact HS5.out
end Go.Proofs.Ytmndlhbgacgnlaa

namespace Go.Proofs.Ytmndlhbgacgnlaa
open Go Go.RowKit

theorem two_leaf (p q : Option Addr) : ∀ u ∈ [Value.pointer p, Value.pointer q], u.oneCell' = true := by
  intro u hu
  simp at hu
  rcases hu with rfl | rfl <;> rfl
/-- What a push of a pair leaves. -/
def Push2 (n₀ B k : Nat) (lv : Value) (xs ys : List Value) (W W2 : World) : Prop := ∃ g2 cap2, Boxed W2 B 156 (.slice (some ⟨g2, 0, none⟩) (k + 1) cap2) ∧ W2.ownsRow n₀ 155 2 (.slice (some ⟨g2, 0, none⟩) (k + 1) cap2) (k + 1) (xs ++ ys) ∧ Fr (B :: lv.ownBlock.toList) W W2 ∧ (lv.ownBlock = some g2 ∨ W.heap.size ≤ g2) ∧ g2 < W2.heap.size
theorem push2_mid {n₀ B Ba Bb k co g9 cap9 : Nat} {AO : Option Addr} {xs ys : List Value} {o : Obj} {va vb : Value} {W W2 : World}
    (hB : Boxed W B 156 (.slice AO k co)) (hA : Boxed W Ba 24 va) (hA2 : Boxed W Bb 24 vb) (hN : B ≠ Ba ∧ B ≠ Bb) (hR : W.ownsRow n₀ 155 2 (.slice AO k co) k xs)
    (hg : (W.drew.alloc o).grownBy W2 (Value.ownBlock (.slice AO k co))) (ho : W2.ownsRow n₀ 155 2 (.slice (some ⟨g9, 0, none⟩) (k + 1) cap9) (k + 1) (xs ++ ys)) (hat : Value.ownBlock (.slice AO k co) = some g9 ∨ g9 = W.heap.size + 1) (hlt : g9 < W2.heap.size) :
    (W2.cell? ⟨B, 0, none⟩ = some (.slice AO k co) ∧ W2.frozen? ⟨B, 0, none⟩ = false ∧ B < W2.heap.size ∧ W2.cell? ⟨Ba, 0, none⟩ = some va ∧ W2.cell? ⟨Bb, 0, none⟩ = some vb) ∧
    ((W2.setCell ⟨B, 0, none⟩ (.slice (some ⟨g9, 0, none⟩) (k + 1) cap9)).cell? ⟨Ba, 0, none⟩ = some va ∧ (W2.setCell ⟨B, 0, none⟩ (.slice (some ⟨g9, 0, none⟩) (k + 1) cap9)).cell? ⟨Bb, 0, none⟩ = some vb) ∧
    Push2 n₀ B k (.slice AO k co) xs ys W (W2.setCell ⟨B, 0, none⟩ (.slice (some ⟨g9, 0, none⟩) (k + 1) cap9)) := by
  have hs : (W.drew.alloc o).heap.size = W.heap.size + 1 := by simp
  have hold : ∀ j, j < W.heap.size → Value.ownBlock (.slice AO k co) ≠ some j → W2.heap[j]? = W.heap[j]? := fun j hj hne => (hg.block j (by omega) (fun e => hne e.symm)).trans (Below.heap_alloc W.drew _ j hj)
  have nb : ∀ (b : Nat) (t : TypeId) (v : Value), Boxed W b t v → t ≠ 155 → Value.ownBlock (.slice AO k co) ≠ some b := fun b t v h ht e => Boxed.not_row h ht hR e.symm
  have hB2 : Boxed W2 B 156 (.slice AO k co) := (hold B hB.lt (nb _ _ _ hB (by decide))).trans hB
  have hA' : Boxed W2 Ba 24 va := (hold Ba hA.lt (nb _ _ _ hA (by decide))).trans hA
  have hA2' : Boxed W2 Bb 24 vb := (hold Bb hA2.lt (nb _ _ _ hA2 (by decide))).trans hA2
  have hgB : g9 ≠ B := fun e => Boxed.not_row hB2 (by decide) ho (by simp [Value.ownBlock, e])
  have hfr0 : Fr (B :: (Value.ownBlock (.slice AO k co)).toList) W W2 := ⟨hg.os, hg.tape, hg.output, by have := hg.size; omega, fun j hj hn => hold j hj (fun e => hn (by simp [e]))⟩
  refine ⟨⟨hB2.cell, hB2.frozen, hB2.lt, hA'.cell, hA2'.cell⟩, ⟨(keepS (Ne.symm hN.1)).trans hA'.cell, (keepS (Ne.symm hN.2)).trans hA2'.cell⟩, g9, cap9, Boxed.set _ hB2, row_on ho (fun j hj => Below.heap_setCell _ _ _ _ (by rw [show j = g9 by simpa [Value.ownBlock, eq_comm] using hj]; exact hgB)), ?_, hat.imp id (fun h => by omega), by simpa [World.setCell] using hlt⟩
  exact hfr0.trans (T := [B]) (Fr.set _ _ _ (by simp)) (fun x hx => Or.inl (by simp at hx; simp [hx]))

set_option maxRecDepth 100000 in
set_option maxHeartbeats 4000000 in
theorem push2_any {R : World → Prop} (p : String) (ds : List Deferred) (n₀ B Ba Bb k co q c1 c2 i g1 o1 g2 o2 : Nat) (AO : Option Addr) (xs : List Value) (W : World) (v0 v1 v2 v6 v8 v9 v10 v11 v12 v13 v14 v15 v16 v17 v18 v19 v20 v21 v22 : Value)
    (hB : Boxed W B 156 (.slice AO k co)) (hBA : Boxed W Ba 24 (.slice (some ⟨g1, o1, none⟩) q c1)) (hBB : Boxed W Bb 24 (.slice (some ⟨g2, o2, none⟩) q c2)) (hBN : B ≠ Ba ∧ B ≠ Bb) (hR : W.ownsRow n₀ 155 2 (.slice AO k co) k xs)
    (hn : n₀ ≤ W.heap.size) (hk : k ≤ 2199023255552) (hi : i < q) (hRR : ∀ X, Push2 n₀ B k (.slice AO k co) xs [.pointer (some ⟨g1, o1 + i * 3, none⟩), .pointer (some ⟨g2, o2 + i * 3, none⟩)] W X → R X) :
    wpAny Try.prog .any (#[{ dst := some 12, op := Op.load 156 (Operand.tmp 3), type := 156, pos := p, after := #[], guard := none },
    { dst := some 13, op := Op.load 24 (Operand.tmp 4), type := 24, pos := p, after := #[], guard := none },
    { dst := some 14, op := Op.move (Operand.tmp 7), type := 3, pos := p, after := #[], guard := none },
    { dst := some 15, op := Op.indexAddr 24 (Operand.tmp 13) (Operand.tmp 14), type := 0, pos := p, after := #[{ on := 1, ground := Ground.data }, { on := 2, ground := Ground.data }], guard := none },
    { dst := some 16, op := Op.load 24 (Operand.tmp 5), type := 24, pos := p, after := #[], guard := none },
    { dst := some 17, op := Op.move (Operand.tmp 7), type := 3, pos := p, after := #[], guard := none },
    { dst := some 18, op := Op.indexAddr 24 (Operand.tmp 16) (Operand.tmp 17), type := 0, pos := p, after := #[{ on := 4, ground := Ground.data }, { on := 5, ground := Ground.data }], guard := none },
    { dst := some 19, op := Op.build 155 #[(0, Operand.tmp 15), (1, Operand.tmp 18)], type := 155, pos := p, after := #[{ on := 3, ground := Ground.data }, { on := 6, ground := Ground.data }], guard := none },
    { dst := some 20, op := Op.buildSlice 156 1 #[(0, Operand.tmp 19)], type := 156, pos := p, after := #[{ on := 7, ground := Ground.data }], guard := none },
    { dst := some 21, op := Op.call { callee := Callee.builtin Builtin.append, args := #[Operand.tmp 12, Operand.tmp 20], argTypes := #[156, 156] }, type := 156, pos := p, after := #[{ on := 0, ground := Ground.data }, { on := 8, ground := Ground.data }], guard := none },
    { dst := none, op := Op.store 156 (Operand.tmp 3) (Operand.tmp 21), type := 0, pos := p, after := #[{ on := 9, ground := Ground.data }, { on := 9, ground := Ground.chain }, { on := 0, ground := Ground.phase }, { on := 1, ground := Ground.phase }, { on := 2, ground := Ground.phase }, { on := 3, ground := Ground.phase }, { on := 4, ground := Ground.phase }, { on := 5, ground := Ground.phase }, { on := 6, ground := Ground.phase }, { on := 7, ground := Ground.phase }, { on := 8, ground := Ground.phase }, { on := 9, ground := Ground.phase }], guard := none }] : Array Oper) (onlyN R) 11 (Array.replicate 11 false) { tmps := #[v0, v1, v2, .pointer (some ⟨B, 0, none⟩), .pointer (some ⟨Ba, 0, none⟩), .pointer (some ⟨Bb, 0, none⟩), v6, .int .i64 (i : Int), v8, v9, v10, v11, v12, v13, v14, v15, v16, v17, v18, v19, v20, v21, v22], defers := ds } W.drew := by
  obtain ⟨i0, hif, hz0, hz1, hz2⟩ := info_parts Try.infoTwo
  have HI := Lib.hid (And.intro hif (And.intro hz0 (And.intro hz1 hz2)))
  clear hif hz0 hz1 hz2
  have hbc : W.cell? ⟨B, 0, none⟩ = some (.slice AO k co) := hB.cell
  have hbl : B < W.heap.size := hB.lt
  have hal : Ba < W.heap.size := hBA.lt
  have hbbl : Bb < W.heap.size := hBB.lt
  have hi0 : (0 : Int) ≤ (i : Int) := by omega
  have hi1 : (i : Int) < (q : Int) := by omega
  have HS0 := Lib.hid (show W.drew.cell? ⟨Ba, 0, none⟩ = some (.slice (some ⟨g1, o1, none⟩) q c1) ∧ W.drew.cell? ⟨Bb, 0, none⟩ = some (.slice (some ⟨g2, o2, none⟩) q c2) from ⟨hBA.cell, hBB.cell⟩)
  have HS1 := Lib.hid (show (W.drew.alloc (.cells #[.pointer (some ⟨g1, o1 + i * 3, none⟩), .pointer (some ⟨g2, o2 + i * 3, none⟩)] 155)).cell? ⟨Ba, 0, none⟩ = some (.slice (some ⟨g1, o1, none⟩) q c1) ∧ (W.drew.alloc (.cells #[.pointer (some ⟨g1, o1 + i * 3, none⟩), .pointer (some ⟨g2, o2 + i * 3, none⟩)] 155)).cell? ⟨Bb, 0, none⟩ = some (.slice (some ⟨g2, o2, none⟩) q c2) from
    ⟨(World.cell?_of_block (w := W.drew) (Below.heap_alloc W.drew _ _ hal)).trans hBA.cell, (World.cell?_of_block (w := W.drew) (Below.heap_alloc W.drew _ _ hbbl)).trans hBB.cell⟩)
  have HO1 := Lib.hid (show (W.drew.alloc (.cells #[.pointer (some ⟨g1, o1 + i * 3, none⟩), .pointer (some ⟨g2, o2 + i * 3, none⟩)] 155)).ownsRow n₀ 155 2 (.slice AO k co) k xs from World.ownsRow.alloc (w := W.drew) hR _)
  have HB := Lib.hid hB
  have HBA := Lib.hid hBA
  have HBB := Lib.hid hBB
  have HBN := Lib.hid hBN
  have HR := Lib.hid hR
  have HRR := Lib.hid hRR
  have CM := Lib.hid (show k + 1 ≤ maxLen by unfold maxLen; omega)
  have CB := Lib.hid (show (k + 1) * 16 ≤ 140737488355328 by omega)
  have CS := Lib.hid (show n₀ ≤ (W.drew.alloc (.cells #[.pointer (some ⟨g1, o1 + i * 3, none⟩), .pointer (some ⟨g2, o2 + i * 3, none⟩)] 155)).heap.size by simp; omega)
  clear hB hBA hBB hBN hR hRR hn hi
  refine wpAny_of_held (S := (fun X => X.cell? ⟨Ba, 0, none⟩ = some (.slice (some ⟨g1, o1, none⟩) q c1) ∧ X.cell? ⟨Bb, 0, none⟩ = some (.slice (some ⟨g2, o2, none⟩) q c2))) _ _ _ _ ?_
  have hHeld := HS0.out
  refine wpAnyH_take (i := 1) (oi := ({ dst := some 13, op := Op.load 24 (Operand.tmp 4), type := 24, pos := p, after := #[], guard := none } : Oper)) (v := .slice (some ⟨g1, o1, none⟩) q c1) rfl (by kernel_rfl) (by kernel_rfl) (by kernel_rfl) (fun _ _ _ h => h) (Or.inl ⟨by rfl, fun w hSw => ?_⟩) hHeld ?_
  · (try dsimp only at hSw)
    go_simp
  try simp only [Act.put, List.setIfInBounds_toArray, List.set_cons_zero, List.set_cons_succ]
  refine wpAnyH_take (i := 2) (oi := ({ dst := some 14, op := Op.move (Operand.tmp 7), type := 3, pos := p, after := #[], guard := none } : Oper)) (v := .int .i64 (i : Int)) rfl (by kernel_rfl) (by kernel_rfl) (by kernel_rfl) (fun _ _ _ h => h) (Or.inl ⟨by rfl, fun w hSw => ?_⟩) hHeld ?_
  · (try dsimp only at hSw)
    go_simp
  try simp only [Act.put, List.setIfInBounds_toArray, List.set_cons_zero, List.set_cons_succ]
  refine wpAnyH_take (i := 3) (oi := ({ dst := some 15, op := Op.indexAddr 24 (Operand.tmp 13) (Operand.tmp 14), type := 0, pos := p, after := #[{ on := 1, ground := Ground.data }, { on := 2, ground := Ground.data }], guard := none } : Oper)) (v := .pointer (some ⟨g1, o1 + i * 3, none⟩)) rfl (by kernel_rfl) (by kernel_rfl) (by kernel_rfl) (fun _ _ _ h => h) (Or.inl ⟨by rfl, fun w hSw => ?_⟩) hHeld ?_
  · (try dsimp only at hSw)
    go_simp
  try simp only [Act.put, List.setIfInBounds_toArray, List.set_cons_zero, List.set_cons_succ]
  refine wpAnyH_take (i := 4) (oi := ({ dst := some 16, op := Op.load 24 (Operand.tmp 5), type := 24, pos := p, after := #[], guard := none } : Oper)) (v := .slice (some ⟨g2, o2, none⟩) q c2) rfl (by kernel_rfl) (by kernel_rfl) (by kernel_rfl) (fun _ _ _ h => h) (Or.inl ⟨by rfl, fun w hSw => ?_⟩) hHeld ?_
  · (try dsimp only at hSw)
    go_simp
  try simp only [Act.put, List.setIfInBounds_toArray, List.set_cons_zero, List.set_cons_succ]
  refine wpAnyH_take (i := 5) (oi := ({ dst := some 17, op := Op.move (Operand.tmp 7), type := 3, pos := p, after := #[], guard := none } : Oper)) (v := .int .i64 (i : Int)) rfl (by kernel_rfl) (by kernel_rfl) (by kernel_rfl) (fun _ _ _ h => h) (Or.inl ⟨by rfl, fun w hSw => ?_⟩) hHeld ?_
  · (try dsimp only at hSw)
    go_simp
  try simp only [Act.put, List.setIfInBounds_toArray, List.set_cons_zero, List.set_cons_succ]
  refine wpAnyH_take (i := 6) (oi := ({ dst := some 18, op := Op.indexAddr 24 (Operand.tmp 16) (Operand.tmp 17), type := 0, pos := p, after := #[{ on := 4, ground := Ground.data }, { on := 5, ground := Ground.data }], guard := none } : Oper)) (v := .pointer (some ⟨g2, o2 + i * 3, none⟩)) rfl (by kernel_rfl) (by kernel_rfl) (by kernel_rfl) (fun _ _ _ h => h) (Or.inl ⟨by rfl, fun w hSw => ?_⟩) hHeld ?_
  · (try dsimp only at hSw)
    go_simp
  try simp only [Act.put, List.setIfInBounds_toArray, List.set_cons_zero, List.set_cons_succ]
  refine wpAnyH_take (i := 7) (oi := ({ dst := some 19, op := Op.build 155 #[(0, Operand.tmp 15), (1, Operand.tmp 18)], type := 155, pos := p, after := #[{ on := 3, ground := Ground.data }, { on := 6, ground := Ground.data }], guard := none } : Oper)) (v := .agg #[.pointer (some ⟨g1, o1 + i * 3, none⟩), .pointer (some ⟨g2, o2 + i * 3, none⟩)]) rfl (by kernel_rfl) (by kernel_rfl) (by kernel_rfl) (fun _ _ _ h => h) (Or.inl ⟨by rfl, fun w hSw => ?_⟩) hHeld ?_
  · (try dsimp only at hSw)
    go_simp
  try simp only [Act.put, List.setIfInBounds_toArray, List.set_cons_zero, List.set_cons_succ]
  refine wpAnyH_ready (rs := [0, 8]) (by kernel_rfl) (by simp) ?_
  refine AllReadyH.cons (o := ({ dst := some 12, op := Op.load 156 (Operand.tmp 3), type := 156, pos := p, after := #[], guard := none } : Oper)) rfl (fun K hK => ?_) ?_
  · go_simp
    refine hK.out _ _ HS0.out (fun hHeld => ?_)
    clear hK K
    try simp only [Act.put, List.setIfInBounds_toArray, List.set_cons_zero, List.set_cons_succ]
    refine wpAnyH_ready (rs := [8]) (by kernel_rfl) (by simp) ?_
    refine AllReadyH.cons (o := ({ dst := some 20, op := Op.buildSlice 156 1 #[(0, Operand.tmp 19)], type := 156, pos := p, after := #[{ on := 7, ground := Ground.data }], guard := none } : Oper)) rfl (fun K hK => ?_) AllReadyH.nil
    go_simp
    refine hK.out _ _ HS1.out (fun hHeld => ?_)
    clear hK K
    try simp only [Act.put, List.setIfInBounds_toArray, List.set_cons_zero, List.set_cons_succ]
    refine wpAnyH_ready (rs := [9]) (by kernel_rfl) (by simp) ?_
    refine AllReadyH.cons (o := ({ dst := some 21, op := Op.call { callee := Callee.builtin Builtin.append, args := #[Operand.tmp 12, Operand.tmp 20], argTypes := #[156, 156] }, type := 156, pos := p, after := #[{ on := 0, ground := Ground.data }, { on := 8, ground := Ground.data }], guard := none } : Oper)) rfl (fun K hK => ?_) AllReadyH.nil
    refine step_append_lies _ (by rfl) _ _ _ (by rfl) n₀ 155 i0 _ 2 16 Try.underlying156 HI.out.1 HI.out.2.1 HI.out.2.2.1 HI.out.2.2.2 rfl (by decide) (.slice AO k co) k xs (by rfl) HO1.out ⟨W.heap.size, 0, none⟩ 1 1 [.pointer (some ⟨g1, o1 + i * 3, none⟩), .pointer (some ⟨g2, o2 + i * 3, none⟩)] (by rfl) (by rfl) (World.news_of_block (heap_alloc_new W.drew _)) (two_leaf _ _) (by decide) CM.out CB.out CS.out (W.heap.size + 1) (by simp) ?_
    intro g9 cap9 W2 ho9 hg9 hat9 hlt9
    have HP := Lib.hid (push2_mid HB.out HBA.out HBB.out HBN.out HR.out hg9 ho9 hat9 hlt9)
    clear ho9 hg9 hat9 hlt9
    obtain ⟨hb9, hbf9, hbl9, hsa, hsb⟩ := HP.out.1
    refine hK.out _ _ ⟨hsa, hsb⟩ (fun hHeld => ?_)
    clear hK K
    try simp only [Act.put, List.setIfInBounds_toArray, List.set_cons_zero, List.set_cons_succ]
    refine wpAnyH_ready (rs := [10]) (by kernel_rfl) (by simp) ?_
    refine AllReadyH.cons (o := ({ dst := none, op := Op.store 156 (Operand.tmp 3) (Operand.tmp 21), type := 0, pos := p, after := #[{ on := 9, ground := Ground.data }, { on := 9, ground := Ground.chain }, { on := 0, ground := Ground.phase }, { on := 1, ground := Ground.phase }, { on := 2, ground := Ground.phase }, { on := 3, ground := Ground.phase }, { on := 4, ground := Ground.phase }, { on := 5, ground := Ground.phase }, { on := 6, ground := Ground.phase }, { on := 7, ground := Ground.phase }, { on := 8, ground := Ground.phase }, { on := 9, ground := Ground.phase }], guard := none } : Oper)) rfl (fun K hK => ?_) AllReadyH.nil
    go_simp
    refine hK.out _ _ HP.out.2.1 (fun hHeld => ?_)
    clear hK K
    refine wpAnyH_done (by kernel_rfl) ?_ _
    exact HRR.out _ HP.out.2.2
  · refine AllReadyH.cons (o := ({ dst := some 20, op := Op.buildSlice 156 1 #[(0, Operand.tmp 19)], type := 156, pos := p, after := #[{ on := 7, ground := Ground.data }], guard := none } : Oper)) rfl (fun K hK => ?_) AllReadyH.nil
    go_simp
    refine hK.out _ _ HS1.out (fun hHeld => ?_)
    clear hK K
    try simp only [Act.put, List.setIfInBounds_toArray, List.set_cons_zero, List.set_cons_succ]
    refine wpAnyH_ready (rs := [0]) (by kernel_rfl) (by simp) ?_
    refine AllReadyH.cons (o := ({ dst := some 12, op := Op.load 156 (Operand.tmp 3), type := 156, pos := p, after := #[], guard := none } : Oper)) rfl (fun K hK => ?_) AllReadyH.nil
    go_simp
    refine hK.out _ _ HS1.out (fun hHeld => ?_)
    clear hK K
    try simp only [Act.put, List.setIfInBounds_toArray, List.set_cons_zero, List.set_cons_succ]
    refine wpAnyH_ready (rs := [9]) (by kernel_rfl) (by simp) ?_
    refine AllReadyH.cons (o := ({ dst := some 21, op := Op.call { callee := Callee.builtin Builtin.append, args := #[Operand.tmp 12, Operand.tmp 20], argTypes := #[156, 156] }, type := 156, pos := p, after := #[{ on := 0, ground := Ground.data }, { on := 8, ground := Ground.data }], guard := none } : Oper)) rfl (fun K hK => ?_) AllReadyH.nil
    refine step_append_lies _ (by rfl) _ _ _ (by rfl) n₀ 155 i0 _ 2 16 Try.underlying156 HI.out.1 HI.out.2.1 HI.out.2.2.1 HI.out.2.2.2 rfl (by decide) (.slice AO k co) k xs (by rfl) HO1.out ⟨W.heap.size, 0, none⟩ 1 1 [.pointer (some ⟨g1, o1 + i * 3, none⟩), .pointer (some ⟨g2, o2 + i * 3, none⟩)] (by rfl) (by rfl) (World.news_of_block (heap_alloc_new W.drew _)) (two_leaf _ _) (by decide) CM.out CB.out CS.out (W.heap.size + 1) (by simp) ?_
    intro g9 cap9 W2 ho9 hg9 hat9 hlt9
    have HP := Lib.hid (push2_mid HB.out HBA.out HBB.out HBN.out HR.out hg9 ho9 hat9 hlt9)
    clear ho9 hg9 hat9 hlt9
    obtain ⟨hb9, hbf9, hbl9, hsa, hsb⟩ := HP.out.1
    refine hK.out _ _ ⟨hsa, hsb⟩ (fun hHeld => ?_)
    clear hK K
    try simp only [Act.put, List.setIfInBounds_toArray, List.set_cons_zero, List.set_cons_succ]
    refine wpAnyH_ready (rs := [10]) (by kernel_rfl) (by simp) ?_
    refine AllReadyH.cons (o := ({ dst := none, op := Op.store 156 (Operand.tmp 3) (Operand.tmp 21), type := 0, pos := p, after := #[{ on := 9, ground := Ground.data }, { on := 9, ground := Ground.chain }, { on := 0, ground := Ground.phase }, { on := 1, ground := Ground.phase }, { on := 2, ground := Ground.phase }, { on := 3, ground := Ground.phase }, { on := 4, ground := Ground.phase }, { on := 5, ground := Ground.phase }, { on := 6, ground := Ground.phase }, { on := 7, ground := Ground.phase }, { on := 8, ground := Ground.phase }, { on := 9, ground := Ground.phase }], guard := none } : Oper)) rfl (fun K hK => ?_) AllReadyH.nil
    go_simp
    refine hK.out _ _ HP.out.2.1 (fun hHeld => ?_)
    clear hK K
    refine wpAnyH_done (by kernel_rfl) ?_ _
    exact HRR.out _ HP.out.2.2
end Go.Proofs.Ytmndlhbgacgnlaa

namespace Go.Proofs.Ytmndlhbgacgnlaa
open Go Go.RowKit Go.Shelf
attribute [local go_sem] Oper.semAt_some

/-- An item with an index below m. -/
abbrev Ix (wo : World) (m : Nat) : Type := { x : It wo // x.1.1 < m }
def ixOf {wo : World} {m : Nat} (x : Ix wo m) : Nat := x.1.1.1
theorem ix_push {wo : World} (m k : Nat) (hk : k < m) (pre : List (Ix wo m)) (x : Ix wo m) (h : pre.map ixOf = ((List.range m).drop (k + 1)).reverse) (hx : ixOf x = k) : (pre ++ [x]).map ixOf = ((List.range m).drop k).reverse := by
  rw [List.drop_eq_getElem_cons (by simpa using hk), List.reverse_cons, List.map_append, h]
  simp [hx]

set_option maxRecDepth 100000 in
set_option maxHeartbeats 2000000 in
theorem back_ix (F : Fence) (n : Nat) (hF : F.fn 165) (hro : F.round = none) (hn : 1 ≤ n) (l Bs : Nat) (wo : World) (A : Option Addr) (m c : Nat) (L : List Ex) (bs : List Nat) (hsl : SlIs wo (.slice A m c) L bs)
    (J Jx : List (Ix wo m) → List Nat → World → Prop)
    (hY : ∀ pre x M W1, J pre M W1 → (∀ k ∈ M, k < W1.heap.size) → pre.length < m → YieldAt F (n - 1) Try.prog l #[.int .i64 (x.1.1.1 : Int), x.1.val] W1 fun e W2 =>
      (e = .returned (.bool true) ∧ J (pre ++ [x]) M W2 ∧ Kept wo.heap.size M W1 W2) ∨ (e = .returned (.bool false) ∧ Jx (pre ++ [x]) M W2 ∧ Kept wo.heap.size M W1 W2))
    (W : World) (hBs : W.cell? ⟨Bs, 0, none⟩ = some (.slice A m c)) (hW : Below wo.heap.size wo W) (h0 : J [] [Bs] W) :
    CallsIn F n Try.prog 165 #[.func (.yield l) #[] #[], .pointer (some ⟨Bs, 0, none⟩)] W fun e W2 => (∃ v, e = .returned v) ∧
      ((∃ (xs : List (Ix wo m)) (M : List Nat), xs.map ixOf = (List.range m).reverse ∧ J xs M W2) ∨ (∃ (pre : List (Ix wo m)) (M : List Nat), True ∧ Jx pre M W2)) := by
  obtain ⟨hm, hmc, hc⟩ := hsl.len
  have hm3 : (m : Int) ≤ 9223372036854775807 := by omega
  have HS := Lib.hid hsl
  have HM := Lib.hid hm
  have HY := Lib.hid hY
  have HW := Lib.hid hW
  clear hsl hm hY hW
  refine callsIn_of_wp Try.func165 rfl hF ?_ hro
  simp only [Try.ntmps165, List.size_toArray, List.length_cons, List.length_nil, Nat.reduceAdd, Nat.reduceSub, Array.replicate_succ, Array.replicate_zero, List.push_toArray, List.append_toArray, List.nil_append, List.cons_append]
  gi_wp2
  gi_loopw [3] (fun i wr => ∃ (z : Int), i = .int .i64 z ∧ -1 ≤ z ∧ z < m ∧ Hid (∃ (k : Nat) (pre : List (Ix wo m)), z = (k : Int) - 1 ∧ J pre [Bs] wr ∧ pre.map ixOf = ((List.range m).drop k).reverse) ∧ wr.cell? ⟨Bs, 0, none⟩ = some (.slice A m c) ∧ Hid (Below wo.heap.size wo wr))
    (fun i _ => (intOf i + 1).toNat)
  case atStart =>
    exact ⟨(m : Int) - 1, rfl, by omega, by omega, Lib.hid ⟨m, [], rfl, h0, by simp⟩, hBs, HW⟩
  case round =>
    obtain ⟨z, rfl, hz0, hz1, HJ, hbx, HB⟩ := hrel
    by_cases hlt : 0 ≤ z
    · obtain ⟨k1, pre, hk, hJs, hpre⟩ := HJ.out
      obtain ⟨k, rfl⟩ : ∃ k, k1 = k + 1 := ⟨k1 - 1, by omega⟩
      obtain rfl : z = (k : Int) := by omega
      have hsw : SlIs wr (.slice A m c) L bs := HS.out.below HB.out
      obtain ⟨g, o, e1, u, b1, rfl, hbl, hget, hmem, c1, c2, c3, -, -⟩ := hsw.get k (by rw [← HM.out]; omega)
      obtain ⟨g', o', e1', u', b1', hA', hbl', hget', hmem', c1', c2', c3', his, hsb⟩ := HS.out.get k (by rw [← HM.out]; omega)
      obtain ⟨rfl, rfl⟩ : g = g' ∧ o = o' := by cases hA'; exact ⟨rfl, rfl⟩
      obtain rfl : e1 = e1' := by rw [hget] at hget'; cases hget'; rfl
      obtain rfl : u = u' := by
        have h := HB.out.cell (p := ⟨g, o + k * 3 + 2, none⟩) hbl'
        rw [c3, c3'] at h
        cases h; rfl
      clear c1' c2' c3' hget' hmem' hA' hbl'
      have hkm : k < m := by omega
      have hlen : pre.length < m := by
        have h : (pre.map ixOf).length = ((List.range m).drop (k + 1)).reverse.length := by rw [hpre]
        simp at h
        omega
      obtain ⟨fn, tmps, assign, body, hy, hR⟩ := HY.out pre ⟨⟨(k, e1, u, b1'), his⟩, hkm⟩ [Bs] wr hJs (by
        intro k hk
        rw [List.mem_singleton] at hk
        subst hk
        obtain ⟨o, ho, -⟩ := cells_of_cell hbx
        exact (Array.getElem?_eq_some_iff.1 ho).1) hlen
      dsimp only [It.val] at hy
      have HPX := Lib.hid (ix_push m k hkm pre ⟨⟨(k, e1, u, b1'), his⟩, hkm⟩ hpre rfl)
      have HR := Lib.hid hR
      clear hR hJs hpre hget hmem hsw hk HJ hsb
      gi_wp2
      refine HR.out.mono ?_
      rintro e W3 (⟨rfl, hJ3, hk3, hkm3⟩ | ⟨rfl, hJx3, -⟩)
      · have HJ3 := Lib.hid hJ3
        have HB3 := Lib.hid (HB.out.trans hk3)
        have hbx3 : W3.cell? ⟨Bs, 0, none⟩ = some (.slice (some ⟨g, o, none⟩) m c) := (World.cell?_of_block (w := wr) (hkm3 Bs (by simp))).trans hbx
        clear hJ3 hk3 hkm3
        gi_wp2
        go_roundw
        case rel => exact ⟨(k : Int) - 1, by first | rfl | go_num, by omega, by omega, Lib.hid ⟨k, _, rfl, HJ3.out, HPX.out⟩, hbx3, HB3⟩
        case measure => first | (simp [intOf]; done) | (simp [intOf]; omega)
      · have HJ3 := Lib.hid hJx3
        clear hJx3
        gi_wp2
        refine bodyPost_ret (results_none rfl _ _ _) rfl ?_
        exact ⟨⟨_, rfl⟩, .inr ⟨_, _, trivial, HJ3.out⟩⟩
    · obtain rfl : z = -1 := by omega
      gi_wp2
      go_end0
      obtain ⟨k1, pre, hk, hJs, hpre⟩ := HJ.out
      obtain rfl : k1 = 0 := by omega
      exact ⟨⟨_, rfl⟩, .inl ⟨pre, by simpa using hpre, _, hJs⟩⟩

end Go.Proofs.Ytmndlhbgacgnlaa

namespace Go.Proofs.Ytmndlhbgacgnlaa
open Go Go.RowKit Go.Shelf
attribute [local go_sem] Oper.semAt_some

def ixCells (g1 o1 g2 o2 i : Nat) : List Value := [.pointer (some ⟨g1, o1 + i * 3, none⟩), .pointer (some ⟨g2, o2 + i * 3, none⟩)]
theorem pairs_flat {wo : World} {G : List Nat} {m g1 o1 g2 o2 : Nat} (zs : List (Pr wo G)) (hl : zs.length = m) (hz : ∀ i z, zs[i]? = some z → pcells z = ixCells g1 o1 g2 o2 i) : pflat zs.reverse = ((List.range m).reverse).flatMap (ixCells g1 o1 g2 o2) := by
  have h : zs.map pcells = (List.range m).map (ixCells g1 o1 g2 o2) := by
    apply List.ext_getElem?
    intro i
    rw [List.getElem?_map, List.getElem?_map]
    by_cases hi : i < zs.length
    · rw [List.getElem?_eq_getElem hi, List.getElem?_range (by omega)]
      simp [hz i _ (List.getElem?_eq_getElem hi)]
    · rw [List.getElem?_eq_none (by omega), List.getElem?_eq_none (by simp; omega)]
      rfl
  unfold pflat
  rw [List.flatMap_def, List.flatMap_def, List.map_reverse, List.map_reverse, h]
theorem kids_flat {wo : World} {G : List Nat} (P Q : Pl wo G) {m : Nat} (hm : m = P.exs.length) (hm2 : m = Q.exs.length) : pflat (P.kids.zip Q.kids).reverse = ((List.range m).reverse).flatMap (ixCells P.1.1 P.1.2.1 Q.1.1 Q.1.2.1) := by
  refine pairs_flat _ (by rw [List.length_zip, P.kids_len, Q.kids_len]; omega) (fun i z hz => ?_)
  obtain ⟨x, y⟩ := z
  rw [List.getElem?_zip_eq_some] at hz
  simp only [pcells, ixCells, P.kids_adr hz.1, Q.kids_adr hz.2]
theorem Pl.sl {wo : World} {G : List Nat} (P : Pl wo G) {m c : Nat} (hm : m = P.exs.length) (hc : m ≤ c) (hc2 : c ≤ 9223372036854775807) : ∃ bs, SlIs wo (.slice (some ⟨P.1.1, P.1.2.1, none⟩) m c) P.exs bs := by
  obtain ⟨⟨g, o, l, bs⟩, h1, h2, h3, h4⟩ := P
  subst hm
  refine ⟨g :: bs, _, c, rfl, hc, hc2, Or.inr ⟨g, o, bs, rfl, ?_, rfl, h1⟩⟩
  cases l with
  | nil => exact absurd rfl h4
  | cons e r =>
    simp only at h1
    rw [ExsAt] at h1
    obtain ⟨b1, b2, -, h5, -⟩ := h1
    obtain ⟨u, h6, -⟩ := h5.is
    exact World.block_lt_of_cell? wo _ h6
/-- What the loop holds. -/
def PairI (base B k : Nat) (xs0 : List Value) (g1 o1 g2 o2 : Nat) {wo : World} {m : Nat} (xs : List (Ix wo m)) (Fp : List Nat) (W : World) : Prop :=
  ∃ (AO : Option Addr) (co : Nat), Fp = B :: (Value.ownBlock (.slice AO (k + xs.length) co)).toList ∧ Boxed W B 156 (.slice AO (k + xs.length) co) ∧ W.ownsRow base 155 2 (.slice AO (k + xs.length) co) (k + xs.length) (xs0 ++ (xs.map ixOf).flatMap (ixCells g1 o1 g2 o2))
theorem pair_foot (base B k : Nat) (xs0 : List Value) (g1 o1 g2 o2 : Nat) {wo : World} {m : Nat} (xs : List (Ix wo m)) : Foot (PairI base B k xs0 g1 o1 g2 o2 xs) := by
  rintro Fp A C ⟨AO, co, rfl, h1, h2⟩ _ hk
  exact ⟨AO, co, rfl, box_on h1 (hk _ (by simp)), row_on h2 (fun j hj => hk _ (by simp [hj]))⟩
/-- Behind a push. -/
theorem pair_push {base B k : Nat} {xs0 : List Value} {g1 o1 g2 o2 : Nat} {wo : World} {m : Nat} {pre : List (Ix wo m)} {x : Ix wo m} {AO : Option Addr} {co : Nat} {W W2 : World} (hBl : B < W.heap.size) (h : Push2 base B (k + pre.length) (.slice AO (k + pre.length) co) (xs0 ++ (pre.map ixOf).flatMap (ixCells g1 o1 g2 o2)) (ixCells g1 o1 g2 o2 (ixOf x)) W W2) :
    ∃ Fp2, Fr (B :: (Value.ownBlock (.slice AO (k + pre.length) co)).toList) W W2 ∧ (∀ j ∈ Fp2, (j ∈ B :: (Value.ownBlock (.slice AO (k + pre.length) co)).toList ∨ W.heap.size ≤ j) ∧ j < W2.heap.size) ∧ PairI base B k xs0 g1 o1 g2 o2 (pre ++ [x]) Fp2 W2 := by
  obtain ⟨g, cap, h1, h2, h3, h4, h5⟩ := h
  refine ⟨_, h3, ?_, some ⟨g, 0, none⟩, cap, rfl, (by rw [List.length_append]; exact h1), by rw [List.length_append, List.map_append, List.flatMap_append, ← List.append_assoc, List.length_singleton, ← Nat.add_assoc]; simpa using h2⟩
  intro j hj
  rcases List.mem_cons.1 hj with rfl | hj
  · exact ⟨Or.inl (by simp), Nat.lt_of_lt_of_le hBl h3.size⟩
  · obtain rfl : j = g := by simpa [Value.ownBlock] using hj
    exact ⟨h4.imp (fun e => by simp [e]) id, h5⟩

set_option maxRecDepth 100000 in
set_option maxHeartbeats 2000000 in
theorem pairs_in (F : Fence) (n : Nat) (hFw : F = Fence.wide) (hro : F.round = none) (hF : ∀ k, F.fn k) (hn : 5 ≤ n) {wo : World} {G : List Nat} (P Q : Pl wo G) (m : Nat) (hm : m = P.exs.length) (hm2 : m = Q.exs.length) (ca cb : Nat) (hca : m ≤ ca) (hca2 : ca ≤ 9223372036854775807) (xs0 : List Value) (base k co : Nat) (AO : Option Addr) (w : World) (hlow : Below wo.heap.size wo w) (hbase : wo.heap.size ≤ base) (hbw : base ≤ w.heap.size) (hrow : w.ownsRow base 155 2 (.slice AO k co) k xs0) (hkb : k + m ≤ 2199023255552) :
    CallsIn F n Try.prog 112 #[.slice AO k co, .slice (some ⟨P.1.1, P.1.2.1, none⟩) m ca, .slice (some ⟨Q.1.1, Q.1.2.1, none⟩) m cb] w fun e w2 =>
      ∃ (AO2 : Option Addr) (co2 : Nat), e = .returned (.slice AO2 (k + m) co2) ∧ w2.ownsRow base 155 2 (.slice AO2 (k + m) co2) (k + m) (xs0 ++ pflat (P.kids.zip Q.kids).reverse) ∧ Fr (Value.ownBlock (.slice AO k co)).toList w w2 := by
  obtain ⟨bsP, hslP⟩ := P.sl hm hca hca2
  have HFL := Lib.hid (kids_flat P Q hm hm2)
  obtain ⟨g1, hg1⟩ : ∃ z, z = P.1.1 := ⟨_, rfl⟩
  obtain ⟨o1, ho1⟩ : ∃ z, z = P.1.2.1 := ⟨_, rfl⟩
  obtain ⟨g2, hg2⟩ : ∃ z, z = Q.1.1 := ⟨_, rfl⟩
  obtain ⟨o2, ho2⟩ : ∃ z, z = Q.1.2.1 := ⟨_, rfl⟩
  rw [← hg1, ← ho1] at hslP HFL ⊢
  rw [← hg2, ← ho2] at HFL ⊢
  have HSL := Lib.hid hslP
  have h1 : 1 ≤ n := by omega
  have HFW := Lib.hid hFw
  have HLOW := Lib.hid hlow
  have HROW := Lib.hid hrow
  have HBS := Lib.hid (And.intro hbase hbw)
  have HKB := Lib.hid hkb
  have HWS := Lib.hid hlow.size
  have hmi : (m : Int) ≤ 2199023255552 := by omega
  clear hslP hFw hlow hrow hbase hbw hkb hm hm2 hg1 ho1 hg2 ho2
  refine callsIn_of_wp_marks Try.func112 rfl (hF _) ?_ hro
  simp only [Try.ntmps112, List.size_toArray, List.length_cons, List.length_nil, Nat.reduceAdd, Nat.reduceSub, Array.replicate_succ, Array.replicate_zero, List.push_toArray, List.append_toArray, List.nil_append, List.cons_append]
  gi_wp2_with (gi_at_call 144; refine (backward_in F (n - 1) (hF _) hro _ _ _ _).mono ?_; rintro r w4 ⟨rfl, rfl⟩)
  obtain ⟨Bb, hBb⟩ : ∃ z, z = w.heap.size + 1 + 1 + 1 := ⟨_, rfl⟩
  obtain ⟨W0, hW0⟩ : ∃ W, W = (((w.alloc (.cells #[.slice AO k co] 156)).alloc (.cells #[.slice (some ⟨g1, o1, none⟩) m ca] 24)).alloc (.cells #[.slice (some ⟨g2, o2, none⟩) m cb] 24)).alloc (.cells #[.slice (some ⟨g1, o1, none⟩) m ca] 24) := ⟨_, rfl⟩
  rw [← hW0, ← hBb]
  have HX := Lib.hid (show Below w.heap.size w W0 ∧ W0.heap.size = w.heap.size + 4 ∧ Boxed W0 w.heap.size 156 (.slice AO k co) ∧ Boxed W0 (w.heap.size + 1) 24 (.slice (some ⟨g1, o1, none⟩) m ca) ∧ Boxed W0 (w.heap.size + 1 + 1) 24 (.slice (some ⟨g2, o2, none⟩) m cb) ∧ Boxed W0 Bb 24 (.slice (some ⟨g1, o1, none⟩) m ca) from by
    rw [hW0, hBb]
    obtain ⟨a1, e1⟩ : ∃ a, a = w.alloc (.cells #[.slice AO k co] 156) := ⟨_, rfl⟩
    obtain ⟨a2, e2⟩ : ∃ a, a = a1.alloc (.cells #[.slice (some ⟨g1, o1, none⟩) m ca] 24) := ⟨_, rfl⟩
    obtain ⟨a3, e3⟩ : ∃ a, a = a2.alloc (.cells #[.slice (some ⟨g2, o2, none⟩) m cb] 24) := ⟨_, rfl⟩
    obtain ⟨a4, e4⟩ : ∃ a, a = a3.alloc (.cells #[.slice (some ⟨g1, o1, none⟩) m ca] 24) := ⟨_, rfl⟩
    have s1 : a1.heap.size = w.heap.size + 1 := by rw [e1]; simp
    have s2 : a2.heap.size = w.heap.size + 1 + 1 := by rw [e2]; simp [s1]
    have s3 : a3.heap.size = w.heap.size + 1 + 1 + 1 := by rw [e3]; simp [s2]
    have s4 : a4.heap.size = w.heap.size + 4 := by rw [e4]; simp [s3]
    have n1 := Boxed.new w 156 (.slice AO k co)
    have n2 := Boxed.new a1 24 (.slice (some ⟨g1, o1, none⟩) m ca)
    have n3 := Boxed.new a2 24 (.slice (some ⟨g2, o2, none⟩) m cb)
    have n4 := Boxed.new a3 24 (.slice (some ⟨g1, o1, none⟩) m ca)
    rw [← e1, ← e2, ← e3, ← e4]
    rw [← e1] at n1
    rw [← e2, s1] at n2
    rw [← e3, s2] at n3
    rw [← e4, s3] at n4
    have k2 : ∀ j, j < a1.heap.size → a2.heap[j]? = a1.heap[j]? := fun j h => by rw [e2]; exact Below.heap_alloc _ _ _ h
    have k3 : ∀ j, j < a2.heap.size → a3.heap[j]? = a2.heap[j]? := fun j h => by rw [e3]; exact Below.heap_alloc _ _ _ h
    have k4 : ∀ j, j < a3.heap.size → a4.heap[j]? = a3.heap[j]? := fun j h => by rw [e4]; exact Below.heap_alloc _ _ _ h
    refine ⟨?_, s4, box_on n1 ((k4 _ (by omega)).trans ((k3 _ (by omega)).trans (k2 _ (by omega)))), box_on n2 ((k4 _ (by omega)).trans (k3 _ (by omega))), box_on n3 (k4 _ (by omega)), n4⟩
    rw [e4, e3, e2, e1]
    exact ((((Below.refl _ w).alloc (Nat.le_refl _) _).alloc (by simp) _).alloc (by simp; omega) _).alloc (by simp; omega) _)
  have HBB := Lib.hid hBb
  clear hW0 hBb
  have hws := HWS.out
  have hbs := HBS.out
  have hsz := HX.out.2.1
  have hbb := HBB.out
  have hown : ∀ j, Value.ownBlock (.slice AO k co) = some j → base ≤ j ∧ j < w.heap.size := fun j h => HROW.out.lt j h
  have HOWN := Lib.hid hown
  have HFR0 := Lib.hid (show ∀ X, Fr ((w.heap.size :: (Value.ownBlock (.slice AO k co)).toList) ++ [Bb]) W0 X → Boxed X (w.heap.size + 1) 24 (.slice (some ⟨g1, o1, none⟩) m ca) ∧ Boxed X (w.heap.size + 1 + 1) 24 (.slice (some ⟨g2, o2, none⟩) m cb) from fun X hf => by
    have hn : ∀ z, w.heap.size < z → z < Bb → z ∉ (w.heap.size :: (Value.ownBlock (.slice AO k co)).toList) ++ [Bb] := fun z h1 h2 h3 => by
      simp at h3
      rcases h3 with h3 | h3 | h3
      · omega
      · have := (hown z h3).2; omega
      · omega
    exact ⟨box_on HX.out.2.2.2.1 (hf.block _ (by omega) (hn _ (by omega) (by omega))), box_on HX.out.2.2.2.2.1 (hf.block _ (by omega) (hn _ (by omega) (by omega)))⟩)
  refine wpIn_rangeFunc_frame hro h1 (gf := 165) (lb := #[.pointer (some ⟨Bb, 0, none⟩)]) rfl (hF _) (enters_of Try.func165 (by kernel_rfl) rfl)
    (encs := fun y : Ix wo m => #[.int .i64 (y.1.1.1 : Int), y.1.val]) (n₀ := wo.heap.size) (S := fun xs => xs.map ixOf = (List.range m).reverse) (Sp := fun _ => True) (N := m) (M0 := [Bb]) (w0 := W0)
    (fun l2 J2 Jx2 X hX _ _ hY2 h02 => back_ix F (n - 1) (hF _) hro (by omega) l2 Bb wo (some ⟨g1, o1, none⟩) m ca P.exs bsP HSL.out J2 Jx2 hY2 X ((hX.cell (p := ⟨Bb, 0, none⟩) HX.out.2.2.2.2.2.lt).trans HX.out.2.2.2.2.2.cell) ((HLOW.out.trans (HX.out.1.mono hws)).trans (hX.mono (by omega))) h02)
    (Below.refl _ _) (by omega) (by simp; omega) (fun _ => rfl)
    (PairI base w.heap.size k xs0 g1 o1 g2 o2) (fun _ _ _ _ => False) (pair_foot _ _ _ _ _ _ _ _) (fun _ _ _ _ _ h _ _ => h)
    (w.heap.size :: (Value.ownBlock (.slice AO k co)).toList) ?fp ?start (fun pre x a2 Fp W => PairI base w.heap.size k xs0 g1 o1 g2 o2 pre Fp W ∧ a2 = { tmps := #[.slice AO k co, .slice (some ⟨g1, o1, none⟩) m ca, .slice (some ⟨g2, o2, none⟩) m cb, .pointer (some ⟨w.heap.size, 0, none⟩), .pointer (some ⟨w.heap.size + 1, 0, none⟩), .pointer (some ⟨w.heap.size + 1 + 1, 0, none⟩), .slice none 0 0, .int .i64 (x.1.1.1 : Int), .slice (some ⟨g1, o1, none⟩) m ca, .func (.func 165) #[] #[.pointer (some ⟨Bb, 0, none⟩)], .int .i64 (x.1.1.1 : Int), x.1.val, undef, undef, undef, undef, undef, undef, undef, undef, undef, undef, undef], defers := [] }) (fun xs x a2 Fp A C h h2 h3 => ⟨pair_foot _ _ _ _ _ _ _ _ xs Fp A C h.1 h2 h3, h.2⟩) ?assign ?body ?done ?stop
  case fp =>
    intro j hj
    rcases List.mem_cons.1 hj with rfl | hj
    · exact ⟨by omega, by omega, by simp; omega⟩
    · have := hown j (by simpa using hj)
      exact ⟨by omega, by omega, by simp; omega⟩
  case start =>
    exact ⟨AO, co, rfl, HX.out.2.2.1, by simpa using row_on HROW.out (fun j hj => HX.out.1.block _ (hown j hj).2)⟩
  case assign =>
    intro l2 pre x Fp X KX hI hFp hFr hK
    have HKX := Lib.hid hK
    have HI := Lib.hid hI
    have HFP := Lib.hid hFp
    clear hI hFp hFr hK hbb hsz hown
    gi_wp2
    exact HKX.out _ Fp _ (Fr.refl _ _) (fun j hj => ⟨Or.inl hj, (HFP.out j hj).2⟩) ⟨HI.out, rfl⟩
  case body =>
    rintro l2 pre x _ Fp X ⟨⟨AO2, co2, rfl, hb, hr⟩, rfl⟩ hFp hFr hlen
    obtain ⟨hba, hbb2⟩ := HFR0.out X hFr
    have hXs : base ≤ X.heap.size := by have := hFr.size; omega
    have hfw := HFW.out
    have hix : x.1.1.1 < m := x.2
    have hkk : k + pre.length ≤ 2199023255552 := by have := HKB.out; omega
    subst hfw
    have HPS := Lib.hid (fun (Y : World) (hY : Push2 base w.heap.size (k + pre.length) (.slice AO2 (k + pre.length) co2) (xs0 ++ (pre.map ixOf).flatMap (ixCells g1 o1 g2 o2)) (ixCells g1 o1 g2 o2 (ixOf x)) X Y) => pair_push hb.lt hY)
    have HB := Lib.hid hb
    have HR := Lib.hid hr
    have HBA := Lib.hid hba
    have HBB2 := Lib.hid hbb2
    have HXS := Lib.hid hXs
    have HIX := Lib.hid hix
    have HKK := Lib.hid hkk
    clear hb hr hba hbb2 hXs hix hkk hFp hFr hlen hown hbb hsz
    gi_wp2
    refine region_round (R := Push2 base w.heap.size (k + pre.length) (.slice AO2 (k + pre.length) co2) (xs0 ++ (pre.map ixOf).flatMap (ixCells g1 o1 g2 o2)) (ixCells g1 o1 g2 o2 (ixOf x)) X) (by kernel_rfl) (all_not (by rfl))
      (push2_any "l03_expr.go:238" [] base w.heap.size (w.heap.size + 1) (w.heap.size + 1 + 1) (k + pre.length) co2 m ca cb x.1.1.1 g1 o1 g2 o2 AO2 (xs0 ++ (pre.map ixOf).flatMap (ixCells g1 o1 g2 o2)) X _ _ _ _ _ _ _ _ _ _ _ _ _ _ _ _ _ _ _
        HB.out HBA.out HBB2.out ⟨by omega, by omega⟩ HR.out HXS.out HKK.out HIX.out (fun Y hY => hY)) (fun _ Y hY => ?_)
    exact HPS.out Y hY
  case done =>
    rintro D ks Fp X hD hDF hFl hS ⟨AO2, co2, rfl, hb, hr⟩ hFr hK
    have hlen : ks.length = m := by have := congrArg List.length hS; simpa using this
    rw [hS, ← HFL.out] at hr
    rw [hlen] at hb hr
    have hDl : D < X.heap.size := (Array.getElem?_eq_some_iff.1 hK).1
    have HF := Lib.hid (show ∀ o, Fr (Value.ownBlock (.slice AO k co)).toList w (X.putObj D o) from fun o => by
      refine ((Fr.of_below HX.out.1).trans hFr (fun z hz => ?_)).trans (Fr.put (S := [D]) X _ _ (by simp)) (fun z hz => ?_)
      · simp at hz
        rcases hz with rfl | hz | rfl
        · exact Or.inr (Nat.le_refl _)
        · exact Or.inl (by simp [hz])
        · right; omega
      · simp at hz
        subst hz
        right; omega)
    have HRP := Lib.hid (show ∀ o, (X.putObj D o).ownsRow base 155 2 (.slice AO2 (k + m) co2) (k + m) (xs0 ++ pflat (P.kids.zip Q.kids).reverse) from fun o => row_on hr (fun j hj => ?_))
    rotate_left
    · have hne : j ≠ D := fun e => hDF (by rw [hlen]; simp [← e, hj])
      exact (Fr.put (S := [D]) X D o (by simp)).block j (hr.lt j hj).2 (by simpa using hne)
    have hc := hb.cell
    have hbl := hb.lt
    have HK := Lib.hid hK
    clear hb hr hFr hK hlen hS hDl hFl hDF hbb hsz hown
    gi_wp2
    refine ⟨by simp, .inl ⟨_, _, rfl, run_takeDeferred HK.out, ?_⟩⟩
    first
    | exact ⟨_, results_tmp rfl _ _ _, AO2, co2, rfl, HRP.out _, HF.out _⟩
    | exact ⟨_, results_tmp rfl _ _ _, AO2, ⟨co2, rfl, HRP.out _⟩, HF.out _⟩
    | exact ⟨_, results_tmp rfl _ _ _, ⟨AO2, co2, rfl, HRP.out _⟩, HF.out _⟩
  case stop =>
    rintro D c2 pre2 Fp X _ _ _ _ h _ _
    exact h.elim
theorem own_pairs {wo : World} {G : List Nat} (P Q : Pl wo G) (m : Nat) (hm : m = P.exs.length) (hm2 : m = Q.exs.length) (ca cb : Nat) (hca : m ≤ ca) (hca2 : ca ≤ 9223372036854775807) (xs0 : List Value) (base k co : Nat) (AO : Option Addr) (w : World) (hlow : Below wo.heap.size wo w) (hbase : wo.heap.size ≤ base) (hbw : base ≤ w.heap.size) (hrow : w.ownsRow base 155 2 (.slice AO k co) k xs0) (hkb : k + m ≤ 2199023255552) :
    Calls Try.prog 112 #[.slice AO k co, .slice (some ⟨P.1.1, P.1.2.1, none⟩) m ca, .slice (some ⟨Q.1.1, Q.1.2.1, none⟩) m cb] w fun e w2 =>
      ∃ (AO2 : Option Addr) (co2 : Nat), e = .returned (.slice AO2 (k + m) co2) ∧ w2.ownsRow base 155 2 (.slice AO2 (k + m) co2) (k + m) (xs0 ++ pflat (P.kids.zip Q.kids).reverse) ∧ Fr (Value.ownBlock (.slice AO k co)).toList w w2 :=
  callsIn_wide.1 (pairs_in Fence.wide 5 rfl rfl (fun _ => trivial) (Nat.le_refl _) P Q m hm hm2 ca cb hca hca2 xs0 base k co AO w hlow hbase hbw hrow hkb)
end Go.Proofs.Ytmndlhbgacgnlaa

namespace Go.Proofs.Ytmndlhbgacgnlaa
open Go Go.RowKit

section
variable {wo : World} {G : List Nat}
/-- A place of an expression, seen from a later world. -/
def At.lift {w1 : World} {G1 : List Nat} (hb : Below wo.heap.size wo w1) (hG : ∀ z ∈ G, z ∈ G1) (x : At wo G) : At w1 G1 :=
  ⟨x.1, (ex_keeps (exSize x.1.2.2.1)).1 _ (Nat.le_refl _) wo w1 _ _ _ x.2.1 (by obtain ⟨u, h, -⟩ := x.2.1.is; exact World.block_lt_of_cell? wo _ h) (keeps_below hb _), hG _ x.2.2.1, fun z hz => hG z (x.2.2.2 z hz)⟩
theorem lift_ex {w1 : World} {G1 : List Nat} (hb : Below wo.heap.size wo w1) (hG : ∀ z ∈ G, z ∈ G1) (x : At wo G) : (At.lift hb hG x).ex = x.ex := rfl
def Pr.lift {w1 : World} {G1 : List Nat} (hb : Below wo.heap.size wo w1) (hG : ∀ z ∈ G, z ∈ G1) (p : Pr wo G) : Pr w1 G1 := (At.lift hb hG p.1, At.lift hb hG p.2)
theorem lift_flat {w1 : World} {G1 : List Nat} (hb : Below wo.heap.size wo w1) (hG : ∀ z ∈ G, z ∈ G1) (ps : List (Pr wo G)) : pflat (ps.map (Pr.lift hb hG)) = pflat ps := by
  induction ps with
  | nil => rfl
  | cons p r ih => rw [List.map_cons, pflat, List.flatMap_cons, ← pflat, ih]; rfl
theorem lift_weigh {w1 : World} {G1 : List Nat} (hb : Below wo.heap.size wo w1) (hG : ∀ z ∈ G, z ∈ G1) (ps : List (Pr wo G)) : weigh (ps.map (Pr.lift hb hG)) = weigh ps := by
  induction ps with
  | nil => rfl
  | cons p r ih => rw [List.map_cons, weigh, weigh, ih]; rfl
theorem lift_all {w1 : World} {G1 : List Nat} (hb : Below wo.heap.size wo w1) (hG : ∀ z ∈ G, z ∈ G1) (ps : List (Pr wo G)) : allEq (ps.map (Pr.lift hb hG)) = allEq ps := by
  unfold allEq
  rw [List.all_map]; rfl
theorem weigh_rev (ps : List (Pr wo G)) : weigh ps.reverse = weigh ps := by
  induction ps with
  | nil => rfl
  | cons p r ih => rw [List.reverse_cons, weigh_app, ih, weigh, weigh, weigh]; omega
/-- What lies in the slice cell of an expression of a later world whose arguments lie in the first. -/
def ArgsIn (w1 : World) (G1 : List Nat) (x : At w1 G1) : Prop := ∃ A c, w1.cell? ⟨x.1.1, x.1.2.1 + 2, none⟩ = some (.slice A x.ex.args.length c) ∧ x.ex.args.length ≤ c ∧ c ≤ 9223372036854775807 ∧ (x.ex.args = [] ∨ ∃ p : Pl wo G, A = some ⟨p.1.1, p.1.2.1, none⟩ ∧ p.exs = x.ex.args)
theorem lift_args {w1 : World} {G1 : List Nat} (hb : Below wo.heap.size wo w1) (hG : ∀ z ∈ G, z ∈ G1) (x : At wo G) : ArgsIn (wo := wo) (G := G) w1 G1 (At.lift hb hG x) := by
  obtain ⟨A, c, -, -, h3, -, h5, h6, h7⟩ := x.place
  exact ⟨A, c, (hb.cell (p := ⟨x.1.1, x.1.2.1 + 2, none⟩) (World.block_lt_of_cell? wo _ h3)).trans h3, h5, h6, h7⟩
/-- What a step keeps that turns the record alone. -/
structure IncB (w w1 : World) (G1 : List Nat) (kq : Nat) (mo : Option Nat) (wo : World) (W : World) : Prop where
  keep : ∀ z ∈ G1, z < w1.heap.size → W.heap[z]? = w1.heap[z]?
  low : Below wo.heap.size wo W
  fr : Fr (kq :: mo.toList) w W
  big : w1.heap.size ≤ W.heap.size
/-- What the loop holds. -/
structure Inc (w w1 : World) (G1 : List Nat) (a b : Ex) (kq N : Nat) (mo : Option Nat) (n : Nat) (AO : Option Addr) (co : Nat) (N2 : Nat) (mo2 : Option Nat) (E : List (Pl wo G × Pl wo G)) (ps : List (Pr w1 G1)) (W : World) : Prop where
  at_ : IncB w w1 G1 kq mo wo W
  st : EqSt E kq N2 mo2 W
  own : ∀ j ∈ mo2.toList, j ∈ mo.toList ∨ w.heap.size ≤ j
  sound : Sound E ps
  root : Done E a b ∨ ∃ q ∈ ps, q.1.ex = a ∧ q.2.ex = b
  yes : exEq a b = true → ∀ p ∈ ps, same p = true
  args : ∀ p ∈ ps, ArgsIn (wo := wo) (G := G) w1 G1 p.1 ∧ ArgsIn (wo := wo) (G := G) w1 G1 p.2
  row : W.ownsRow w1.heap.size 155 2 (.slice AO n co) n (pflat ps)
  len : n = ps.length
  size : N2 + weigh ps + 1 ≤ N + exSize a + ps.length
  wt : weigh ps ≤ exSize a
/-- What include leaves. -/
def IncPost (a b : Ex) (kq N : Nat) (mo : Option Nat) (w : World) (e : Ending) (w2 : World) : Prop :=
  ∃ (N2 : Nat) (mo2 : Option Nat), e = .returned (.bool (exEq a b)) ∧ Fr (kq :: mo.toList) w w2 ∧ (exEq a b = true → EqSt (wo := wo) (G := G) [] kq N2 mo2 w2 ∧ N2 ≤ N + exSize a ∧ ∀ j ∈ mo2.toList, j ∈ mo.toList ∨ w.heap.size ≤ j)
theorem EqSt.settle {w1 : World} {G1 : List Nat} {E : List (Pl wo G × Pl wo G)} {kq N : Nat} {mo : Option Nat} {W : World} (h : EqSt E kq N mo W) (hS : Sound (w1 := w1) (G1 := G1) E []) : EqSt (wo := wo) (G := G) [] kq N mo W :=
  ⟨h.q, fun mb e => by
    obtain ⟨h1, M, h2, h3, h4⟩ := h.map mb e
    refine ⟨h1, M, h2, fun x hx => ?_, h4⟩
    obtain ⟨u, v, e1, c⟩ := h3 x hx
    exact ⟨u, v, e1, Conn.same (hS.conn c)⟩⟩
variable {w w1 : World} {G1 : List Nat} {a b : Ex} {kq N : Nat} {mo : Option Nat} {n : Nat} {AO : Option Addr} {co N2 : Nat} {mo2 : Option Nat} {E : List (Pl wo G × Pl wo G)} {ps : List (Pr w1 G1)} {W : World}
theorem Inc.done (h : Inc w w1 G1 a b kq N mo 0 AO co N2 mo2 E ps W) : exEq a b = true ∧ IncPost (wo := wo) (G := G) a b kq N mo w (.returned (.bool (exEq a b))) W := by
  obtain rfl : ps = [] := List.eq_nil_of_length_eq_zero h.len.symm
  have he : exEq a b = true := by
    rcases h.root with h1 | ⟨q, hq, -⟩
    · exact (exEq_same a b).2 (h.sound.done h1)
    · cases hq
  exact ⟨he, N2, mo2, rfl, h.at_.fr, fun _ => ⟨h.st.settle h.sound, by have := h.size; simp [weigh] at this; omega, h.own⟩⟩
theorem Inc.no (h : Inc w w1 G1 a b kq N mo n AO co N2 mo2 E ps W) {p : Pr w1 G1} (hp : p ∈ ps) (hd : same p = false) {W2 : World} (hf : Fr (kq :: mo.toList) w W2) : IncPost (wo := wo) (G := G) a b kq N mo w (.returned (.bool false)) W2 := by
  have he : exEq a b = false := by
    cases h1 : exEq a b with
    | false => rfl
    | true => have := h.yes h1 p hp; rw [hd] at this; cases this
  exact ⟨N2, mo2, by rw [he], hf, fun h => by rw [he] at h; cases h⟩
/-- The first world's boxes. -/
structure IncW (wo w w1 : World) (G1 : List Nat) (kq : Nat) : Prop where
  g1 : ∀ z ∈ G1, z < wo.heap.size ∨ z = w.heap.size ∨ z = w.heap.size + 1
  b1 : ∃ c t f, w1.heap[w.heap.size]? = some (.cells c t f)
  b2 : ∃ c t f, w1.heap[w.heap.size + 1]? = some (.cells c t f)
  sz : w1.heap.size = w.heap.size + 1 + 1
  kq1 : wo.heap.size ≤ kq
  kq2 : kq < w.heap.size
  le : wo.heap.size ≤ w.heap.size
theorem cells_not_map {W : World} {z mb : Nat} {M : List (Value × Value)} (hm : MapSt W mb M) (hc : ∃ c t f, W.heap[z]? = some (.cells c t f)) : z ≠ mb := fun e => by
  obtain ⟨es, clock, h, -⟩ := hm.is
  obtain ⟨c, t, f, h2⟩ := hc
  rw [e, h] at h2
  cases h2
theorem IncB.move (h : IncB w w1 G1 kq mo wo W) (hw : IncW wo w w1 G1 kq) (hst : EqSt E kq N2 mo2 W) (hown : ∀ j ∈ mo2.toList, j ∈ mo.toList ∨ w.heap.size ≤ j) {W2 : World} (hf : Fr (kq :: mo2.toList) W W2) : IncB w w1 G1 kq mo wo W2 := by
  have hws := h.big
  refine ⟨fun z hz hl => (hf.block z (by omega) ?_).trans (h.keep z hz hl), h.low.trans (hf.below ?_ h.low.size), h.fr.trans hf ?_, Nat.le_trans hws hf.size⟩
  · intro hm
    have hk1 := hw.kq1
    have hk2 := hw.kq2
    rcases List.mem_cons.1 hm with rfl | hm
    · rcases hw.g1 z hz with h1 | h1 | h1 <;> omega
    · obtain ⟨h5, M, h6, -⟩ := hst.map z (by simpa [eq_comm] using hm)
      rcases hw.g1 z hz with h1 | h1 | h1
      · omega
      · refine cells_not_map (z := z) h6 ?_ rfl
        obtain ⟨c, t, f, h7⟩ := hw.b1
        subst h1
        exact ⟨c, t, f, (h.keep _ hz hl).trans h7⟩
      · refine cells_not_map (z := z) h6 ?_ rfl
        obtain ⟨c, t, f, h7⟩ := hw.b2
        subst h1
        exact ⟨c, t, f, (h.keep _ hz hl).trans h7⟩
  · intro x hx
    rcases List.mem_cons.1 hx with rfl | hx
    · exact hw.kq1
    · exact (hst.map x (by simpa [eq_comm] using hx)).1
  · intro x hx
    rcases List.mem_cons.1 hx with rfl | hx
    · exact Or.inl (by simp)
    · exact (hown x hx).imp (fun h => List.mem_cons_of_mem _ h) id
theorem row_move {W W2 : World} (hst : EqSt E kq N2 mo2 W) {base n co : Nat} {AO : Option Addr} {xs : List Value} (hr : W.ownsRow base 155 2 (.slice AO n co) n xs) (hf : Fr (kq :: mo2.toList) W W2) : W2.ownsRow base 155 2 (.slice AO n co) n xs := by
  refine row_on hr (fun j hj => hf.block j (hr.lt j hj).2 (fun hm => ?_))
  have hq := hst.q
  rcases hr.2 with ⟨h0, -⟩ | ⟨g, cap, cur, hv, -, hg, -⟩
  · rw [h0] at hj; cases hj
  · rw [hv] at hj
    obtain rfl : g = j := by simpa [Value.ownBlock] using hj
    rcases List.mem_cons.1 hm with rfl | hm
    · unfold EqBox at hq
      rw [hg] at hq
      simp at hq
    · obtain ⟨h5, M, h6, -⟩ := hst.map g (by simpa [eq_comm] using hm)
      exact cells_not_map (z := g) h6 ⟨_, _, _, hg⟩ rfl
theorem args_size (x : Ex) : x.args.length + 1 ≤ exSize x ∧ exSizes x.args + 1 = exSize x := by
  cases x with
  | mk k s l => rw [exSize]; have := sizes_len l; exact ⟨by simp only [Ex.args]; omega, rfl⟩
theorem Inc.skip {k : Nat} {ps0 : List (Pr w1 G1)} {p : Pr w1 G1} (h : Inc w w1 G1 a b kq N mo (k + 1) AO co N2 mo2 E (ps0 ++ [p]) W) (hd : Done E p.1.ex p.2.ex) {N3 co3 : Nat} {AO3 : Option Addr} {mo3 : Option Nat} {W2 : World} (hb : IncB w w1 G1 kq mo wo W2) (hst : EqSt E kq N3 mo3 W2) (hown : ∀ j ∈ mo3.toList, j ∈ mo.toList ∨ w.heap.size ≤ j) (hrow : W2.ownsRow w1.heap.size 155 2 (.slice AO3 k co3) k (pflat ps0)) (hN : N3 ≤ N2 + p.1.ex.args.length) :
    Inc w w1 G1 a b kq N mo k AO3 co3 N3 mo3 E ps0 W2 := by
  have hl := h.len
  have hs := h.size
  have hw := h.wt
  rw [weigh_app] at hs hw
  simp only [weigh, List.length_append, List.length_cons, List.length_nil] at hl hs hw
  have ha := (args_size p.1.ex).1
  refine ⟨hb, hst, hown, h.sound.skip hd, ?_, fun he q hq => h.yes he q (List.mem_append_left _ hq), fun q hq => h.args q (List.mem_append_left _ hq), hrow, by omega, by omega, by omega⟩
  rcases h.root with h1 | ⟨q, hq, e1, e2⟩
  · exact Or.inl h1
  · rcases List.mem_append.1 hq with hq | hq
    · exact Or.inr ⟨q, hq, e1, e2⟩
    · rw [List.mem_singleton] at hq; subst hq; rw [e1, e2] at hd; exact Or.inl hd
theorem Inc.push {k m : Nat} {ps0 : List (Pr w1 G1)} {p : Pr w1 G1} (h : Inc w w1 G1 a b kq N mo (k + 1) AO co N2 mo2 E (ps0 ++ [p]) W) {P Q : Pl wo G} (hP : P.exs = p.1.ex.args) (hQ : Q.exs = p.2.ex.args) (hm : m = P.exs.length) (hm2 : m = Q.exs.length) (h1 : p.1.ex.kind = p.2.ex.kind) (h2 : p.1.ex.name = p.2.ex.name) (hlow : Below wo.heap.size wo w1) (hGG : ∀ z ∈ G, z ∈ G1)
    {co3 : Nat} {AO3 : Option Addr} {mo3 : Option Nat} {W2 : World} (hb : IncB w w1 G1 kq mo wo W2) (hst : EqSt (E ++ [(P, Q)]) kq (N2 + m) mo3 W2) (hown : ∀ j ∈ mo3.toList, j ∈ mo.toList ∨ w.heap.size ≤ j) (hrow : W2.ownsRow w1.heap.size 155 2 (.slice AO3 (k + m) co3) (k + m) (pflat ps0 ++ pflat (P.kids.zip Q.kids).reverse)) :
    Inc w w1 G1 a b kq N mo (k + m) AO3 co3 (N2 + m) mo3 (E ++ [(P, Q)]) (ps0 ++ (P.kids.zip Q.kids).reverse.map (Pr.lift hlow hGG)) W2 := by
  have hl := h.len
  have hs := h.size
  have hw := h.wt
  rw [weigh_app] at hs hw
  simp only [weigh, List.length_append, List.length_cons, List.length_nil] at hl hs hw
  have hPl := P.kids_len
  have hQl := Q.kids_len
  have hzl : (P.kids.zip Q.kids).length = m := by rw [List.length_zip, hPl, hQl]; omega
  have hwz : weigh ((P.kids.zip Q.kids).reverse.map (Pr.lift (w1 := w1) (G1 := G1) hlow hGG)) + 1 = exSize p.1.ex := by
    rw [lift_weigh, weigh_rev, zip_weigh _ _ (by rw [hPl, hQl]; omega), P.kids_map, hP]
    exact (args_size p.1.ex).2
  have hd : Done (E ++ [(P, Q)]) p.1.ex p.2.ex := done_pair h1 h2 hP hQ (Conn.link (Or.inl (by simp)))
  refine ⟨hb, hst, hown, h.sound.push (by rw [← hm, ← hm2]) (fun q hq => ⟨Pr.lift hlow hGG q, List.mem_map_of_mem (List.mem_reverse.2 hq), rfl, rfl⟩) hd, ?_, ?_, ?_, ?_, ?_, ?_, ?_⟩
  · rcases h.root with h1 | ⟨q, hq, e1, e2⟩
    · exact Or.inl (h1.more (fun q hq => List.mem_append_left _ hq))
    · rcases List.mem_append.1 hq with hq | hq
      · exact Or.inr ⟨q, List.mem_append_left _ hq, e1, e2⟩
      · rw [List.mem_singleton] at hq; subst hq; rw [e1, e2] at hd; exact Or.inl hd
  · intro he q hq
    rcases List.mem_append.1 hq with hq | hq
    · exact h.yes he q (List.mem_append_left _ hq)
    · have hp := h.yes he p (by simp)
      unfold same at hp
      have hpe := (exEq_same _ _).1 hp
      have hall : allEq ((P.kids.zip Q.kids).reverse.map (Pr.lift (w1 := w1) (G1 := G1) hlow hGG)) = true := by
        rw [lift_all]
        have : allEq (P.kids.zip Q.kids) = true := by
          rw [zip_eq _ _ (by rw [hPl, hQl]; omega), P.kids_map, Q.kids_map, hP, hQ, hpe]
          exact ((eq_iff _).2 _ _ (Nat.le_refl _)).2 rfl
        unfold allEq at this ⊢
        rw [List.all_reverse]; exact this
      exact List.all_eq_true.1 hall q hq
  · intro q hq
    rcases List.mem_append.1 hq with hq | hq
    · exact h.args q (List.mem_append_left _ hq)
    · obtain ⟨r, hr, rfl⟩ := List.mem_map.1 hq
      exact ⟨lift_args hlow hGG r.1, lift_args hlow hGG r.2⟩
  · rw [show pflat (ps0 ++ (P.kids.zip Q.kids).reverse.map (Pr.lift (w1 := w1) (G1 := G1) hlow hGG)) = pflat ps0 ++ pflat (P.kids.zip Q.kids).reverse by rw [← lift_flat hlow hGG (P.kids.zip Q.kids).reverse]; simp [pflat]]
    exact hrow
  · simp [hzl]; omega
  · rw [weigh_app]; simp only [List.length_append, List.length_map, List.length_reverse, hzl]; omega
  · rw [weigh_app]; omega
end
end Go.Proofs.Ytmndlhbgacgnlaa

namespace Go.Proofs.Ytmndlhbgacgnlaa
open Go Go.RowKit

theorem inc_box_at {w0 W : World} {e : Ex} {u : Value} {bs : List Nat} {B : Nat} (h : ExIs w0 (.agg #[.int .i64 e.kind, .string e.name, u]) e bs) (hb : Below w0.heap.size w0 W) (hx : W.heap[B]? = some (.cells #[.int .i64 e.kind, .string e.name, u] 26 (0, 0))) : ExAt W B 0 e bs :=
  ExAt.mk (u := u) (by simp [World.cell?, hx]) (by simp [World.cell?, hx]) (by simp [World.cell?, hx]) (h.below hb)
/-- Where the loop begins. -/
theorem inc_start {wo : World} {G : List Nat} (a b : Ex) (A A2 : Option Addr) (m m2 c c2 : Nat) (bs bs2 : List Nat) (kq N : Nat) (mo : Option Nat) (w w1 W : World) (hv : ExIs wo (.agg #[.int .i64 a.kind, .string a.name, .slice A m c]) a bs) (hv2 : ExIs wo (.agg #[.int .i64 b.kind, .string b.name, .slice A2 m2 c2]) b bs2) (hG : ∀ z ∈ bs ++ bs2, z ∈ G) (hGl : ∀ z ∈ G, z < wo.heap.size) (hst : EqSt (wo := wo) (G := G) [] kq N mo w) (hlow : Below wo.heap.size wo w) (hkq : wo.heap.size ≤ kq)
    (h1 : w1 = (w.alloc (.cells #[.int .i64 a.kind, .string a.name, .slice A m c] 26)).alloc (.cells #[.int .i64 b.kind, .string b.name, .slice A2 m2 c2] 26))
    (hW : W = w1.alloc (.cells #[.pointer (some ⟨w.heap.size, 0, none⟩), .pointer (some ⟨w.heap.size + 1, 0, none⟩)] 155)) :
    ∃ (G1 : List Nat) (p : Pr w1 G1), (∀ z ∈ G, z ∈ G1) ∧ Below wo.heap.size wo w1 ∧ w1.heap.size = w.heap.size + 1 + 1 ∧ weigh [p] = exSize a ∧ IncW wo w w1 G1 kq ∧ Inc w w1 G1 a b kq N mo 1 (some ⟨w.heap.size + 1 + 1, 0, none⟩) 1 N mo ([] : List (Pl wo G × Pl wo G)) [p] W := by
  have hs1 : w1.heap.size = w.heap.size + 1 + 1 := by rw [h1]; simp
  have hb : Below w.heap.size w w1 := by rw [h1]; exact ((Below.refl _ w).alloc (Nat.le_refl _) _).alloc (by simp) _
  have hb1 : Below wo.heap.size wo w1 := hlow.trans (hb.mono hlow.size)
  have hbW : Below w1.heap.size w1 W := by rw [hW]; exact (Below.refl _ w1).alloc (Nat.le_refl _) _
  have x0 : w1.heap[w.heap.size]? = some (.cells #[.int .i64 a.kind, .string a.name, .slice A m c] 26 (0, 0)) := by
    rw [h1]; exact (Below.heap_alloc _ _ _ (by simp)).trans (World.alloc_heap_new w _)
  have x1 : w1.heap[w.heap.size + 1]? = some (.cells #[.int .i64 b.kind, .string b.name, .slice A2 m2 c2] 26 (0, 0)) := by
    rw [h1]
    have := World.alloc_heap_new (w.alloc (.cells #[.int .i64 a.kind, .string a.name, .slice A m c] 26)) (.cells #[.int .i64 b.kind, .string b.name, .slice A2 m2 c2] 26)
    rw [World.size_alloc] at this
    exact this
  have arg : ∀ (e : Ex) (A : Option Addr) (m c : Nat) (bs : List Nat), ExIs wo (.agg #[.int .i64 e.kind, .string e.name, .slice A m c]) e bs → (∀ z ∈ bs, z ∈ G) → m = e.args.length ∧ m ≤ c ∧ c ≤ 9223372036854775807 ∧ (e.args = [] ∨ ∃ p : Pl wo G, A = some ⟨p.1.1, p.1.2.1, none⟩ ∧ p.exs = e.args) := by
    intro e A m c bs h hg
    obtain ⟨u', e1, -, A', c', e2, h1, h2, h3⟩ := h
    simp only [Value.agg.injEq, Array.mk.injEq, List.cons.injEq, and_true, true_and] at e1
    subst e1
    cases e2
    refine ⟨rfl, h1, h2, ?_⟩
    rcases h3 with ⟨h3, -⟩ | ⟨g, o, bs', rfl, -, rfl, h4⟩
    · exact Or.inl h3
    · by_cases h0 : e.args = []
      · exact Or.inl h0
      · exact Or.inr ⟨⟨(g, o, e.args, bs'), h4, hg g (by simp), fun z hz => hg z (by simp [hz]), h0⟩, rfl, rfl⟩
  obtain ⟨m1, m3, m4, m5⟩ := arg a A m c bs hv (fun z hz => hG z (by simp [hz]))
  obtain ⟨n1, n3, n4, n5⟩ := arg b A2 m2 c2 bs2 hv2 (fun z hz => hG z (by simp [hz]))
  have hrow : W.ownsRow w1.heap.size 155 2 (.slice (some ⟨w.heap.size + 1 + 1, 0, none⟩) 1 1) 1 [.pointer (some ⟨w.heap.size, 0, none⟩), .pointer (some ⟨w.heap.size + 1, 0, none⟩)] := by
    have := World.ownsRow_lit w1 (base := w1.heap.size) (e := 155) (size := 2) #[.pointer (some ⟨w.heap.size, 0, none⟩), .pointer (some ⟨w.heap.size + 1, 0, none⟩)] 1 (Nat.le_refl _) (by unfold maxLen; omega) rfl
    rw [hW, ← hs1]
    exact this
  refine ⟨w.heap.size :: (w.heap.size + 1) :: G, ⟨⟨(w.heap.size, 0, a, bs), inc_box_at hv hb1 x0, by simp, fun z hz => by simp [hG z (by simp [hz])]⟩, ⟨(w.heap.size + 1, 0, b, bs2), inc_box_at hv2 hb1 x1, by simp, fun z hz => by simp [hG z (by simp [hz])]⟩⟩, fun z hz => by simp [hz], hb1, hs1, by simp [weigh, At.ex], ⟨fun z hz => ?_, ⟨_, _, _, x0⟩, ⟨_, _, _, x1⟩, hs1, hkq, hst.q.lt, hlow.size⟩, ⟨fun z hz hl => hbW.block z hl, hb1.trans (hbW.mono hb1.size), Fr.of_below (hb.trans (hbW.mono hb.size)), hbW.size⟩, hst.on (fun j hj => ((hbW.block j (by have := hst.lt j hj; omega)).trans (hb.block j (hst.lt j hj)))), fun j hj => Or.inl hj, Sound.nil, Or.inr ⟨_, List.mem_singleton.2 rfl, rfl, rfl⟩, ?_, ?_, hrow, rfl, by simp [weigh, At.ex], by simp [weigh, At.ex]⟩
  · simp at hz
    rcases hz with rfl | rfl | hz
    · exact Or.inr (Or.inl rfl)
    · exact Or.inr (Or.inr rfl)
    · exact Or.inl (hGl z hz)
  · intro he q hq
    rw [List.mem_singleton] at hq
    subst hq
    exact he
  · intro q hq
    rw [List.mem_singleton] at hq
    subst hq
    refine ⟨⟨A, c, ?_, ?_, m4, m5⟩, ⟨A2, c2, ?_, ?_, n4, n5⟩⟩
    · show w1.cell? ⟨w.heap.size, 0 + 2, none⟩ = some (.slice A a.args.length c)
      rw [← m1]; simp [World.cell?, x0]
    · show a.args.length ≤ c
      omega
    · show w1.cell? ⟨w.heap.size + 1, 0 + 2, none⟩ = some (.slice A2 b.args.length c2)
      rw [← n1]; simp [World.cell?, x1]
    · show b.args.length ≤ c2
      omega
/-- The record may be left as it is by whatever leaves old memory alone. -/
theorem IncB.below {w w1 : World} {G1 : List Nat} {kq : Nat} {mo : Option Nat} {wo W W2 : World} (h : IncB w w1 G1 kq mo wo W) (hb : Below W.heap.size W W2) : IncB w w1 G1 kq mo wo W2 :=
  ⟨fun z hz hl => (hb.block z (Nat.lt_of_lt_of_le hl h.big)).trans (h.keep z hz hl), h.low.trans (hb.mono h.low.size), h.fr.trans (Fr.of_below (S := kq :: mo.toList) hb) (fun _ h => Or.inl h), Nat.le_trans h.big hb.size⟩
theorem EqSt.below {wo : World} {G : List Nat} {E : List (Pl wo G × Pl wo G)} {kq N : Nat} {mo : Option Nat} {W W2 : World} (h : EqSt E kq N mo W) (hb : Below W.heap.size W W2) : EqSt E kq N mo W2 := h.on (fun j hj => hb.block j (h.lt j hj))
theorem row_below {W W2 : World} {base n co : Nat} {AO : Option Addr} {t : TypeId} {sz : Nat} {xs : List Value} (hr : W.ownsRow base t sz (.slice AO n co) n xs) (hb : Below W.heap.size W W2) : W2.ownsRow base t sz (.slice AO n co) n xs :=
  row_on hr (fun j hj => hb.block j (hr.lt j hj).2)
theorem own_in_row {W : World} {t : TypeId} {sz base n co : Nat} {AO : Option Addr} {xs : List Value} (hr : W.ownsRow base t sz (.slice AO n co) n xs) : ∀ j ∈ (Value.ownBlock (.slice AO n co)).toList, base ≤ j ∧ j < W.heap.size ∧ ∃ c f, W.heap[j]? = some (.cells c t f) := fun j hj => by
  have hj2 : Value.ownBlock (.slice AO n co) = some j := by simpa using hj
  have hl := hr.lt j hj2
  refine ⟨hl.1, hl.2, ?_⟩
  rcases hr.2 with ⟨h0, -⟩ | ⟨g, cap, cur, hv, -, hg, -⟩
  · rw [h0] at hj2; cases hj2
  · rw [hv] at hj2
    obtain rfl : g = j := by simpa [Value.ownBlock] using hj2
    exact ⟨_, _, hg⟩
theorem IncB.rowm {w w1 : World} {G1 : List Nat} {kq : Nat} {mo : Option Nat} {wo W W2 : World} (h : IncB w w1 G1 kq mo wo W) (hw : IncW wo w w1 G1 kq) {t : TypeId} {sz n co : Nat} {AO : Option Addr} {xs : List Value} (hr : W.ownsRow w1.heap.size t sz (.slice AO n co) n xs) (hf : Fr (Value.ownBlock (.slice AO n co)).toList W W2) : IncB w w1 G1 kq mo wo W2 := by
  have hown := own_in_row hr
  have h1 := hw.sz
  have h2 := hw.le
  refine ⟨fun z hz hl => (hf.block z (Nat.lt_of_lt_of_le hl h.big) (fun hm => by have := (hown z hm).1; omega)).trans (h.keep z hz hl), h.low.trans (hf.below (fun x hx => by have := (hown x hx).1; omega) h.low.size), h.fr.trans hf (fun x hx => Or.inr (by have := (hown x hx).1; omega)), Nat.le_trans h.big hf.size⟩
theorem EqSt.rowm {wo : World} {G : List Nat} {E : List (Pl wo G × Pl wo G)} {kq N : Nat} {mo : Option Nat} {W W2 : World} (h : EqSt E kq N mo W) {base n co : Nat} {AO : Option Addr} {xs : List Value} (hr : W.ownsRow base 155 2 (.slice AO n co) n xs) (hf : Fr (Value.ownBlock (.slice AO n co)).toList W W2) : EqSt E kq N mo W2 := by
  have hown := own_in_row hr
  refine h.on (fun j hj => hf.block j (h.lt j hj) (fun hm => ?_))
  obtain ⟨-, -, c, f, hg⟩ := hown j hm
  rcases List.mem_cons.1 hj with rfl | hj
  · have hq := h.q
    unfold EqBox at hq
    rw [hg] at hq
    simp at hq
  · obtain ⟨h5, M, h6, -⟩ := h.map j (by simpa [eq_comm] using hj)
    exact cells_not_map (z := j) h6 ⟨_, _, _, hg⟩ rfl
set_option maxRecDepth 100000 in
set_option maxHeartbeats 4000000 in
theorem own_include {wo : World} {G : List Nat} (a b : Ex) (v v2 : Value) (bs bs2 : List Nat) (kq N : Nat) (mo : Option Nat) (w : World) (hv : ExIs wo v a bs) (hv2 : ExIs wo v2 b bs2) (hG : ∀ z ∈ bs ++ bs2, z ∈ G) (hGl : ∀ z ∈ G, z < wo.heap.size) (hst : EqSt (wo := wo) (G := G) [] kq N mo w) (hlow : Below wo.heap.size wo w) (hkq : wo.heap.size ≤ kq) (hb : N + exSize a ≤ 2199023255552) (hfr : ∀ p : Pl wo G, FreeB wo p.adr.block) :
    Calls Try.prog 69 #[.pointer (some ⟨kq, 0, none⟩), v, v2] w (IncPost (wo := wo) (G := G) a b kq N mo w) := by
  obtain ⟨u, rfl, hs, hu⟩ := id hv
  obtain ⟨A, c, rfl, hc1, hc2, -⟩ := id hu
  obtain ⟨u2, rfl, hs2, hu2⟩ := id hv2
  obtain ⟨A2, c2, rfl, hd1, hd2, -⟩ := id hu2
  obtain ⟨m, hm⟩ : ∃ m, m = a.args.length := ⟨_, rfl⟩
  obtain ⟨m2, hm2⟩ : ∃ m2, m2 = b.args.length := ⟨_, rfl⟩
  rw [← hm] at hv hc1 ⊢
  rw [← hm2] at hv2 hd1 ⊢
  have HV := Lib.hid hv
  have HV2 := Lib.hid hv2
  have HGG := Lib.hid hG
  have HGL := Lib.hid hGl
  have HST := Lib.hid hst
  have HLOW := Lib.hid hlow
  have HKQ := Lib.hid hkq
  have HB := Lib.hid hb
  have HFR := Lib.hid hfr
  clear hv hu hv2 hu2 hm hm2 hG hGl hst hlow hkq hb hfr
  go_enter Try.func69, Try.ntmps69
  go_wp2_with fail
  obtain ⟨w1, hw1⟩ : ∃ w1, w1 = (w.alloc (.cells #[.int .i64 a.kind, .string a.name, .slice A m c] 26)).alloc (.cells #[.int .i64 b.kind, .string b.name, .slice A2 m2 c2] 26) := ⟨_, rfl⟩
  rw [← hw1]
  obtain ⟨W0, hW0⟩ : ∃ W0, W0 = w1.alloc (.cells #[.pointer (some ⟨w.heap.size, 0, none⟩), .pointer (some ⟨w.heap.size + 1, 0, none⟩)] 155) := ⟨_, rfl⟩
  rw [← hW0]
  obtain ⟨G1, p0, hGG1, hlw1, hs1, hwp, hIW, hI0⟩ := inc_start a b A A2 m m2 c c2 bs bs2 kq N mo w w1 W0 HV.out HV2.out HGG.out HGL.out HST.out HLOW.out HKQ.out hw1 hW0
  have HG1 := Lib.hid hGG1
  have HL1 := Lib.hid hlw1
  have HIW := Lib.hid hIW
  have HI0 := Lib.hid hI0
  have HWP := Lib.hid hwp
  have HS1 := Lib.hid hs1
  clear hw1 hW0 hGG1 hlw1 hs1 hIW hI0 hwp
  go_loopg [7, 8, 9] (exSize a) (fun gk l7 l8 l9 wr => ∃ (n : Nat) (AO : Option Addr) (co N2 : Nat) (mo2 : Option Nat) (E : List (Pl wo G × Pl wo G)) (ps : List (Pr w1 G1)), l7 = .slice AO n co ∧ Hid (gk = weigh ps) ∧ Hid (Inc w w1 G1 a b kq N mo n AO co N2 mo2 E ps wr))
  case atStart =>
    exact ⟨1, _, 1, N, mo, [], [p0], rfl, Lib.hid HWP.out.symm, HI0⟩
  case round =>
    obtain ⟨n, AO, co, N2, mo2, E, ps, rfl, HG, HQ⟩ := hrel
    by_cases h0 : n = 0
    · subst h0
      have HD := Lib.hid HQ.out.done
      go_wp2_with fail
      go_ret
      have := HD.out.2
      rw [HD.out.1] at this
      exact this
    · obtain ⟨k, rfl⟩ : ∃ k, n = k + 1 := ⟨n - 1, by omega⟩
      obtain ⟨ps0, ⟨x, y⟩, rfl⟩ : ∃ ps0 p, ps = ps0 ++ [p] := by
        rcases last_of ps with h | h
        · have := HQ.out.len
          rw [h] at this
          simp at this
        · exact h
      have hk : k = ps0.length := by have := HQ.out.len; simp at this; omega
      obtain ⟨g, rfl, hgl, hgb, hco1, hco2, e0, e1, hpop⟩ := pair_top hk HQ.out.row
      obtain ⟨⟨A1, d1, cx2, ha1, ha2, hpx⟩, ⟨A3, d3, cy2, ha3, ha4, hpy⟩⟩ := HQ.out.args (x, y) (by simp)
      obtain ⟨-, -, cx0, cx1, -, -, -, -⟩ := x.parts
      obtain ⟨-, -, cy0, cy1, -, -, -, -⟩ := y.parts
      obtain ⟨q1, hq1⟩ : ∃ q1, q1 = x.ex.args.length := ⟨_, rfl⟩
      obtain ⟨q3, hq3⟩ : ∃ q3, q3 = y.ex.args.length := ⟨_, rfl⟩
      rw [← hq1] at cx2 ha1
      rw [← hq3] at cy2 ha3
      obtain ⟨K1, hK1⟩ : ∃ K, K = x.ex.kind := ⟨_, rfl⟩
      obtain ⟨S1, hS1⟩ : ∃ S, S = x.ex.name := ⟨_, rfl⟩
      obtain ⟨K3, hK3⟩ : ∃ K, K = y.ex.kind := ⟨_, rfl⟩
      obtain ⟨S3, hS3⟩ : ∃ S, S = y.ex.name := ⟨_, rfl⟩
      rw [← hK1] at cx0
      rw [← hS1] at cx1
      rw [← hK3] at cy0
      rw [← hS3] at cy1
      have hxa : x.adr = ⟨x.1.1, x.1.2.1, none⟩ := rfl
      have hya : y.adr = ⟨y.1.1, y.1.2.1, none⟩ := rfl
      rw [hxa] at e0 cx0
      rw [hya] at e1 cy0
      have hgxl := World.block_lt_of_cell? w1 _ cx0
      have hgyl := World.block_lt_of_cell? w1 _ cy0
      have HXG := Lib.hid x.2.2.1
      have HYG := Lib.hid y.2.2.1
      obtain ⟨g1, hg1⟩ : ∃ z, z = x.1.1 := ⟨_, rfl⟩
      obtain ⟨o1, ho1⟩ : ∃ z, z = x.1.2.1 := ⟨_, rfl⟩
      obtain ⟨g3, hg3⟩ : ∃ z, z = y.1.1 := ⟨_, rfl⟩
      obtain ⟨o3, ho3⟩ : ∃ z, z = y.1.2.1 := ⟨_, rfl⟩
      rw [← hg1, ← ho1] at e0 cx0 cx1 cx2
      rw [← hg3, ← ho3] at e1 cy0 cy1 cy2
      rw [← hg1] at HXG hgxl
      rw [← hg3] at HYG hgyl
      have HCX := Lib.hid (show ∀ X, IncB w w1 G1 kq mo wo X → X.cell? ⟨g1, o1, none⟩ = some (.int .i64 K1) ∧ X.cell? ⟨g1, o1 + 1, none⟩ = some (.string S1) ∧ X.cell? ⟨g1, o1 + 2, none⟩ = some (.slice A1 q1 d1) ∧ X.cell? ⟨g3, o3, none⟩ = some (.int .i64 K3) ∧ X.cell? ⟨g3, o3 + 1, none⟩ = some (.string S3) ∧ X.cell? ⟨g3, o3 + 2, none⟩ = some (.slice A3 q3 d3) from fun X hX => by
        have kx : ∀ o, X.cell? ⟨g1, o, none⟩ = w1.cell? ⟨g1, o, none⟩ := fun o => World.cell?_of_block (w := w1) (hX.keep _ HXG.out hgxl)
        have ky : ∀ o, X.cell? ⟨g3, o, none⟩ = w1.cell? ⟨g3, o, none⟩ := fun o => World.cell?_of_block (w := w1) (hX.keep _ HYG.out hgyl)
        exact ⟨(kx _).trans cx0, (kx _).trans cx1, (kx _).trans cx2, (ky _).trans cy0, (ky _).trans cy1, (ky _).trans cy2⟩)
      have HPX := Lib.hid hpx
      have HPY := Lib.hid hpy
      have HK := Lib.hid hk
      have HPOP := Lib.hid hpop
      have HQ1 := Lib.hid hq1
      have HQ3 := Lib.hid hq3
      have HKS := Lib.hid (And.intro hK1 (And.intro hS1 (And.intro hK3 hS3)))
      have HGL2 := Lib.hid hgl
      have hk40 : (k : Int) + 1 ≤ 2199023255552 := by
        have h1 := weigh_len (ps0 ++ [(x, y)])
        have h2 := HQ.out.wt
        have h3 := HB.out
        simp at h1
        omega
      have HQM := Lib.hid (show k + q1 ≤ 2199023255552 ∧ N2 + q1 ≤ 2199023255552 by
        have h1 := weigh_len ps0
        have h2 := HQ.out.wt
        have h4 := HQ.out.size
        have h3 := HB.out
        have h5 := (args_size x.ex).1
        rw [weigh_app] at h2 h4
        simp [weigh] at h2 h4
        omega)
      have hco3 : (co : Int) ≤ 9223372036854775807 := by unfold maxLen at hco2; omega
      have hk0 : (0 : Int) ≤ (k : Int) := by omega
      have hk1 : (k : Int) < (k : Int) + 1 := by omega
      clear hpx hpy hpop hk hq1 hq3 hco2 hK1 hS1 hK3 hS3 cx0 cx1 cx2 cy0 cy1 cy2 hg1 ho1 hg3 ho3 hxa hya hgl hgxl hgyl
      go_wp2_with fail
      go_quiet (fail)
      obtain ⟨Y, hY⟩ : ∃ Y, Y = wr.drewN nq := ⟨_, rfl⟩
      rw [← hY]
      have hbY : Below wr.heap.size wr Y := by rw [hY]; exact below_drewN (Below.refl _ wr) _
      have HBY := Lib.hid (HQ.out.at_.below hbY)
      have HRY := Lib.hid (row_below HPOP.out hbY)
      have HSY := Lib.hid (HQ.out.st.below hbY)
      clear hY hbY e0 e1
      obtain ⟨c0, c1, c2', c3, c4, c5⟩ := HCX.out Y HBY.out
      have HSX := Lib.hid (show ∀ X, Below Y.heap.size Y X → X.cell? ⟨g1, o1, none⟩ = some (.int .i64 K1) ∧ X.cell? ⟨g1, o1 + 1, none⟩ = some (.string S1) ∧ X.cell? ⟨g1, o1 + 2, none⟩ = some (.slice A1 q1 d1) ∧ X.cell? ⟨g3, o3, none⟩ = some (.int .i64 K3) ∧ X.cell? ⟨g3, o3 + 1, none⟩ = some (.string S3) ∧ X.cell? ⟨g3, o3 + 2, none⟩ = some (.slice A3 q3 d3) from fun X hX => HCX.out X (HBY.out.below hX))
      obtain ⟨hd, hhd⟩ : ∃ hd, hd = (decide (K1 = K3) && (decide (S1 = S3) && decide (q1 = q3))) := ⟨_, rfl⟩
      have HHD := Lib.hid hhd
      have HEQ := Lib.hid (show ∀ X, Calls Try.prog 109 #[.agg #[.int .i64 K1, .string S1, .slice A1 q1 d1], .agg #[.int .i64 K3, .string S3, .slice A3 q3 d3]] X (RetPost (.bool hd) X) from fun X => by rw [hhd]; exact own_heads K1 K3 S1 S3 A1 A3 q1 q3 d1 d3 X)
      clear hhd
      go_wp2_with fail
      go_region_held3 (fun X => X.cell? ⟨g1, o1, none⟩ = some (.int .i64 K1) ∧ X.cell? ⟨g1, o1 + 1, none⟩ = some (.string S1) ∧ X.cell? ⟨g1, o1 + 2, none⟩ = some (.slice A1 q1 d1) ∧ X.cell? ⟨g3, o3, none⟩ = some (.int .i64 K3) ∧ X.cell? ⟨g3, o3 + 1, none⟩ = some (.string S3) ∧ X.cell? ⟨g3, o3 + 2, none⟩ = some (.slice A3 q3 d3))
        (first
        | exact HSX.out _ ((Below.refl _ _).drew)
        | exact HSX.out _ HB5.out)
        (first
        | (go_at_call 109; refine (HEQ.out _).mono ?_; rintro r w5 ⟨rfl, hb5⟩; have HB5 := Lib.hid ((Below.refl _ Y).drew.trans hb5); clear hb5))
      clear ‹_ ∧ _›
      have HI5 := Lib.hid (HBY.out.below HB5.out)
      have HR5 := Lib.hid (row_below HRY.out HB5.out)
      have HT5 := Lib.hid (HSY.out.below HB5.out)
      clear c0 c1 c2' c3 c4 c5
      obtain ⟨c0, c1, c2', c3, c4, c5⟩ := HCX.out w5 HI5.out
      have HK40 := Lib.hid hk40
      have HCO3 := Lib.hid hco3
      have HAA := Lib.hid (And.intro ha1 (And.intro ha2 (And.intro ha3 ha4)))
      clear hk40 hco3 ha1 ha2 ha3 ha4 hk0 hk1 hgb hco1 h0
      cases hd
      · have HNE := Lib.hid (show same (x, y) = false by
          obtain ⟨e1, e2, e3, e4⟩ := HKS.out
          cases h9 : same (x, y) with
          | false => rfl
          | true =>
            have h8 := (exEq_same _ _).1 (show exEq x.ex y.ex = true from h9)
            have h7 := HHD.out
            rw [e1, e2, e3, e4, HQ1.out, HQ3.out, h8] at h7
            simp at h7)
        have HF := Lib.hid (HQ.out.no (p := (x, y)) (by simp) HNE.out HI5.out.fr)
        rw [show (!false) = true from rfl]
        go_wp2_with fail
        go_ret
        exact HF.out
      rw [show (!true) = false from rfl]
      obtain ⟨e9, e8, e7⟩ : K1 = K3 ∧ S1 = S3 ∧ q1 = q3 := by
        have h7 := HHD.out
        rw [eq_comm, Bool.and_eq_true, Bool.and_eq_true, decide_eq_true_eq, decide_eq_true_eq, decide_eq_true_eq] at h7
        exact h7
      subst e9; subst e8; subst e7
      have HKN := Lib.hid (show x.ex.kind = y.ex.kind ∧ x.ex.name = y.ex.name from by
        obtain ⟨e1, e2, e3, e4⟩ := HKS.out
        exact ⟨by rw [← e1, ← e3], by rw [← e2, ← e4]⟩)
      by_cases hq0 : q1 = 0
      · have HDN := Lib.hid (show Done E x.ex y.ex from ⟨HKN.out.1, HKN.out.2, Or.inl ⟨List.eq_nil_of_length_eq_zero (by rw [← HQ1.out, hq0]), List.eq_nil_of_length_eq_zero (by rw [← HQ3.out, hq0])⟩⟩)
        subst hq0
        have HNX := Lib.hid (show ∀ z, Inc w w1 G1 a b kq N mo k (some ⟨g, 0, none⟩) co N2 mo2 E ps0 (w5.drewN z) from fun z => HQ.out.skip HDN.out (HI5.out.below (below_drewN (Below.refl _ w5) z)) (HT5.out.below (below_drewN (Below.refl _ w5) z)) HQ.out.own (row_below HR5.out (below_drewN (Below.refl _ w5) z)) (by omega))
        go_wp2_with fail
        go_quiet (fail)
        go_wp2_with fail
        go_roundg (weigh ps0)
        case measure =>
          rw [HG.out, weigh_app]
          have := exSize_pos x.ex
          simp [weigh]
          omega
        case rel => exact ⟨k, _, co, N2, mo2, E, ps0, rfl, Lib.hid rfl, Lib.hid (HNX.out _)⟩
      · obtain ⟨P, hPA, hPE⟩ := HPX.out.resolve_left (fun h => hq0 (by rw [HQ1.out, h]; rfl))
        obtain ⟨Q, hQA, hQE⟩ := HPY.out.resolve_left (fun h => hq0 (by rw [HQ3.out, h]; rfl))
        have hPL : q1 = P.exs.length := by rw [hPE]; exact HQ1.out
        have hQL : q1 = Q.exs.length := by rw [hQE]; exact HQ3.out
        obtain ⟨gp, hgp⟩ : ∃ z, z = P.1.1 := ⟨_, rfl⟩
        obtain ⟨op, hop⟩ : ∃ z, z = P.1.2.1 := ⟨_, rfl⟩
        obtain ⟨gq, hgq⟩ : ∃ z, z = Q.1.1 := ⟨_, rfl⟩
        obtain ⟨oq, hoq⟩ : ∃ z, z = Q.1.2.1 := ⟨_, rfl⟩
        rw [← hgp, ← hop] at hPA
        rw [← hgq, ← hoq] at hQA
        subst hPA; subst hQA
        have hkP : P.key = .agg #[.pointer (some ⟨gp, op, none⟩), .int .i64 (q1 : Int)] := by rw [hPL, hgp, hop]; rfl
        have hkQ : Q.key = .agg #[.pointer (some ⟨gq, oq, none⟩), .int .i64 (q1 : Int)] := by rw [hQL, hgq, hoq]; rfl
        have hq1p : 0 < q1 := by omega
        have HP1 := Lib.hid (fun (X : World) => own_place gp op q1 d1 X hq1p (by have := HQM.out.1; omega))
        have HP3 := Lib.hid (fun (X : World) => own_place gq oq q1 d3 X hq1p (by have := HQM.out.1; omega))
        have HJN := Lib.hid (show ∀ X, Below w5.heap.size w5 X → Calls Try.prog 110 #[.pointer (some ⟨kq, 0, none⟩), .agg #[.pointer (some ⟨gp, op, none⟩), .int .i64 (q1 : Int)], .agg #[.pointer (some ⟨gq, oq, none⟩), .int .i64 (q1 : Int)]] X (JoinedPost E P Q kq N2 mo2 X) from fun X hX => by
          rw [← hkP, ← hkQ]
          exact own_joined E P Q kq N2 mo2 X (HT5.out.below hX) (HI5.out.below hX).low HKQ.out (by rw [← hPL]; exact HQM.out.2) (HFR.out P) (fun _ => HFR.out))
        have HPAIR := Lib.hid (show ∀ (X : World) (hX : IncB w w1 G1 kq mo wo X) (hr : X.ownsRow w1.heap.size 155 2 (.slice (some ⟨g, 0, none⟩) k co) k (pflat ps0)), Calls Try.prog 112 #[.slice (some ⟨g, 0, none⟩) k co, .slice (some ⟨gp, op, none⟩) q1 d1, .slice (some ⟨gq, oq, none⟩) q1 d3] X fun e w2 =>
            ∃ (AO2 : Option Addr) (co2 : Nat), e = .returned (.slice AO2 (k + q1) co2) ∧ w2.ownsRow w1.heap.size 155 2 (.slice AO2 (k + q1) co2) (k + q1) (pflat ps0 ++ pflat (P.kids.zip Q.kids).reverse) ∧ Fr (Value.ownBlock (.slice (some ⟨g, 0, none⟩) k co)).toList X w2 from fun X hX hr => by
          rw [hgp, hop, hgq, hoq]
          exact own_pairs P Q q1 hPL hQL d1 d3 HAA.out.1 HAA.out.2.1 (pflat ps0) w1.heap.size k co (some ⟨g, 0, none⟩) X hX.low HL1.out.size hX.big hr HQM.out.1)
        have HPQ := Lib.hid (And.intro hPE (And.intro hQE (And.intro hPL hQL)))
        have HS5 := Lib.hid (show ∀ X, IncB w w1 G1 kq mo wo X → X.cell? ⟨g1, o1 + 2, none⟩ = some (.slice (some ⟨gp, op, none⟩) q1 d1) ∧ X.cell? ⟨g3, o3 + 2, none⟩ = some (.slice (some ⟨gq, oq, none⟩) q1 d3) from fun X hX => ⟨(HCX.out X hX).2.2.1, (HCX.out X hX).2.2.2.2.2⟩)
        have hq1i : decide ((0 : Int) < (q1 : Int)) = true := decide_eq_true (by omega)
        have hq1n : decide (0 < q1) = true := decide_eq_true hq1p
        clear hPE hQE hPL hQL hgp hop hgq hoq hkP hkQ hq1p hq0
        go_wp2_with fail
        go_region_held3 (fun X => X.cell? ⟨g1, o1 + 2, none⟩ = some (.slice (some ⟨gp, op, none⟩) q1 d1) ∧ X.cell? ⟨g3, o3 + 2, none⟩ = some (.slice (some ⟨gq, oq, none⟩) q1 d3))
          (first
          | exact HS5.out _ (HI5.out.below (Below.refl _ _).drew)
          | exact HS5.out _ (HI5.out.below HB6.out)
          | exact HS5.out _ (HI5.out.below HB7.out)
          | exact HS5.out _ HI8.out)
          (first
          | (go_at_call 111; refine (HP1.out _).mono ?_; rintro r w6 ⟨rfl, hb6⟩; have HB6 := Lib.hid ((Below.refl _ w5).drew.trans hb6); clear hb6)
          | (go_at_call 111; refine (HP3.out _).mono ?_; rintro r w7 ⟨rfl, hb7⟩; have HB7 := Lib.hid (HB6.out.trans (hb7.mono HB6.out.size)); clear hb7)
          | (go_at_call 110; refine (HJN.out _ HB7.out).mono ?_; rintro r w8 ⟨rj, mo3, rfl, hy8, hn8, hf8, ho8⟩; have HI8 := Lib.hid ((HI5.out.below HB7.out).move HIW.out (HT5.out.below HB7.out) HQ.out.own hf8); have HJ8 := Lib.hid (And.intro hy8 (And.intro hn8 (And.intro hf8 ho8))); clear hy8 hn8 hf8 ho8))
        clear ‹_ ∧ _›
        have HR8 := Lib.hid (row_move (HT5.out.below HB7.out) (row_below HR5.out HB7.out) HJ8.out.2.2.1)
        have HO8 := Lib.hid (show ∀ j ∈ mo3.toList, j ∈ mo.toList ∨ w.heap.size ≤ j from fun j hj => by
          rcases HJ8.out.2.2.2 j hj with h | h
          · exact HQ.out.own j h
          · right
            have h1 := HI5.out.big
            have h2 := HB7.out.size
            have h3 := HS1.out
            omega)
        clear c0 c1 c2' c3 c4 c5
        cases rj
        · rw [show (!false) = true from rfl]
          obtain ⟨c2', c5⟩ := HS5.out w8 HI8.out
          have HT8 := Lib.hid (show EqSt (E ++ [(P, Q)]) kq (N2 + q1) mo3 w8 by have h := HJ8.out.2.1 rfl; rw [← HPQ.out.2.2.1] at h; exact h)
          have HFIN := Lib.hid (show ∀ (AO9 : Option Addr) (co9 : Nat) (w9 : World), w9.ownsRow w1.heap.size 155 2 (.slice AO9 (k + q1) co9) (k + q1) (pflat ps0 ++ pflat (P.kids.zip Q.kids).reverse) → Fr (Value.ownBlock (.slice (some ⟨g, 0, none⟩) k co)).toList w8.drew w9 → Inc w w1 G1 a b kq N mo (k + q1) AO9 co9 (N2 + q1) mo3 (E ++ [(P, Q)]) (ps0 ++ (P.kids.zip Q.kids).reverse.map (Pr.lift HL1.out HG1.out)) w9 from fun AO9 co9 w9 hr hf =>
            have hd8 : Below w8.heap.size w8 w8.drew := (Below.refl _ w8).drew
            HQ.out.push HPQ.out.1 HPQ.out.2.1 HPQ.out.2.2.1 HPQ.out.2.2.2 HKN.out.1 HKN.out.2 HL1.out HG1.out ((HI8.out.below hd8).rowm HIW.out (row_below HR8.out hd8) hf) ((HT8.out.below hd8).rowm (row_below HR8.out hd8) hf) HO8.out hr)
          have HMS := Lib.hid (show weigh (ps0 ++ (P.kids.zip Q.kids).reverse.map (Pr.lift HL1.out HG1.out)) < gk by
            have h1 := (args_size x.ex).2
            rw [HG.out, weigh_app, weigh_app, lift_weigh, weigh_rev, zip_weigh _ _ (by rw [P.kids_len, Q.kids_len, ← HPQ.out.2.2.1, ← HPQ.out.2.2.2]), P.kids_map, HPQ.out.1]
            simp [weigh]
            omega)
          have HPA := Lib.hid (HPAIR.out w8.drew (HI8.out.below (Below.refl _ w8).drew) (row_below HR8.out (Below.refl _ w8).drew))
          have HKEEP := Lib.hid (show ∀ (w9 : World), Fr (Value.ownBlock (.slice (some ⟨g, 0, none⟩) k co)).toList w8.drew w9 → w9.cell? ⟨g1, o1 + 2, none⟩ = some (.slice (some ⟨gp, op, none⟩) q1 d1) ∧ w9.cell? ⟨g3, o3 + 2, none⟩ = some (.slice (some ⟨gq, oq, none⟩) q1 d3) from fun w9 hf => HS5.out w9 ((HI8.out.below (Below.refl _ w8).drew).rowm HIW.out (row_below HR8.out (Below.refl _ w8).drew) hf))
          go_wp2_with fail
          go_region_held3 (fun X => X.cell? ⟨g1, o1 + 2, none⟩ = some (.slice (some ⟨gp, op, none⟩) q1 d1) ∧ X.cell? ⟨g3, o3 + 2, none⟩ = some (.slice (some ⟨gq, oq, none⟩) q1 d3))
            (first
            | exact HS5.out _ (HI8.out.below (Below.refl _ _).drew)
            | exact HKEEP.out _ HF9.out)
            (first
            | (go_at_call 112; refine HPA.out.mono ?_; rintro r w9 ⟨AO9, co9, rfl, hr9, hf9⟩; have HR9 := Lib.hid hr9; have HF9 := Lib.hid hf9; clear hr9 hf9))
          clear ‹_ ∧ _›
          have HN9 := Lib.hid (HFIN.out AO9 co9 w9 HR9.out HF9.out)
          go_wp2_with fail
          go_roundg (weigh (ps0 ++ (P.kids.zip Q.kids).reverse.map (Pr.lift HL1.out HG1.out)))
          case measure => exact HMS.out
          case rel => exact ⟨k + q1, AO9, co9, N2 + q1, mo3, E ++ [(P, Q)], _, rfl, Lib.hid rfl, HN9⟩
        · rw [show (!true) = false from rfl]
          have HT8 := Lib.hid (show Conn E P Q ∧ EqSt E kq (N2 + q1) mo3 w8 by have h := HJ8.out.1 rfl; rw [← HPQ.out.2.2.1] at h; exact h)
          have HNX := Lib.hid (HQ.out.skip (done_pair HKN.out.1 HKN.out.2 HPQ.out.1 HPQ.out.2.1 HT8.out.1) HI8.out HT8.out.2 HO8.out HR8.out (by rw [show (x, y).1.ex.args.length = q1 from HQ1.out.symm]; exact Nat.le_refl _))
          go_wp2_with fail
          go_roundg (weigh ps0)
          case measure =>
            rw [HG.out, weigh_app]
            have := exSize_pos x.ex
            simp [weigh]
            omega
          case rel => exact ⟨k, _, co, N2 + q1, mo3, E, ps0, rfl, Lib.hid rfl, HNX⟩
end Go.Proofs.Ytmndlhbgacgnlaa

namespace Go.Proofs.Ytmndlhbgacgnlaa
open Go Go.RowKit

theorem exs_low (n : Nat) : (∀ (e : Ex), exSize e ≤ n → ∀ (w : World) (g o : Nat) (bs : List Nat), ExAt w g o e bs → ∀ x ∈ bs, x < w.heap.size) ∧ (∀ (l : List Ex), exSizes l ≤ n → ∀ (w : World) (g o j : Nat) (bs : List Nat), ExsAt w g o j l bs → ∀ x ∈ bs, x < w.heap.size) := by
  induction n with
  | zero =>
    refine ⟨fun e h => by have := exSize_pos e; omega, fun l h => ?_⟩
    cases l with
    | nil => intro w g o j bs h1 x hx; rw [ExsAt] at h1; subst h1; cases hx
    | cons e r => rw [exSizes] at h; have := exSize_pos e; omega
  | succ n ih =>
    have hE : ∀ (e : Ex), exSize e ≤ n + 1 → ∀ (w : World) (g o : Nat) (bs : List Nat), ExAt w g o e bs → ∀ x ∈ bs, x < w.heap.size := by
      intro e he w g o bs h x hx
      cases e with
      | mk k s l =>
        rw [exSize] at he
        rw [ExAt] at h
        obtain ⟨-, -, -, A, c, -, -, -, h7⟩ := h
        rcases h7 with ⟨-, rfl⟩ | ⟨g1, o1, b1, -, h8, rfl, h9⟩
        · cases hx
        · rcases List.mem_cons.1 hx with rfl | hx
          · exact h8
          · exact ih.2 l (by omega) w g1 o1 0 b1 h9 x hx
    refine ⟨hE, ?_⟩
    intro l
    induction l with
    | nil => intro _ w g o j bs h1 x hx; rw [ExsAt] at h1; subst h1; cases hx
    | cons e r ihl =>
      intro hl w g o j bs h x hx
      rw [exSizes] at hl
      have := exSize_pos e
      rw [ExsAt] at h
      obtain ⟨b1, b2, rfl, h1, h2⟩ := h
      rcases List.mem_append.1 hx with hx | hx
      · exact hE e (by omega) w g _ b1 h1 x hx
      · exact ihl (by omega) w g o (j + 1) b2 h2 x hx
theorem ru_lt {w : World} {v : Value} {e : Ex} {bs : List Nat} (h : ExIs w v e bs) : ∀ x ∈ bs, x < w.heap.size := by
  obtain ⟨u, -, -, A, c, -, -, -, h3⟩ := h
  intro x hx
  rcases h3 with ⟨-, rfl⟩ | ⟨g, o, b, -, hg, rfl, h4⟩
  · cases hx
  · rcases List.mem_cons.1 hx with rfl | hx
    · exact hg
    · exact (exs_low _).2 _ (Nat.le_refl _) w g o 0 b h4 x hx
/-- Places in memory that no string shares. -/
theorem pl_free {w : World} {G : List Nat} (hfr : ∀ x ∈ G, ∀ o, w.frozen? ⟨x, o, none⟩ = false) (p : Pl w G) : FreeB w p.adr.block := by
  obtain ⟨v, hv⟩ := Pl.cell p
  exact FreeB.of_cell hv (hfr _ p.2.2.1)
theorem eq_fresh {wo w : World} {G : List Nat} {kq : Nat} (h : EqBox w kq 0 none) : EqSt (wo := wo) (G := G) [] kq 0 none w := ⟨h, fun mb e => by cases e⟩

set_option maxRecDepth 100000 in
set_option maxHeartbeats 1000000 in
theorem own_equal (a b : Ex) (v v2 : Value) (bs bs2 : List Nat) (w : World) (hv : ExIs w v a bs) (hv2 : ExIs w v2 b bs2) (hb : exSize a ≤ 1099511627776) (hfr : ∀ x ∈ bs ++ bs2, ∀ o, w.frozen? ⟨x, o, none⟩ = false) : Calls Try.prog 26 #[v, v2] w (RetPost (.bool (exEq a b)) w) := by
  obtain ⟨u, rfl, hs, hu⟩ := id hv
  obtain ⟨A, c, rfl, hc1, hc2, -⟩ := id hu
  obtain ⟨u2, rfl, hs2, hu2⟩ := id hv2
  obtain ⟨A2, c2, rfl, hd1, hd2, -⟩ := id hu2
  have HGL := Lib.hid (show ∀ z ∈ bs ++ bs2, z < w.heap.size from fun z hz => (List.mem_append.1 hz).elim (ru_lt hv z) (ru_lt hv2 z))
  obtain ⟨m, hm⟩ : ∃ m, m = a.args.length := ⟨_, rfl⟩
  obtain ⟨m2, hm2⟩ : ∃ m2, m2 = b.args.length := ⟨_, rfl⟩
  rw [← hm] at hv hc1 ⊢
  rw [← hm2] at hv2 hd1 ⊢
  have HINC := Lib.hid (fun (kq : Nat) (X : World) (hq : EqBox X kq 0 none) (hlow : Below w.heap.size w X) (hkq : w.heap.size ≤ kq) => own_include (wo := w) (G := bs ++ bs2) a b _ _ bs bs2 kq 0 none X hv hv2 (fun z h => h) HGL.out (eq_fresh hq) hlow hkq (by omega) (pl_free hfr))
  clear hv hu hv2 hu2 hm hm2 hfr hb hs hs2 hc2 hd2
  have HB := Lib.hid (fun (o1 o2 o3 : Obj) => (((Below.refl w.heap.size w).alloc (Nat.le_refl _) o1).alloc (by simp) o2).alloc (by simp; omega) o3)
  go_enter Try.func26, Try.ntmps26
  go_wp2_with fail
  go_at_call 69
  obtain ⟨X, hX⟩ : ∃ X, X = ((w.alloc (.cells #[.int .i64 a.kind, .string a.name, .slice A m c] 26)).alloc (.cells #[.int .i64 b.kind, .string b.name, .slice A2 m2 c2] 26)).alloc (.cells #[.int .i64 0, .map none] 97) := ⟨_, rfl⟩
  rw [← hX]
  have hbX : Below w.heap.size w X := by rw [hX]; exact HB.out _ _ _
  have hqX : EqBox X (w.heap.size + 1 + 1) 0 none := by
    have := World.alloc_heap_new ((w.alloc (.cells #[.int .i64 a.kind, .string a.name, .slice A m c] 26)).alloc (.cells #[.int .i64 b.kind, .string b.name, .slice A2 m2 c2] 26)) (.cells #[.int .i64 0, .map none] 97)
    rw [World.size_alloc, World.size_alloc, ← hX] at this
    exact this
  refine (HINC.out _ X hqX hbX (by omega)).mono ?_
  rintro r w5 ⟨N2, mo2, rfl, hf5, -⟩
  have HF5 := Lib.hid (hbX.trans (hf5.below (fun x hx => by simp at hx; omega) hbX.size))
  clear hX hbX hqX hf5
  go_wp2_with fail
  go_ret
  exact ⟨rfl, HF5.out⟩
end Go.Proofs.Ytmndlhbgacgnlaa
