/- A part of the proof of the seat's statement: OnceInv. Condition: as each says. -/
import Derived.Test.YtiaknfnhmoinpaaGreatRows
import Derived.WalkKit
import Derived.Lib.Hide
import Derived.Maps.OwnSet
import Derived.Maps.OwnIn
import Derived.Test.YtiaknfnhmoinpaaGreatNames
import Derived.LaidEql
import Derived.Test.YtiaknfnhmoinpaaGreatNodesKit
import Derived.Test.YtiaknfnhmoinpaaGreatSpecEqual
set_option maxHeartbeats 8000000
namespace Go.Proofs.YtiaknfnhmoinpaaGreat
open Go Go.RowKit Go.ChangeMaps Go.WideMaps
structure KeyT (P : Program) (k : TypeId) (w : World) (K : Value → Prop) : Prop where
 check : ∀ (em : Bool) (v : Value), K v → (Instr.checkKey em 10000 k v).run P w = .ok () w
 find : ∀ (x : Value) (es : List MapEntry), K x → (∀ e ∈ es, K e.key) → ((Instr.findKey k x es).run P w = .ok none w ∧ ∀ e ∈ es, e.key ≠ x) ∨ ∃ j e, (Instr.findKey k x es).run P w = .ok (some (j, e.val)) w ∧ es[j]? = some e ∧ e.key = x
 stays : ∀ v : Value, K v → (Instr.keyThatStays v v).run P w = .ok v w
theorem find_asking {P : Program} {k : TypeId} {w : World} {K : Value → Prop} (heq : ∀ x y : Value, K x → K y → ∃ r : Bool, (Op.equal k x y).run P w = .ok r w ∧ (r = true ↔ x = y)) {x : Value} (hx : K x) :
 ∀ (es : List MapEntry) (i : Nat), (∀ e ∈ es, K e.key) → ((Instr.findAsking k x es i).run P w = .ok none w ∧ ∀ e ∈ es, e.key ≠ x) ∨ ∃ j e, (Instr.findAsking k x es i).run P w = .ok (some (i + j, e.val)) w ∧ es[j]? = some e ∧ e.key = x := by
 intro es
 induction es with
 | nil => intro i _; exact Or.inl ⟨by simp [Instr.findAsking], fun e h => by cases h⟩
 | cons e r ih =>
  intro i hall
  obtain ⟨b, hr, hiff⟩ := heq x e.key hx (hall e (by simp))
  cases b with
  | true => exact Or.inr ⟨0, e, by simp [Instr.findAsking, hr], rfl, (hiff.1 rfl).symm⟩
  | false =>
   have hne : e.key ≠ x := fun h => by have := hiff.2 h.symm; cases this
   rcases ih (i + 1) (fun y hy => hall y (by simp [hy])) with ⟨h1, h2⟩ | ⟨j, e', h1, h2, h3⟩
   · refine Or.inl ⟨by simp [Instr.findAsking, hr, h1], fun y hy => ?_⟩
     rcases List.mem_cons.1 hy with rfl | hy
     · exact hne
     exact h2 y hy
   exact Or.inr ⟨j + 1, e', by simp [Instr.findAsking, hr, h1]; omega, by simpa using h2, h3⟩
def MapIs (w : World) (b : Nat) (L : List (Value × Value)) : Prop :=
 ∃ es clock, w.heap[b]? = some (.map es clock) ∧ es.toList.map (fun e => (e.key, e.val)) = L ∧ (L.map Prod.fst).Nodup
theorem MapIs.lt {w : World} {b : Nat} {L : List (Value × Value)} (h : MapIs w b L) : b < w.heap.size := by
 obtain ⟨es, clock, hb, -⟩ := h
 exact (Array.getElem?_eq_some_iff.1 hb).1
theorem MapIs.on {w w2 : World} {b : Nat} {L : List (Value × Value)} (h : MapIs w b L) (hk : w2.heap[b]? = w.heap[b]?) : MapIs w2 b L := by
 obtain ⟨es, clock, hb, r⟩ := h
 exact ⟨es, clock, hk.trans hb, r⟩
theorem MapIs.made (w : World) : MapIs (w.alloc (.map #[] 0)) w.heap.size [] := ⟨#[], 0, (MapKept.heap_alloc w _).1, rfl, List.nodup_nil⟩
def Hits (L : List (Value × Value)) (key : Value) (z v : Value) (b : Bool) : Prop := ((key, v) ∈ L ∧ b = true) ∨ ((∀ x ∈ L, x.1 ≠ key) ∧ v = z ∧ b = false)
def Put (L : List (Value × Value)) (key val : Value) (L2 : List (Value × Value)) : Prop := ((∀ x ∈ L, x.1 ≠ key) ∧ L2 = L ++ [(key, val)]) ∨ ∃ A v0 B, L = A ++ (key, v0) :: B ∧ L2 = A ++ (key, val) :: B
theorem nodup_one : ∀ (L : List (Value × Value)), (L.map Prod.fst).Nodup → ∀ x ∈ L, ∀ y ∈ L, x.1 = y.1 → x = y := by
 intro L
 induction L with
 | nil => intro _ x hx; cases hx
 | cons p r ih =>
  intro hn x hx y hy e
  rw [List.map_cons, List.nodup_cons] at hn
  rcases List.mem_cons.1 hx with e1 | h1 <;> rcases List.mem_cons.1 hy with e2 | h2
  · rw [e1, e2]
  · exact (hn.1 (List.mem_map.2 ⟨y, h2, by rw [← e, e1]⟩)).elim
  · exact (hn.1 (List.mem_map.2 ⟨x, h1, by rw [e, e2]⟩)).elim
  exact ih hn.2 x h1 y h2 e
theorem Hits.uniq {L : List (Value × Value)} (hn : (L.map Prod.fst).Nodup) {key z v v2 : Value} {b b2 : Bool} (h : Hits L key z v b) (h2 : Hits L key z v2 b2) : v = v2 ∧ b = b2 := by
 rcases h with ⟨h1, rfl⟩ | ⟨h1, rfl, rfl⟩ <;> rcases h2 with ⟨h3, rfl⟩ | ⟨h3, rfl, rfl⟩
 · exact ⟨(Prod.mk.inj (nodup_one L hn _ h1 _ h3 rfl)).2, rfl⟩
 · exact absurd rfl (h3 _ h1)
 · exact absurd rfl (h1 _ h3)
 exact ⟨rfl, rfl⟩
section
variable {P : Program} {w : World} {k e t : TypeId} {K : Value → Prop} {b : Nat} {L : List (Value × Value)}
theorem MapIs.look (h : MapIs w b L) (hK : KeyT P k w K) (ht : P.underlying t = some (.map k e)) {z : Value} (hz : (zeroValue e).run P w = .ok z w) {key : Value} (hkey : K key) (hL : ∀ x ∈ L, K x.1) :
 ∃ v has, (∀ ok : Bool, (Instr.lookup t (.map (some b)) key ok).run P w = .ok (if ok then .tuple #[v, .bool has] else v) w) ∧ Hits L key z v has := by
 obtain ⟨es, clock, hb, rfl, hn⟩ := h
 have hes : ∀ e ∈ es.toList, K e.key := fun e he => hL _ (List.mem_map_of_mem he)
 rcases hK.find key es.toList hkey hes with ⟨h1, h2⟩ | ⟨j, e0, h1, h2, h3⟩
 · refine ⟨z, false, fun ok => ?_, Or.inr ⟨fun x hx => ?_, rfl, rfl⟩⟩
   · simp [Instr.lookup, run_underlying ht, MapKept.run_getObj_map hb, hK.check _ key hkey, h1, hz, Result.andThen]
   obtain ⟨e1, he1, rfl⟩ := List.mem_map.1 hx
   exact h2 e1 he1
 refine ⟨e0.val, true, fun ok => ?_, Or.inl ⟨?_, rfl⟩⟩
 · simp [Instr.lookup, run_underlying ht, MapKept.run_getObj_map hb, hK.check _ key hkey, h1, Result.andThen]
 rw [← h3]
 exact List.mem_map.2 ⟨e0, List.mem_of_getElem? h2, rfl⟩
theorem nodup_split {A B : List (Value × Value)} {key v0 v1 : Value} (h : ((A ++ (key, v0) :: B).map Prod.fst).Nodup) : ((A ++ (key, v1) :: B).map Prod.fst).Nodup := by
 simpa using h
theorem MapIs.update (h : MapIs w b L) (hK : KeyT P k w K) (ht : P.underlying t = some (.map k e)) {key val : Value} (hkey : K key) (hL : ∀ x ∈ L, K x.1) :
 ∃ w' L2, (Instr.mapUpdate t (.map (some b)) key val).run P w = .ok () w' ∧ MapIs w' b L2 ∧ Put L key val L2 ∧ w.grownBy w' (some b) := by
 obtain ⟨es, clock, hb, rfl, hn⟩ := h
 have hes : ∀ e ∈ es.toList, K e.key := fun e he => hL _ (List.mem_map_of_mem he)
 have grown : ∀ o : Obj, w.grownBy (setBlock w b o) (some b) := fun o => ⟨rfl, rfl, rfl, by simp [setBlock], fun i _ hi => heap_setBlock_other hb _ (fun e => hi (by rw [e]))⟩
 rcases hK.find key es.toList hkey hes with ⟨h1, h2⟩ | ⟨j, e0, h1, h2, h3⟩
 · have hne : ∀ x ∈ es.toList.map (fun e => (e.key, e.val)), x.1 ≠ key := fun x hx => by
    obtain ⟨e1, he1, rfl⟩ := List.mem_map.1 hx
    exact h2 e1 he1
   refine ⟨setBlock w b (.map (es.push ⟨key, val, clock⟩) (clock + 1)), es.toList.map (fun e => (e.key, e.val)) ++ [(key, val)], ?_, ⟨_, _, heap_setBlock_same hb _, by simp, ?_⟩, Or.inl ⟨hne, rfl⟩, grown _⟩
   · simp [Instr.mapUpdate, run_underlying ht, MapKept.run_getObj_map hb, hK.check false key hkey, h1, MapKept.run_setObj_map _ hb, Result.andThen, setBlock]
   rw [List.map_append, List.nodup_append]
   refine ⟨hn, by simp, fun a ha b hb e => ?_⟩
   simp only [List.map_cons, List.map_nil, List.mem_singleton] at hb
   obtain ⟨x, hx, rfl⟩ := List.mem_map.1 ha
   exact hne x hx (e.trans hb)
 have hj : es[j]? = some e0 := by simpa using h2
 have hlist : (es.modify j (fun e' => { e' with key := key, val := val })).toList = es.toList.set j { e0 with key := key, val := val } := by rw [Array.toList_modify, modify_eq_set _ _ _ _ h2]
 obtain ⟨A, B, hAB, hA⟩ : ∃ A B, es.toList = A ++ e0 :: B ∧ A.length = j := by
  have hl := (List.getElem?_eq_some_iff.1 h2).1
  refine ⟨es.toList.take j, es.toList.drop (j + 1), ?_, by rw [List.length_take]; omega⟩
  rw [← (List.getElem?_eq_some_iff.1 h2).2, ← List.drop_eq_getElem_cons hl, List.take_append_drop]
 have hset : es.toList.set j { e0 with key := key, val := val } = A ++ { e0 with key := key, val := val } :: B := by
  rw [hAB, List.set_append_right _ _ (by omega), hA, Nat.sub_self, tJ]
 refine ⟨setBlock w b (.map (es.modify j (fun e' => { e' with key := key, val := val })) clock), A.map (fun e => (e.key, e.val)) ++ (key, val) :: B.map (fun e => (e.key, e.val)), ?_, ⟨_, _, heap_setBlock_same hb _, by rw [hlist, hset]; simp, ?_⟩, Or.inr ⟨A.map (fun e => (e.key, e.val)), e0.val, B.map (fun e => (e.key, e.val)), by rw [hAB]; simp [h3], rfl⟩, grown _⟩
 · simp [Instr.mapUpdate, run_underlying ht, MapKept.run_getObj_map hb, hK.check false key hkey, h1, hj, h3, hK.stays key hkey, MapKept.run_setObj_map _ hb, Result.andThen, setBlock]
 rw [hAB] at hn
 refine nodup_split (v0 := e0.val) ?_
 simpa [h3] using hn
end
theorem Put.nodup_keys {L L2 : List (Value × Value)} {key val : Value} (h : Put L key val L2) {K : Value → Prop} (hL : ∀ x ∈ L, K x.1) (hk : K key) : ∀ x ∈ L2, K x.1 := by
 rcases h with ⟨-, rfl⟩ | ⟨A, v0, B, rfl, rfl⟩
 · intro x hx
   rcases List.mem_append.1 hx with hx | hx
   · exact hL x hx
   rw [List.mem_singleton] at hx; subst hx; exact hk
 intro x hx
 rcases List.mem_append.1 hx with hx | hx
 · exact hL x (by simp [hx])
 rcases List.mem_cons.1 hx with rfl | hx
 · exact hk
 exact hL x (by simp [hx])
section
variable {P : Program} {k e t : TypeId} {K : Value → Prop} {b : Nat} {L : List (Value × Value)} (w : World) {ops : Array Oper} {rest : List Oper} {o : Oper} {a : Act} {Q : Exit → Act → World → Prop} {F : Fence} {nF : Nat}
theorem asc_put_in (hg : o.guard = none) (m x v : Operand) (t : TypeId) (hop : o.op = Op.mapUpdate t m x v) (k e : TypeId) (ht : P.underlying t = some (.map k e)) (K : Value → Prop) (hK : KeyT P k w K) (b : Nat) (L : List (Value × Value)) (hm : a.eval m = .map (some b)) (h : MapIs w b L) (key val : Value) (hx : a.eval x = key) (hv : a.eval v = val) (hkey : K key) (hL : ∀ x ∈ L, K x.1)
 (hQ : ∀ w' L2, MapIs w' b L2 → Put L key val L2 → w.grownBy w' (some b) → wpListIn F nF P ops Q rest (a.put o.dst undef) w') : wpListIn F nF P ops Q (o :: rest) a w := by
 refine wpListIn_plain hg fun K' hK' => ?_
 obtain ⟨w', L2, hrun, r1, r2, r3⟩ := h.update (val := val) hK ht hkey hL
 unfold Oper.wpIn
 refine ⟨by simp [Oper.about, hop], ?_⟩
 rw [Oper.semAt_plain F _ _ (by rw [hop]; intro c hc'; cases hc')]
 simp [execOp, hop, hm, hx, hv, hrun, Result.andThen]
 exact hK' _ _ (hQ w' L2 r1 r2 r3)
theorem asc_len_run (h : MapIs w b L) (ht : P.underlying t = some (.map k e)) (ty : TypeId) : (Builtin.len_ #[t] ty #[.map (some b)]).run P w = .ok (.int .i64 (L.length : Int)) w := by
 obtain ⟨es, clock, hb, rfl, -⟩ := h
 simp [Builtin.len_, run_underlying ht, MapKept.run_getObj_map hb, goInt, Result.andThen]
end
open Go Go.RowKit
def FreeB (w : World) (b : Nat) : Prop := (∃ c t f, w.heap[b]? = some (.cells c t f)) ∧ ∀ o, w.frozen? ⟨b, o, none⟩ = false
theorem FreeB.lt {w : World} {b : Nat} (h : FreeB w b) : b < w.heap.size := by
 obtain ⟨⟨c, t, f, h⟩, -⟩ := h
 exact (Array.getElem?_eq_some_iff.1 h).1
theorem FreeB.on {w w2 : World} {b : Nat} (h : FreeB w b) (hk : w2.heap[b]? = w.heap[b]?) : FreeB w2 b := by
 obtain ⟨⟨c, t, f, h1⟩, h2⟩ := h
 exact ⟨⟨c, t, f, hk.trans h1⟩, fun o => (World.frozen?_of_block (w := w) (a := ⟨b, o, none⟩) hk).trans (h2 o)⟩
theorem FreeB.of_cell {w : World} {b o : Nat} {v : Value} (h : w.cell? ⟨b, o, none⟩ = some v) (hf : ∀ o, w.frozen? ⟨b, o, none⟩ = false) : FreeB w b := by
 refine ⟨?_, hf⟩
 unfold World.cell? at h
 split at h
 · exact ⟨_, _, _, ‹_›⟩
 cases h
theorem frozen_off {w : World} {b : Nat} (h : ∀ o, w.frozen? ⟨b, o, none⟩ = false) (a : Addr) (ha : a.block = b) : w.frozen? a = false := by
 have := h a.off
 unfold World.frozen? at this ⊢
 rw [ha]; exact this
theorem same_free {P : Program} {w : World} {a b : Addr} (ha : FreeB w a.block) (hb : FreeB w b.block) : (sameAddr a b).run P w = .ok (decide (a = b)) w := by
 by_cases hbl : a.block = b.block
 · have : (a == b) = decide (a = b) := by by_cases h : a = b <;> simp [h]
   simp [sameAddr, hbl, this]
 obtain ⟨⟨ca, ta, fa, hca⟩, hfa⟩ := ha
 obtain ⟨⟨cb, tb, fb, hcb⟩, hfb⟩ := hb
 have hne : a ≠ b := fun e => hbl (by rw [e])
 have h1 : ∀ o p, w.frozen? ⟨a.block, o, p⟩ = false := fun o p => frozen_off hfa _ rfl
 have h2 : ∀ o p, w.frozen? ⟨b.block, o, p⟩ = false := fun o p => frozen_off hfb _ rfl
 simp [sameAddr, hbl, h1, h2, hca, hcb, noView, viewAt, World.shape?, mayBeOne, stringish, hne]
theorem eq_ptr {P : Program} {w : World} {tp te : TypeId} {j : TypeInfo} {a b : Addr} (hp : P.underlying tp = some (.pointer te)) (hte : P.info? te = some j) (hsz : j.size ≠ 0) (ha : FreeB w a.block) (hb : FreeB w b.block) (d : Nat) :
 (Op.equalIn (d + 1) tp (.pointer (some a)) (.pointer (some b))).run P w = .ok (decide (a = b)) w := by
 simp [Op.equalIn, run_underlying hp, sizeOf, typeInfo, hte, hsz, same_free ha hb]
theorem at_det (n : Nat) : (∀ (e e' : Ex), exSize e ≤ n → ∀ (w : World) (g o : Nat) (bs bs' : List Nat), ExAt w g o e bs → ExAt w g o e' bs' → e = e') ∧
 (∀ (l l' : List Ex), exSizes l ≤ n → ∀ (w : World) (g o j : Nat) (bs bs' : List Nat), ExsAt w g o j l bs → ExsAt w g o j l' bs' → l.length = l'.length → l = l') := by
 induction n with
 | zero =>
  refine ⟨fun e _ h => by have := exSize_pos e; omega, fun l l' h => ?_⟩
  cases l with
  | nil => intro w g o j bs bs' _ _ hl; exact (List.eq_nil_of_length_eq_zero (by simpa using hl.symm)).symm
  | cons e r => rw [exSizes] at h; have := exSize_pos e; omega
 | succ n ih =>
  have hE : ∀ (e e' : Ex), exSize e ≤ n + 1 → ∀ (w : World) (g o : Nat) (bs bs' : List Nat), ExAt w g o e bs → ExAt w g o e' bs' → e = e' := by
   intro e e' he w g o bs bs' h h'
   cases e with
   | mk k s l =>
    cases e' with
    | mk k' s' l' =>
     rw [exSize] at he
     rw [ExAt] at h h'
     obtain ⟨h1, h2, -, A, c, h4, -, -, h7⟩ := h
     obtain ⟨h1', h2', -, A', c', h4', -, -, h7'⟩ := h'
     rw [h1] at h1'
     rw [h2] at h2'
     rw [h4] at h4'
     simp only [Option.some.injEq, Value.int.injEq, Value.string.injEq, Value.slice.injEq, true_and] at h1' h2' h4'
     obtain ⟨hA, hl, -⟩ := h4'
     subst h1' h2' hA
     have : l = l' := by
      rcases h7 with ⟨rfl, -⟩ | ⟨g1, o1, b1, e1, -, -, h8⟩
      · exact (List.eq_nil_of_length_eq_zero (by simpa using hl.symm)).symm
      rcases h7' with ⟨rfl, -⟩ | ⟨g2, o2, b2, e2, -, -, h8'⟩
      · exact List.eq_nil_of_length_eq_zero (by simpa using hl)
      rw [e1] at e2
      cases e2
      exact ih.2 l l' (by omega) w g1 o1 0 b1 b2 h8 h8' hl
     rw [this]
  refine ⟨hE, ?_⟩
  intro l
  induction l with
  | nil => intro l' _ w g o j bs bs' _ _ hl; exact (List.eq_nil_of_length_eq_zero (by simpa using hl.symm)).symm
  | cons e r ihl =>
   intro l' hs w g o j bs bs' h h' hl
   cases l' with
   | nil => simp at hl
   | cons e' r' =>
    rw [exSizes] at hs
    have hp := exSize_pos e
    rw [ExsAt] at h h'
    obtain ⟨b1, b2, -, h1, h2⟩ := h
    obtain ⟨b1', b2', -, h1', h2'⟩ := h'
    rw [hE e e' (by omega) w g _ b1 b1' h1 h1', ihl r' (by omega) w g o (j + 1) b2 b2' h2 h2' (by simpa using hl)]
abbrev At (wo : World) (G : List Nat) : Type := { x : Nat × Nat × Ex × List Nat // ExAt wo x.1 x.2.1 x.2.2.1 x.2.2.2 ∧ x.1 ∈ G ∧ ∀ z ∈ x.2.2.2, z ∈ G }
section
variable {wo : World} {G : List Nat}
abbrev Pr (wo : World) (G : List Nat) : Type := At wo G × At wo G
end
section
variable {wo : World}
def plOf (x : It wo) : Option (Addr × Nat) := match x.1.2.2.1 with
 | .slice (some a) n _ => if n = 0 then none else some (a, n)
 | _ => none
def askO (pre : List (It wo)) (x : It wo) : Bool := match plOf x with
 | none => false
 | some p => decide (some p ∉ pre.map plOf)
theorem plOf_slice {x : It wo} {A : Option Addr} {n c : Nat} (h : x.1.2.2.1 = .slice A n c) : (n = 0 → plOf x = none) ∧ (∀ a, A = some a → n ≠ 0 → plOf x = some (a, n)) := by
 unfold plOf
 rw [h]
 constructor
 · intro h0
   cases A with
   | none => rfl
   | some a => simp [h0]
 rintro a rfl hn
 simp [hn]
theorem plOf_none {x : It wo} (h : plOf x = none) : x.ex.args = [] := by
 obtain ⟨A, c, e1, hs, -, -⟩ := x.slice
 obtain ⟨-, h2⟩ := plOf_slice e1
 obtain ⟨A', c', e2, -, -, h3⟩ := hs
 cases e2
 rcases h3 with ⟨h3, -⟩ | ⟨g, o, b, rfl, -, -, h4⟩
 · exact h3
 by_cases hl : x.ex.args.length = 0
 · exact List.eq_nil_of_length_eq_zero hl
 rw [h2 _ rfl hl] at h; cases h
theorem plOf_some {x : It wo} {p : Addr × Nat} (h : plOf x = some p) : ∃ g o c bs', p = (⟨g, o, none⟩, x.ex.args.length) ∧ x.1.2.2.1 = .slice (some ⟨g, o, none⟩) x.ex.args.length c ∧ x.ex.args.length ≠ 0 ∧ g ∈ x.1.2.2.2 ∧ g < wo.heap.size ∧ ExsAt wo g o 0 x.ex.args bs' := by
 obtain ⟨A, c, e1, hs, -, -⟩ := x.slice
 obtain ⟨h1, h2⟩ := plOf_slice e1
 obtain ⟨A', c', e2, -, -, h3⟩ := hs
 cases e2
 by_cases hl : x.ex.args.length = 0
 · rw [h1 hl] at h; cases h
 rcases h3 with ⟨h3, -⟩ | ⟨g, o, b, rfl, hg, e3, h4⟩
 · rw [h3] at hl; exact absurd rfl hl
 rw [h2 _ rfl hl] at h
 cases h
 exact ⟨g, o, c, b, rfl, e1, hl, by rw [e3]; simp, hg, h4⟩
theorem plOf_same {x y : It wo} {p : Addr × Nat} (hx : plOf x = some p) (hy : plOf y = some p) : x.ex.args = y.ex.args := by
 obtain ⟨g, o, c, b, rfl, -, -, -, -, h1⟩ := plOf_some hx
 obtain ⟨g', o', c', b', e, -, -, -, -, h2⟩ := plOf_some hy
 simp only [Prod.mk.injEq, Addr.mk.injEq, and_true] at e
 obtain ⟨⟨rfl, rfl⟩, hl⟩ := e
 exact (at_det _).2 _ _ (nR _) wo g o 0 b b' h1 h2 hl
theorem find_skip {α : Type} {q : α → Bool} {A B K C : List α} (h : ∀ z ∈ K, z ∈ A) : (A ++ (B ++ (K ++ C))).find? q = (A ++ (B ++ C)).find? q := by
 simp only [List.find?_append]
 cases hA : A.find? q with
 | some a => rfl
 | none =>
  have hK : K.find? q = none := by
   rw [List.find?_eq_none] at hA ⊢
   exact fun z hz => hA z (h z hz)
  rw [hK]; simp
structure InvO (e : Ex) (bs : List Nat) (pre st : List (It wo)) : Prop where
 blk : SubB bs (pre ++ st)
 find : ∀ q : Ex → Bool, (pre.map It.ex ++ due st).find? q = (exNodes e).find? q
 seen : ∀ s ∈ pre, plOf s ≠ none → ∃ j, j ≤ st.length ∧ (∀ y ∈ st.drop j, exSize y.ex < exSize s.ex) ∧ ∀ z ∈ exNodesL s.ex.args, z ∈ pre.map It.ex ++ due (st.drop j)
theorem size_of_args {e e2 : Ex} (h : e.args = e2.args) : exSize e = exSize e2 := by
 cases e; cases e2
 simp only [Ex.args] at h
 rw [exSize, exSize, h]
theorem InvO.start {e : Ex} {bs : List Nat} (x : It wo) (hx : x.ex = e) (hb : ∀ z ∈ x.1.2.2.2, z ∈ bs) : InvO e bs [] [x] :=
 ⟨fun y hy => by rw [List.nil_append, List.mem_singleton] at hy; subst hy; exact hb, fun q => by rw [show due [x] = exNodes x.ex by simp [due], hx]; rfl, fun s hs => by cases hs⟩
theorem InvO.go {e : Ex} {bs : List Nat} {pre st ks : List (It wo)} {x : It wo} (h : InvO e bs pre (st ++ [x])) (hk : ks.map It.ex = x.ex.args.reverse) (hb : SubB x.1.2.2.2 ks) : InvO e bs (pre ++ [x]) (st ++ ks) := by
 have hd : due (st ++ ks) = exNodesL x.ex.args ++ due st := by rw [due_app, due_kids ks _ hk]
 have hks : ∀ y ∈ ks, exSize y.ex < exSize x.ex := fun y hy => exSize_args (by
  have : y.ex ∈ ks.map It.ex := List.mem_map_of_mem hy
  rw [hk] at this
  simpa using this)
 refine ⟨fun y hy z hz => ?_, fun q => ?_, fun s hs hp => ?_⟩
 · simp only [List.mem_append, List.mem_singleton] at hy
   rcases hy with (hy | rfl) | hy | hy
   · exact h.blk y (by simp [hy]) z hz
   · exact h.blk y (by simp) z hz
   · exact h.blk y (by simp [hy]) z hz
   exact h.blk x (by simp) z (hb y hy z hz)
 · rw [← h.find q, due_one, hd]
   simp
 rcases List.mem_append.1 hs with hs | hs
 · obtain ⟨j, hj, h1, h2⟩ := h.seen s hs hp
   by_cases hl : j ≤ st.length
   · rw [List.drop_append_of_le_length hl] at h1 h2
     refine ⟨j, by simp; omega, fun y hy => ?_, fun z hz => ?_⟩
     · rw [List.drop_append_of_le_length hl] at hy
       rcases List.mem_append.1 hy with hy | hy
       · exact h1 y (by simp [hy])
       exact Nat.lt_trans (hks y hy) (h1 x (by simp))
     have := h2 z hz
     rw [due_one] at this
     rw [List.drop_append_of_le_length hl, due_app, due_kids ks _ hk]
     simp only [List.map_append, List.map_cons, List.map_nil, List.mem_append, List.mem_cons, List.not_mem_nil, or_false] at this ⊢
     rcases this with h | h | h | h
     · exact Or.inl (Or.inl h)
     · exact Or.inl (Or.inr h)
     · exact Or.inr (Or.inl h)
     exact Or.inr (Or.inr h)
   rw [List.drop_eq_nil_of_le (by simp; omega)] at h2
   refine ⟨(st ++ ks).length, nR _, fun y hy => by simp at hy, fun z hz => ?_⟩
   have := h2 z hz
   simp only [due, List.reverse_nil, List.flatMap_nil, List.append_nil] at this
   simp [this]
 rw [List.mem_singleton] at hs
 subst hs
 refine ⟨st.length, by simp, fun y hy => hks y (by simpa using hy), fun z hz => ?_⟩
 rw [List.drop_left, due_kids ks _ hk]
 simp [hz]
theorem InvO.skip {e : Ex} {bs : List Nat} {pre st : List (It wo)} {x : It wo} (h : InvO e bs pre (st ++ [x])) (ha : askO pre x = false) : InvO e bs (pre ++ [x]) st := by
 have hbel : ∀ z ∈ exNodesL x.ex.args, z ∈ pre.map It.ex := by
  intro z hz
  unfold askO at ha
  cases hp : plOf x with
  | none => rw [plOf_none hp] at hz; simp [exNodesL] at hz
  | some p =>
   rw [hp] at ha
   simp only [decide_eq_false_iff_not, Decidable.not_not] at ha
   obtain ⟨s, hs, hsp⟩ := List.mem_map.1 ha
   have he := plOf_same hsp hp
   obtain ⟨j, hj, h1, h2⟩ := h.seen s hs (by rw [hsp]; simp)
   by_cases hl : j ≤ st.length
   · rw [List.drop_append_of_le_length hl] at h1
     have := h1 x (by simp)
     rw [size_of_args he] at this
     omega
   rw [List.drop_eq_nil_of_le (by simp; omega)] at h2
   have := h2 z (by rw [he]; exact hz)
   simpa [due] using this
 refine ⟨fun y hy z hz => ?_, fun q => ?_, fun s hs hp => ?_⟩
 · simp only [List.mem_append, List.mem_singleton] at hy
   rcases hy with (hy | rfl) | hy
   · exact h.blk y (by simp [hy]) z hz
   · exact h.blk y (by simp) z hz
   exact h.blk y (by simp [hy]) z hz
 · have h1 := h.find q
   rw [due_one] at h1
   rw [← h1]
   have := find_skip (q := q) (A := pre.map It.ex) (B := [x.ex]) (K := exNodesL x.ex.args) (C := due st) hbel
   simpa using this.symm
 rcases List.mem_append.1 hs with hs | hs
 · obtain ⟨j, hj, h1, h2⟩ := h.seen s hs hp
   by_cases hl : j ≤ st.length
   · rw [List.drop_append_of_le_length hl] at h1 h2
     refine ⟨j, hl, fun y hy => h1 y (by simp [hy]), fun z hz => ?_⟩
     have := h2 z hz
     rw [due_one] at this
     simp only [List.map_append, List.map_cons, List.map_nil, List.mem_append, List.mem_cons, List.not_mem_nil, or_false] at this ⊢
     rcases this with h | h | h | h
     · exact Or.inl (Or.inl h)
     · exact Or.inl (Or.inr h)
     · exact Or.inl (Or.inl (hbel z h))
     exact Or.inr h
   rw [List.drop_eq_nil_of_le (by simp; omega)] at h2
   refine ⟨st.length, nR _, fun y hy => by simp at hy, fun z hz => ?_⟩
   have := h2 z hz
   simp only [due, List.reverse_nil, List.flatMap_nil, List.append_nil] at this
   simp [this]
 rw [List.mem_singleton] at hs
 subst hs
 exact ⟨st.length, nR _, fun y hy => by simp at hy, fun z hz => by simp [hbel z hz]⟩
end
end Go.Proofs.YtiaknfnhmoinpaaGreat
