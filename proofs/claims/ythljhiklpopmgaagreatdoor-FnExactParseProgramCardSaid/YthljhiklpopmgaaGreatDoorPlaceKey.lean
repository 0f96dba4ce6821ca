/- A part of the proof of the seat's statement: PlaceKey. Condition: as each says. -/
import Derived.Test.YthljhiklpopmgaaGreatDoorSpecNames
import Derived.Test.YthljhiklpopmgaaGreatDoorRows
import Derived.WalkKit
import Derived.Lib.Hide
import Derived.Maps.OwnSet
import Derived.Test.YthljhiklpopmgaaGreatDoorOnceInv
set_option maxHeartbeats 8000000
namespace Go.Proofs.YthljhiklpopmgaaGreatDoor
open Go Go.RowKit Go.ChangeMaps Go.WideMaps
def litOf (s : ByteArray) : Lit := .string s.data.toList
def yes : DataW Unit := .lit (.bool true)
def noo : DataW Unit := .lit (.bool false)
def inL (L : List ByteArray) (s : ByteArray) : Bool := decide (0 ≤ idx L s)
theorem inL_yes {L : List ByteArray} {s : ByteArray} (h : s ∈ L) : inL L s = true := decide_eq_true ((idx_mem L s).2 h)
theorem inL_no {L : List ByteArray} {s : ByteArray} (h : s ∉ L) : inL L s = false := decide_eq_false fun e => h ((idx_mem L s).1 e)
def SetIs (w : World) (b n : Nat) (L : List ByteArray) : Prop :=
 ∃ D : DataW Unit, w.ownsMap Tryz.prog 9 (plainElem Tryz.prog 4) b n D ∧ Maps.Tidy D ∧ (∀ s, Maps.has D (litOf s) = inL L s) ∧ (∀ s, D.atKey (litOf s) noo = .lit (.bool (inL L s))) ∧ Maps.size D = (uniteFrom [] L).length
theorem litOf_inj {a b : ByteArray} (h : litOf a = litOf b) : a = b := by
 have e : a.data.toList = b.data.toList := by simpa [litOf] using h
 have e1 : a.data = b.data := Array.toList_inj.1 e
 cases a; cases b
 simp only at e1
 rw [e1]
theorem unite_memI : ∀ (xs out : List ByteArray) (y : ByteArray), y ∈ uniteFrom out xs ↔ y ∈ out ∨ y ∈ xs := by
 intro xs
 induction xs with
 | nil => intro out y; simp [uniteFrom]
 | cons x r ih =>
  intro out y
  rw [uniteFrom]
  split
  · rename_i hx
    rw [ih out y, List.mem_cons]
    have := (idx_mem out x).1 hx
    constructor
    · rintro (h | h)
      · exact Or.inl h
      exact Or.inr (Or.inr h)
    rintro (h | rfl | h)
    · exact Or.inl h
    · exact Or.inl this
    exact Or.inr h
  rw [ih _ y, List.mem_append, List.mem_singleton, List.mem_cons]
  constructor
  · rintro ((h | h) | h)
    · exact Or.inl h
    · exact Or.inr (Or.inl h)
    exact Or.inr (Or.inr h)
  rintro (h | h | h)
  · exact Or.inl (Or.inl h)
  · exact Or.inl (Or.inr h)
  exact Or.inr h
theorem unite_snoc (x : ByteArray) : ∀ (xs out : List ByteArray), uniteFrom out (xs ++ [x]) = if 0 ≤ idx (uniteFrom out xs) x then uniteFrom out xs else uniteFrom out xs ++ [x] := by
 intro xs
 induction xs with
 | nil =>
  intro out
  have e : ∀ o : List ByteArray, uniteFrom o [] = o := fun o => by rw [uniteFrom]
  rw [e, List.nil_append, uniteFrom, e, e]
 | cons y r ih =>
  intro out
  rw [List.cons_append]
  by_cases h : 0 ≤ idx out y
  · rw [uniteFrom, if_pos h, show uniteFrom out (y :: r) = uniteFrom out r by rw [uniteFrom, if_pos h]]; exact ih out
  rw [uniteFrom, if_neg h, show uniteFrom out (y :: r) = uniteFrom (out ++ [y]) r by rw [uniteFrom, if_neg h]]; exact ih _
theorem unite_full : ∀ (xs out : List ByteArray), (uniteFrom out xs).length = out.length + xs.length ↔ xs.Nodup ∧ ∀ x ∈ xs, x ∉ out := by
 intro xs
 induction xs with
 | nil => intro out; simp [uniteFrom]
 | cons x r ih =>
  intro out
  rw [uniteFrom]
  split
  · rename_i hx
    have hm := (idx_mem out x).1 hx
    have := unite_len r out
    constructor
    · intro h; simp only [List.length_cons] at h; omega
    rintro ⟨-, h⟩; exact absurd hm (h x (by simp))
  rename_i hx
  have hm : x ∉ out := fun e => hx ((idx_mem out x).2 e)
  have := ih (out ++ [x])
  simp only [List.length_append, List.length_cons, List.length_nil] at this ⊢
  rw [show out.length + (r.length + 1) = out.length + (0 + 1) + r.length by omega, this, List.nodup_cons]
  constructor
  · rintro ⟨h1, h2⟩
    refine ⟨⟨fun e => h2 x e (by simp), h1⟩, fun y hy => ?_⟩
    rcases List.mem_cons.1 hy with rfl | hy
    · exact hm
    exact fun e => h2 y hy (by simp [e])
  rintro ⟨⟨h1, h2⟩, h3⟩
  refine ⟨h2, fun y hy e => ?_⟩
  rcases List.mem_append.1 e with e | e
  · exact h3 y (by simp [hy]) e
  rw [List.mem_singleton] at e; subst e; exact h1 hy
theorem set_size_distinct (xs : List ByteArray) : (((uniteFrom [] xs).length : Int) == (xs.length : Int)) = distinct xs := by
 have h := unite_full xs []
 simp only [List.length_nil, Nat.zero_add, List.not_mem_nil, not_false_eq_true, implies_true, and_true] at h
 unfold distinct
 by_cases hd : xs.Nodup
 · rw [decide_eq_true hd]; simp [h.2 hd]
 rw [decide_eq_false hd, beq_eq_false_iff_ne]
 intro e
 exact hd (h.1 (by omega))
theorem keyS : Maps.Keyed Tryz.prog 9 := Maps.string_keyed Tryz.underlying9
theorem zeroB (w : World) : (zeroValue 4).run Tryz.prog w = .ok (.bool false) w := by kernel_rfl
theorem run_makeHint (n : Int) (w : World) : (Instr.makeMap 184 (some (.int .i64 n))).run Tryz.prog w = .ok (.map (some w.heap.size)) (w.alloc (.map #[] 0)) := by
 simp [Instr.makeMap, run_underlying Tryz.underlying184, asInt, asIntOf, Result.andThen]
theorem set_made (w : World) : SetIs (w.alloc (.map #[] 0)) w.heap.size 0 [] :=
 ⟨.map [], World.ownsMap_made _ _ _ _, Maps.tidy_empty, fun _ => rfl, fun _ => rfl, rfl⟩
theorem SetIs.kept {w w' : World} {b n : Nat} {L : List ByteArray} {row : Option Nat} (h : SetIs w b n L) (hg : w.grownBy w' row) (hne : some b ≠ row) : SetIs w' b n L := by
 obtain ⟨D, ho, r⟩ := h
 exact ⟨D, ho.kept hg hne, r⟩
theorem SetIs.below {w w' : World} {b n : Nat} {L : List ByteArray} (h : SetIs w b n L) (hb : Below w.heap.size w w') : SetIs w' b n L := by
 obtain ⟨D, ho, r⟩ := h
 have hl := ho.lt
 obtain ⟨es, clock, hh, q⟩ := ho
 exact ⟨D, ⟨es, clock, (hb.block b hl).trans hh, q⟩, r⟩
theorem SetIs.alloc {w : World} {b n : Nat} {L : List ByteArray} (h : SetIs w b n L) (o : Obj) : SetIs (w.alloc o) b n L := h.below ((Below.refl _ _).alloc (Nat.le_refl _) o)
theorem plainElem_bool_inv {P : Program} {e : TypeId} (he : P.underlying e = some .bool) {v : Value} {z : DataW Unit × List MemPlace} (h : plainElem P e v = some z) : ∃ x, v = .bool x ∧ z = (.lit (.bool x), []) := by
 unfold plainElem at h
 rw [he] at h
 cases v <;> simp at h
 exact ⟨_, rfl, h.symm⟩
theorem SetIs.look {w : World} {b n : Nat} {L : List ByteArray} (h : SetIs w b n L) (s : ByteArray) (hs : s.size ≤ maxLen) :
 (Instr.lookup 184 (.map (some b)) (.string s) false).run Tryz.prog w = .ok (.bool (inL L s)) w := by
 obtain ⟨D, ho, -, -, hat, -⟩ := h
 obtain ⟨v, ps, hrun, hv⟩ := ho.lookup keyS Tryz.underlying184 (zeroB w) (plainElem_bool Tryz.underlying4 false) (keyOf_string_mk Tryz.underlying9 hs)
 obtain ⟨x, rfl, hx⟩ := plainElem_bool_inv Tryz.underlying4 hv
 have e := (congrArg Prod.fst hx).symm.trans (hat s)
 simp only [DataW.lit.injEq, Lit.bool.injEq] at e
 rw [hrun, e]
theorem inL_add (L : List ByteArray) (s y : ByteArray) : inL (L ++ [s]) y = true ↔ inL L y = true ∨ y = s := by
 unfold inL
 rw [decide_eq_true_iff, decide_eq_true_iff, idx_mem, idx_mem, List.mem_append, List.mem_singleton]
theorem SetIs.add {w' : World} {b n : Nat} {L : List ByteArray} {D : DataW Unit} (s : ByteArray) (ho : w'.ownsMap Tryz.prog 9 (plainElem Tryz.prog 4) b (n + 1) (D.put (litOf s) yes))
 (h : Maps.Tidy D ∧ (∀ s, Maps.has D (litOf s) = inL L s) ∧ (∀ s, D.atKey (litOf s) noo = .lit (.bool (inL L s))) ∧ Maps.size D = (uniteFrom [] L).length) : SetIs w' b (n + 1) (L ++ [s]) := by
 obtain ⟨ht, hh, ha, hz⟩ := h
 have hk : WideAt.IsKeyLit (litOf s) := trivial
 have hin : ∀ y, y = s → inL (L ++ [s]) y = true := fun y e => (inL_add L s y).2 (Or.inr e)
 have hout : ∀ y, y ≠ s → inL (L ++ [s]) y = inL L y := fun y e => by
  rw [Bool.eq_iff_iff, inL_add]
  exact ⟨fun h => h.resolve_right e, Or.inl⟩
 refine ⟨_, ho, ht.put hk _, fun y => ?_, fun y => ?_, ?_⟩
 · by_cases e : y = s
   · rw [hin y e, e, Maps.has_put_same ht.isMap hk]
   rw [hout y e, Maps.has_put_other (fun e2 => e (litOf_inj e2)), hh]
 · by_cases e : y = s
   · rw [hin y e, e, Maps.atKey_put_same ht.isMap hk]; rfl
   rw [hout y e, Maps.atKey_put_other (fun e2 => e (litOf_inj e2)), ha]
 rw [Maps.size_put ht, hh, hz, unite_snoc]
 by_cases hm : s ∈ L
 · have h2 : 0 ≤ idx (uniteFrom [] L) s := (idx_mem _ _).2 ((unite_memI L [] s).2 (Or.inr hm))
   rw [inL_yes hm, if_pos h2]; rfl
 have h2 : ¬ 0 ≤ idx (uniteFrom [] L) s := fun e => by
  rcases (unite_memI L [] s).1 ((idx_mem _ _).1 e) with h3 | h3
  · cases h3
  exact hm h3
 rw [inL_no hm, if_neg h2, List.length_append]; rfl
section
variable (w : World) {ops : Array Oper} {rest : List Oper} {o : Oper} {a : Act} {Q : Exit → Act → World → Prop}
theorem look_set (hg : o.guard = none) (m x : Operand) (hop : o.op = Op.lookup 184 m x false) (b n : Nat) (L : List ByteArray) (hm : a.eval m = .map (some b)) (h : SetIs w b n L) (s : ByteArray) (hx : a.eval x = .string s) (hs : s.size ≤ maxLen) (c : Bool) (hc : inL L s = c)
 (hK : wpList Tryz.prog ops Q rest (a.put o.dst (.bool c)) w) : wpList Tryz.prog ops Q (o :: rest) a w := by
 refine wpList_plain hg fun K' hK' => ?_
 have hrun := h.look s hs
 rw [hc] at hrun
 unfold Oper.wp
 simp [execOp, hop, hm, hx, hrun, Result.andThen]
 exact hK' _ _ hK
theorem add_set (hg : o.guard = none) (m x v : Operand) (hop : o.op = Op.mapUpdate 184 m x v) (b n : Nat) (L : List ByteArray) (hm : a.eval m = .map (some b)) (h : SetIs w b n L) (hn : n < maxLen) (s : ByteArray) (hx : a.eval x = .string s) (hv : a.eval v = .bool true) (hs : s.size ≤ maxLen)
 (hK : ∀ w', SetIs w' b (n + 1) (L ++ [s]) → w.grownBy w' (some b) → wpList Tryz.prog ops Q rest (a.put o.dst undef) w') : wpList Tryz.prog ops Q (o :: rest) a w := by
 obtain ⟨D, ho, r⟩ := h
 exact wpList_mapUpdate_own w hg m x v 184 hop 9 4 keyS Tryz.underlying184 (plainElem Tryz.prog 4) b n D hm ho hn _ _ (litOf s) hx hv (keyOf_string_mk Tryz.underlying9 hs) yes [] (plainElem_bool Tryz.underlying4 true)
  (fun w' ho' hg' => hK w' (SetIs.add s ho' r) hg')
theorem len_set (hg : o.guard = none) (m : Operand) (hop : o.op = Op.call { callee := Callee.builtin Builtin.len, args := #[m], argTypes := #[184] }) (b n : Nat) (L : List ByteArray) (hm : a.eval m = .map (some b)) (h : SetIs w b n L)
 (hK : wpList Tryz.prog ops Q rest (a.put o.dst (.int .i64 ((uniteFrom [] L).length : Int))) w) : wpList Tryz.prog ops Q (o :: rest) a w := by
 obtain ⟨D, ho, -, -, -, hz⟩ := h
 rw [← hz] at hK
 exact wpList_len_own w hg m 184 hop 9 4 Tryz.underlying184 (plainElem Tryz.prog 4) b n D hm ho hK
end
open Go Go.RowKit
section
variable {α : Type} {key val : α → Value}
def FirstAt (key : α → Value) (F : List α) (k : Value) (p : α) : Prop := ∃ A B, F = A ++ p :: B ∧ key p = k ∧ ∀ a ∈ A, key a ≠ k
theorem FirstAt.mem {F : List α} {k : Value} {p : α} (h : FirstAt key F k p) : p ∈ F ∧ key p = k := by
 obtain ⟨A, B, rfl, h1, -⟩ := h
 exact ⟨by simp, h1⟩
theorem firstAt_cons {F : List α} {x p : α} {k : Value} : FirstAt key (x :: F) k p ↔ (key x = k ∧ p = x) ∨ (key x ≠ k ∧ FirstAt key F k p) := by
 constructor
 · rintro ⟨A, B, h, h1, h2⟩
   cases A with
   | nil =>
    simp only [List.nil_append, List.cons.injEq] at h
    obtain ⟨rfl, rfl⟩ := h
    exact Or.inl ⟨h1, rfl⟩
   | cons a A =>
    simp only [List.cons_append, List.cons.injEq] at h
    obtain ⟨rfl, rfl⟩ := h
    exact Or.inr ⟨h2 _ (by simp), A, B, rfl, h1, fun b hb => h2 b (by simp [hb])⟩
 rintro (⟨h1, rfl⟩ | ⟨h1, A, B, rfl, h2, h3⟩)
 · exact ⟨[], F, rfl, h1, fun a ha => by cases ha⟩
 refine ⟨x :: A, B, rfl, h2, fun a ha => ?_⟩
 rcases List.mem_cons.1 ha with rfl | ha
 · exact h1
 exact h3 a ha
theorem firstAt_some : ∀ {F : List α} {k : Value}, (∃ p ∈ F, key p = k) → ∃ p, FirstAt key F k p := by
 intro F
 induction F with
 | nil => rintro k ⟨p, hp, -⟩; cases hp
 | cons x F ih =>
  rintro k ⟨p, hp, hk⟩
  by_cases hx : key x = k
  · exact ⟨x, firstAt_cons.2 (Or.inl ⟨hx, rfl⟩)⟩
  rcases List.mem_cons.1 hp with rfl | hp
  · exact absurd hk hx
  obtain ⟨q, hq⟩ := ih ⟨p, hp, hk⟩
  exact ⟨q, firstAt_cons.2 (Or.inr ⟨hx, hq⟩)⟩
theorem firstAt_snoc {F : List α} {x p : α} {k : Value} : FirstAt key (F ++ [x]) k p ↔ FirstAt key F k p ∨ ((∀ a ∈ F, key a ≠ k) ∧ key x = k ∧ p = x) := by
 induction F with
 | nil =>
  rw [List.nil_append, firstAt_cons]
  constructor
  · rintro (⟨h1, rfl⟩ | ⟨-, A, B, h, -⟩)
    · exact Or.inr ⟨(fun a ha => by cases ha), h1, rfl⟩
    simp at h
  rintro (⟨A, B, h, -⟩ | ⟨-, h1, rfl⟩)
  · simp at h
  exact Or.inl ⟨h1, rfl⟩
 | cons y F ih =>
  rw [List.cons_append, firstAt_cons, firstAt_cons, ih]
  constructor
  · rintro (h | ⟨h1, h | ⟨h2, h3⟩⟩)
    · exact Or.inl (Or.inl h)
    · exact Or.inl (Or.inr ⟨h1, h⟩)
    refine Or.inr ⟨fun a ha => ?_, h3⟩
    rcases List.mem_cons.1 ha with rfl | ha
    · exact h1
    exact h2 a ha
  rintro ((h | ⟨h1, h⟩) | ⟨h1, h2⟩)
  · exact Or.inl h
  · exact Or.inr ⟨h1, Or.inl h⟩
  exact Or.inr ⟨h1 y (by simp), Or.inr ⟨fun a ha => h1 a (by simp [ha]), h2⟩⟩
structure Firsts (key val : α → Value) (F : List α) (M : List (Value × Value)) : Prop where
 mem : ∀ k v, (k, v) ∈ M ↔ ∃ p, FirstAt key F k p ∧ val p = v
 len : M.length ≤ F.length ∧ (M.length = F.length ↔ (F.map key).Nodup)
theorem firsts_nil : Firsts key val [] [] := ⟨fun k v => ⟨(fun h => by cases h), fun ⟨p, ⟨A, B, h, _⟩, _⟩ => by simp at h⟩, by simp⟩
theorem Firsts.keys {F : List α} {M : List (Value × Value)} (h : Firsts key val F M) (k : Value) : (∃ x ∈ M, x.1 = k) ↔ ∃ p ∈ F, key p = k := by
 constructor
 · rintro ⟨⟨k', v⟩, hx, rfl⟩
   obtain ⟨p, hp, -⟩ := (h.mem _ _).1 hx
   exact ⟨p, hp.mem⟩
 intro hp
 obtain ⟨p, hp⟩ := firstAt_some hp
 exact ⟨(k, val p), (h.mem _ _).2 ⟨p, hp, rfl⟩, rfl⟩
theorem put_mem {L L2 : List (Value × Value)} {k0 v0 : Value} (hn : (L.map Prod.fst).Nodup) (h : Put L k0 v0 L2) (k v : Value) : (k, v) ∈ L2 ↔ (k = k0 ∧ v = v0) ∨ (k ≠ k0 ∧ (k, v) ∈ L) := by
 rcases h with ⟨h1, rfl⟩ | ⟨A, u, B, rfl, rfl⟩
 · rw [List.mem_append, List.mem_singleton, Prod.mk.injEq]
   constructor
   · rintro (h | h)
     · exact Or.inr ⟨h1 _ h, h⟩
     exact Or.inl h
   rintro (h | ⟨-, h⟩)
   · exact Or.inr h
   exact Or.inl h
 rw [List.map_append, List.map_cons, List.nodup_append] at hn
 obtain ⟨-, h2, h3⟩ := hn
 rw [List.nodup_cons] at h2
 have hA : ∀ x ∈ A, x.1 ≠ k0 := fun x hx => h3 x.1 (List.mem_map_of_mem hx) k0 (by simp)
 have hB : ∀ x ∈ B, x.1 ≠ k0 := fun x hx e => h2.1 (show k0 ∈ B.map Prod.fst by rw [← e]; exact List.mem_map_of_mem hx)
 simp only [List.mem_append, List.mem_cons, Prod.mk.injEq]
 constructor
 · rintro (h | h | h)
   · exact Or.inr ⟨hA _ h, Or.inl h⟩
   · exact Or.inl h
   exact Or.inr ⟨hB _ h, Or.inr (Or.inr h)⟩
 rintro (h | ⟨h, h4 | h4 | h4⟩)
 · exact Or.inr (Or.inl h)
 · exact Or.inl h4
 · exact absurd h4.1 h
 exact Or.inr (Or.inr h4)
theorem Firsts.cons {F : List α} {M M2 : List (Value × Value)} {x : α} (h : Firsts key val F M) (hn : (M.map Prod.fst).Nodup) (hp : Put M (key x) (val x) M2) : Firsts key val (x :: F) M2 := by
 refine ⟨fun k v => ?_, ?_⟩
 · rw [put_mem hn hp, h.mem]
   constructor
   · rintro (⟨rfl, rfl⟩ | ⟨h1, p, h2, h3⟩)
     · exact ⟨x, firstAt_cons.2 (Or.inl ⟨rfl, rfl⟩), rfl⟩
     exact ⟨p, firstAt_cons.2 (Or.inr ⟨fun e => h1 e.symm, h2⟩), h3⟩
   rintro ⟨p, h1, h2⟩
   rcases firstAt_cons.1 h1 with ⟨h3, rfl⟩ | ⟨h3, h4⟩
   · exact Or.inl ⟨h3.symm, h2.symm⟩
   exact Or.inr ⟨fun e => h3 e.symm, p, h4, h2⟩
 have hk := h.keys (key x)
 have hl := h.len
 rw [List.map_cons, List.nodup_cons, List.length_cons]
 rcases hp with ⟨h1, rfl⟩ | ⟨A, u, B, rfl, rfl⟩
 · have hne : key x ∉ F.map key := fun hm => by
    obtain ⟨p, hp1, hp2⟩ := List.mem_map.1 hm
    obtain ⟨y, hy, e⟩ := hk.2 ⟨p, hp1, hp2⟩
    exact h1 y hy e
   refine ⟨by simp; omega, ?_⟩
   rw [List.length_append]
   simp only [List.length_cons, List.length_nil, hne, not_false_eq_true, true_and]
   rw [← hl.2]
   omega
 obtain ⟨p, hp1, hp2⟩ := hk.1 ⟨(key x, u), by simp, rfl⟩
 have hin : key x ∈ F.map key := List.mem_map.2 ⟨p, hp1, hp2⟩
 have hl1 := hl.1
 simp only [List.length_append, List.length_cons] at hl1 ⊢
 refine ⟨by omega, ?_⟩
 constructor
 · intro e; omega
 intro e; exact absurd hin e.1
theorem Firsts.snoc {F : List α} {M M2 : List (Value × Value)} {x : α} (h : Firsts key val F M) (hn : (M.map Prod.fst).Nodup) (hp : Put M (key x) (val x) M2) (ho : ∀ y ∈ M, y.1 ≠ key x) : Firsts key val (F ++ [x]) M2 := by
 have hk : ∀ p ∈ F, key p ≠ key x := fun p hp1 e => by
  obtain ⟨y, hy, e2⟩ := (h.keys (key x)).2 ⟨p, hp1, e⟩
  exact ho y hy e2
 refine ⟨fun k v => ?_, ?_⟩
 · rw [put_mem hn hp, h.mem]
   constructor
   · rintro (⟨rfl, rfl⟩ | ⟨h1, p, h2, h3⟩)
     · exact ⟨x, firstAt_snoc.2 (Or.inr ⟨hk, rfl, rfl⟩), rfl⟩
     exact ⟨p, firstAt_snoc.2 (Or.inl h2), h3⟩
   rintro ⟨p, h1, h2⟩
   rcases firstAt_snoc.1 h1 with h3 | ⟨h3, h4, rfl⟩
   · refine Or.inr ⟨fun e => hk p h3.mem.1 (h3.mem.2.trans e), p, h3, h2⟩
   exact Or.inl ⟨h4.symm, h2.symm⟩
 have hl := h.len
 have hne : key x ∉ F.map key := fun hm => by
  obtain ⟨p, hp1, hp2⟩ := List.mem_map.1 hm
  exact hk p hp1 hp2
 rcases hp with ⟨h1, rfl⟩ | ⟨A, u, B, rfl, -⟩
 · refine ⟨by simp; omega, ?_⟩
   rw [List.length_append, List.length_append, List.map_append, List.nodup_append]
   constructor
   · intro e
     refine ⟨hl.2.1 (by simpa using e), by simp, fun a ha b hb e2 => ?_⟩
     simp only [List.map_cons, List.map_nil, List.mem_singleton] at hb
     rw [e2, hb] at ha
     exact hne ha
   intro e
   have := hl.2.2 e.1
   simp; omega
 exact absurd rfl (ho (key x, u) (by simp))
theorem Firsts.more {F : List α} {M : List (Value × Value)} {x : α} (h : Firsts key val F M) (ho : ∃ y ∈ M, y.1 = key x) : ∀ k v, (k, v) ∈ M ↔ ∃ p, FirstAt key (F ++ [x]) k p ∧ val p = v := by
 obtain ⟨q, hq1, hq2⟩ := (h.keys (key x)).1 ho
 intro k v
 rw [h.mem]
 constructor
 · rintro ⟨p, h1, h2⟩; exact ⟨p, firstAt_snoc.2 (Or.inl h1), h2⟩
 rintro ⟨p, h1, h2⟩
 rcases firstAt_snoc.1 h1 with h3 | ⟨h3, h4, rfl⟩
 · exact ⟨p, h3, h2⟩
 exact absurd (hq2.trans h4) (h3 q hq1)
theorem Firsts.hits {F : List α} {M : List (Value × Value)} (h : Firsts key val F M) {k z v : Value} {b : Bool} (hh : Hits M k z v b) : (∃ p, FirstAt key F k p ∧ v = val p ∧ b = true) ∨ ((∀ p ∈ F, key p ≠ k) ∧ v = z ∧ b = false) := by
 rcases hh with ⟨h1, rfl⟩ | ⟨h1, rfl, rfl⟩
 · obtain ⟨p, h2, h3⟩ := (h.mem _ _).1 h1
   exact Or.inl ⟨p, h2, h3.symm, rfl⟩
 refine Or.inr ⟨fun p hp e => ?_, rfl, rfl⟩
 obtain ⟨y, hy, e2⟩ := (h.keys k).2 ⟨p, hp, e⟩
 exact h1 y hy e2
end
def StrK (v : Value) : Prop := ∃ s, v = .string s
theorem strT (w : World) : KeyT Tryz.prog 9 w StrK := by
 have hk := Tryz.underlying9
 have isK : ∀ {v : Value}, StrK v → MapKept.IsKey .string v := fun {v} ⟨s, h⟩ => by subst h; trivial
 refine ⟨fun em v h => MapKept.run_checkKey hk (isK h) em 9999, fun x es hx hes => ?_, fun v h => MapKept.run_keyThatStays (isK h)⟩
 rcases MapKept.findNow_spec (isK hx) es 0 (fun y hy => isK (hes y hy)) with ⟨h1, h2⟩ | ⟨j, e0, h1, h2, h3⟩
 · exact Or.inl ⟨MapKept.run_findKey hk h1, h2⟩
 exact Or.inr ⟨j, e0, by simpa using MapKept.run_findKey hk h1, h2, h3⟩
def TwoK (v : Value) : Prop := ∃ s t, v = .agg #[.string s, .string t]
theorem eq_str {w : World} (a b : ByteArray) (d : Nat) : (Op.equalIn (d + 1) 9 (.string a) (.string b)).run Tryz.prog w = .ok (a == b) w := by
 simp [Op.equalIn, run_underlying Tryz.underlying9]
theorem eq_two (w : World) (a b c d : ByteArray) : (Op.equal 166 (.agg #[.string a, .string b]) (.agg #[.string c, .string d])).run Tryz.prog w = .ok (decide (a = c) && decide (b = d)) w := by
 have e1 : (Op.equalIn 9999 9 (.string a) (.string c)).run Tryz.prog w = .ok (a == c) w := eq_str a c 9998
 have e2 : (Op.equalIn 9999 9 (.string b) (.string d)).run Tryz.prog w = .ok (b == d) w := eq_str b d 9998
 have u := run_underlying (w := w) Tryz.underlying166
 have st : Tryz.prog.stoodInHeld 166 = false := by kernel_rfl
 have p0 : ∀ x y : Value, (part 9 #[x, y] 0).run Tryz.prog w = .ok x w := fun x y => by kernel_rfl
 have p1 : ∀ x y : Value, (part 9 #[x, y] 1).run Tryz.prog w = .ok y w := fun x y => by kernel_rfl
 rw [Op.equal, show Op.maxDepth = 9999 + 1 from rfl, Op.equalIn]
 have q : ∀ x y : ByteArray, (x == y) = decide (x = y) := fun x y => by rw [Bool.eq_iff_iff, MapKept.bytes_beq, decide_eq_true_iff]
 rw [q] at e1 e2
 by_cases h1 : a = c
 · rw [decide_eq_true h1] at e1 ⊢
   by_cases h2 : b = d
   · rw [decide_eq_true h2] at e2 ⊢
     simp [u, st, p0, p1, e1, e2]
   rw [decide_eq_false h2] at e2 ⊢
   simp [u, st, p0, p1, e1, e2]
 rw [decide_eq_false h1] at e1 ⊢
 simp [u, st, p0, e1]
theorem twoT (w : World) : KeyT Tryz.prog 166 w TwoK := by
 refine ⟨fun em v ⟨a, b, hv⟩ => ?_, fun x es hx hes => ?_, fun v ⟨a, b, hv⟩ => ?_⟩
 · subst hv
   have u := run_underlying (w := w) Tryz.underlying166
   have us := run_underlying (w := w) Tryz.underlying9
   have p0 : ∀ x y : Value, (part 9 #[x, y] 0).run Tryz.prog w = .ok x w := fun x y => by kernel_rfl
   have p1 : ∀ x y : Value, (part 9 #[x, y] 1).run Tryz.prog w = .ok y w := fun x y => by kernel_rfl
   have c : ∀ s, (Instr.checkKey em 9999 9 (.string s)).run Tryz.prog w = .ok () w := fun s => by rw [show 9999 = 9998 + 1 from rfl, Instr.checkKey]; simp [us]
   rw [show 10000 = 9999 + 1 from rfl, Instr.checkKey]
   simp [u, p0, p1, c]
 · have h := find_asking (P := Tryz.prog) (k := 166) (w := w) (K := TwoK) (fun x y ⟨a, b, hx⟩ ⟨c, d, hy⟩ => ⟨decide (a = c) && decide (b = d), by rw [hx, hy]; exact eq_two w a b c d, by rw [hx, hy]; simp⟩) hx es 0 hes
   have e := Go.run_findKey_eq (P := Tryz.prog) w (k := 166) (by kernel_rfl) x es
   rw [e]
   simpa using h
 subst hv
 simp [Instr.keyThatStays, Instr.sameBits, MapKept.bytes_beq]
def PlaceK (w : World) (v : Value) : Prop := ∃ (a : Addr) (n : Int), v = .agg #[.pointer (some a), .int .i64 n] ∧ FreeB w a.block
theorem eq_int {w : World} (a b : Int) (d : Nat) : (Op.equalIn (d + 1) 3 (.int .i64 a) (.int .i64 b)).run Tryz.prog w = .ok (decide (a = b)) w := by
 by_cases h : a = b <;> simp [Op.equalIn, run_underlying Tryz.underlying3, h]
theorem eq_place (w : World) {a c : Addr} {m n : Int} (ha : FreeB w a.block) (hc : FreeB w c.block) :
 (Op.equal 211 (.agg #[.pointer (some a), .int .i64 m]) (.agg #[.pointer (some c), .int .i64 n])).run Tryz.prog w = .ok (decide (a = c) && decide (m = n)) w := by
 obtain ⟨j, hj, -, hz, -⟩ := info_parts Tryz.infoEx
 have hz : j.size ≠ 0 := by omega
 have e1 : (Op.equalIn 9999 209 (.pointer (some a)) (.pointer (some c))).run Tryz.prog w = .ok (decide (a = c)) w := eq_ptr (P := Tryz.prog) (w := w) (tp := 209) Tryz.underlying209 hj hz ha hc 9998
 have e2 : (Op.equalIn 9999 3 (.int .i64 m) (.int .i64 n)).run Tryz.prog w = .ok (decide (m = n)) w := eq_int m n 9998
 have u := run_underlying (w := w) Tryz.underlying211
 have st : Tryz.prog.stoodInHeld 211 = false := by kernel_rfl
 have p0 : ∀ x y : Value, (part 209 #[x, y] 0).run Tryz.prog w = .ok x w := fun x y => by kernel_rfl
 have p1 : ∀ x y : Value, (part 3 #[x, y] 1).run Tryz.prog w = .ok y w := fun x y => by kernel_rfl
 rw [Op.equal, show Op.maxDepth = 9999 + 1 from rfl, Op.equalIn]
 by_cases h1 : a = c
 · rw [decide_eq_true h1] at e1 ⊢
   by_cases h2 : m = n
   · rw [decide_eq_true h2] at e2 ⊢
     simp [u, st, p0, p1, e1, e2]
   rw [decide_eq_false h2] at e2 ⊢
   simp [u, st, p0, p1, e1, e2]
 rw [decide_eq_false h1] at e1 ⊢
 simp [u, st, p0, e1]
theorem placeT (w : World) : KeyT Tryz.prog 211 w (PlaceK w) := by
 refine ⟨fun em v ⟨a, n, hv, _⟩ => ?_, fun x es hx hes => ?_, fun v ⟨a, n, hv, _⟩ => ?_⟩
 · subst hv
   have u := run_underlying (w := w) Tryz.underlying211
   have up := run_underlying (w := w) Tryz.underlying209
   have ui := run_underlying (w := w) Tryz.underlying3
   have p0 : ∀ x y : Value, (part 209 #[x, y] 0).run Tryz.prog w = .ok x w := fun x y => by kernel_rfl
   have p1 : ∀ x y : Value, (part 3 #[x, y] 1).run Tryz.prog w = .ok y w := fun x y => by kernel_rfl
   have c1 : (Instr.checkKey em 9999 209 (.pointer (some a))).run Tryz.prog w = .ok () w := by rw [show 9999 = 9998 + 1 from rfl, Instr.checkKey]; simp [up]
   have c2 : (Instr.checkKey em 9999 3 (.int .i64 n)).run Tryz.prog w = .ok () w := by rw [show 9999 = 9998 + 1 from rfl, Instr.checkKey]; simp [ui]
   rw [show 10000 = 9999 + 1 from rfl, Instr.checkKey]
   simp [u, p0, p1, c1, c2]
 · have h := find_asking (P := Tryz.prog) (k := 211) (w := w) (K := PlaceK w) (fun x y ⟨a, m, hx, h1⟩ ⟨c, n, hy, h2⟩ => ⟨decide (a = c) && decide (m = n), by rw [hx, hy]; exact eq_place w h1 h2, by rw [hx, hy]; simp⟩) hx es 0 hes
   have e := Go.run_findKey_eq (P := Tryz.prog) w (k := 211) (by kernel_rfl) x es
   rw [e]
   simpa using h
 subst hv
 simp [Instr.keyThatStays, Instr.sameBits]
end Go.Proofs.YthljhiklpopmgaaGreatDoor
