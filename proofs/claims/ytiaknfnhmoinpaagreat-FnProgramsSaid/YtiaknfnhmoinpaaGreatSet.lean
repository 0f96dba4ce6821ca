/- A part of the proof of the seat's statement: Set. Condition: as each says. -/
import Derived.Test.YtiaknfnhmoinpaaGreatNames
import Derived.Test.YtiaknfnhmoinpaaGreatRows
import Derived.WalkKit
import Derived.Lib.Hide
import Derived.Maps.OwnSet
set_option maxHeartbeats 8000000
namespace Go.Proofs.YtiaknfnhmoinpaaGreat
open Go Go.RowKit Go.ChangeMaps Go.WideMaps
def litOf (s : ByteArray) : Lit := .string s.data.toList
def yes : DataW Unit := .lit (.bool true)
def noo : DataW Unit := .lit (.bool false)
def inL (L : List ByteArray) (s : ByteArray) : Bool := decide (0 ≤ idx L s)
theorem inL_yes {L : List ByteArray} {s : ByteArray} (h : s ∈ L) : inL L s = true := decide_eq_true ((idx_mem L s).2 h)
theorem inL_no {L : List ByteArray} {s : ByteArray} (h : s ∉ L) : inL L s = false := decide_eq_false fun e => h ((idx_mem L s).1 e)
def SetIs (w : World) (b n : Nat) (L : List ByteArray) : Prop :=
 ∃ D : DataW Unit, w.ownsMap Tryz.prog 9 (plainElem Tryz.prog 4) b n D ∧ Maps.Tidy D ∧ (∀ s, Maps.has D (litOf s) = inL L s) ∧ (∀ s, D.atKey (litOf s) noo = .lit (.bool (inL L s))) ∧ Maps.size D = (uniteFrom [] L).length
theorem litOf_inj {a b : ByteArray} (h : litOf a = litOf b) : a = b := by
 have e : a.data.toList = b.data.toList := by simpa [litOf] using h
 have e1 : a.data = b.data := Array.toList_inj.1 e
 cases a; cases b
 simp only at e1
 rw [e1]
theorem unite_memI : ∀ (xs out : List ByteArray) (y : ByteArray), y ∈ uniteFrom out xs ↔ y ∈ out ∨ y ∈ xs := by
 intro xs
 induction xs with
 | nil => intro out y; simp [uniteFrom]
 | cons x r ih =>
  intro out y
  rw [uniteFrom]
  split
  · rename_i hx
    rw [ih out y, List.mem_cons]
    have := (idx_mem out x).1 hx
    constructor
    · rintro (h | h)
      · exact Or.inl h
      exact Or.inr (Or.inr h)
    rintro (h | rfl | h)
    · exact Or.inl h
    · exact Or.inl this
    exact Or.inr h
  rw [ih _ y, List.mem_append, List.mem_singleton, List.mem_cons]
  constructor
  · rintro ((h | h) | h)
    · exact Or.inl h
    · exact Or.inr (Or.inl h)
    exact Or.inr (Or.inr h)
  rintro (h | h | h)
  · exact Or.inl (Or.inl h)
  · exact Or.inl (Or.inr h)
  exact Or.inr h
theorem unite_snoc (x : ByteArray) : ∀ (xs out : List ByteArray), uniteFrom out (xs ++ [x]) = if 0 ≤ idx (uniteFrom out xs) x then uniteFrom out xs else uniteFrom out xs ++ [x] := by
 intro xs
 induction xs with
 | nil =>
  intro out
  have e : ∀ o : List ByteArray, uniteFrom o [] = o := fun o => by rw [uniteFrom]
  rw [e, List.nil_append, uniteFrom, e, e]
 | cons y r ih =>
  intro out
  rw [List.cons_append]
  by_cases h : 0 ≤ idx out y
  · rw [uniteFrom, if_pos h, show uniteFrom out (y :: r) = uniteFrom out r by rw [uniteFrom, if_pos h]]; exact ih out
  rw [uniteFrom, if_neg h, show uniteFrom out (y :: r) = uniteFrom (out ++ [y]) r by rw [uniteFrom, if_neg h]]; exact ih _
theorem unite_full : ∀ (xs out : List ByteArray), (uniteFrom out xs).length = out.length + xs.length ↔ xs.Nodup ∧ ∀ x ∈ xs, x ∉ out := by
 intro xs
 induction xs with
 | nil => intro out; simp [uniteFrom]
 | cons x r ih =>
  intro out
  rw [uniteFrom]
  split
  · rename_i hx
    have hm := (idx_mem out x).1 hx
    have := unite_len r out
    constructor
    · intro h; simp only [lC] at h; omega
    rintro ⟨-, h⟩; exact absurd hm (h x (by simp))
  rename_i hx
  have hm : x ∉ out := fun e => hx ((idx_mem out x).2 e)
  have := ih (out ++ [x])
  simp only [lA, lC, List.length_nil] at this ⊢
  rw [show out.length + (r.length + 1) = out.length + (0 + 1) + r.length by omega, this, List.nodup_cons]
  constructor
  · rintro ⟨h1, h2⟩
    refine ⟨⟨fun e => h2 x e (by simp), h1⟩, fun y hy => ?_⟩
    rcases List.mem_cons.1 hy with rfl | hy
    · exact hm
    exact fun e => h2 y hy (by simp [e])
  rintro ⟨⟨h1, h2⟩, h3⟩
  refine ⟨h2, fun y hy e => ?_⟩
  rcases List.mem_append.1 e with e | e
  · exact h3 y (by simp [hy]) e
  rw [List.mem_singleton] at e; subst e; exact h1 hy
theorem set_size_distinct (xs : List ByteArray) : (((uniteFrom [] xs).length : Int) == (xs.length : Int)) = distinct xs := by
 have h := unite_full xs []
 simp only [List.length_nil, Nat.zero_add, List.not_mem_nil, not_false_eq_true, implies_true, and_true] at h
 unfold distinct
 by_cases hd : xs.Nodup
 · rw [decide_eq_true hd]; simp [h.2 hd]
 rw [decide_eq_false hd, beq_eq_false_iff_ne]
 intro e
 exact hd (h.1 (by omega))
theorem keyS : Maps.Keyed Tryz.prog 9 := Maps.string_keyed Tryz.underlying9
theorem zeroB (w : World) : (zeroValue 4).run Tryz.prog w = .ok (.bool false) w := by kernel_rfl
theorem run_makeHint (n : Int) (w : World) : (Instr.makeMap 141 (some (.int .i64 n))).run Tryz.prog w = .ok (.map (some w.heap.size)) (w.alloc (.map #[] 0)) := by
 simp [Instr.makeMap, run_underlying Tryz.underlying141, asInt, asIntOf, Result.andThen]
theorem set_made (w : World) : SetIs (w.alloc (.map #[] 0)) w.heap.size 0 [] :=
 ⟨.map [], World.ownsMap_made _ _ _ _, Maps.tidy_empty, fun _ => rfl, fun _ => rfl, rfl⟩
theorem SetIs.kept {w w' : World} {b n : Nat} {L : List ByteArray} {row : Option Nat} (h : SetIs w b n L) (hg : w.grownBy w' row) (hne : some b ≠ row) : SetIs w' b n L := by
 obtain ⟨D, ho, r⟩ := h
 exact ⟨D, ho.kept hg hne, r⟩
theorem SetIs.below {w w' : World} {b n : Nat} {L : List ByteArray} (h : SetIs w b n L) (hb : Below w.heap.size w w') : SetIs w' b n L := by
 obtain ⟨D, ho, r⟩ := h
 have hl := ho.lt
 obtain ⟨es, clock, hh, q⟩ := ho
 exact ⟨D, ⟨es, clock, (hb.block b hl).trans hh, q⟩, r⟩
theorem SetIs.alloc {w : World} {b n : Nat} {L : List ByteArray} (h : SetIs w b n L) (o : Obj) : SetIs (w.alloc o) b n L := h.below ((wB _ _).alloc (nR _) o)
theorem plainElem_bool_inv {P : Program} {e : TypeId} (he : P.underlying e = some .bool) {v : Value} {z : DataW Unit × List MemPlace} (h : plainElem P e v = some z) : ∃ x, v = .bool x ∧ z = (.lit (.bool x), []) := by
 unfold plainElem at h
 rw [he] at h
 cases v <;> simp at h
 exact ⟨_, rfl, h.symm⟩
theorem SetIs.look {w : World} {b n : Nat} {L : List ByteArray} (h : SetIs w b n L) (s : ByteArray) (hs : s.size ≤ maxLen) :
 (Instr.lookup 141 (.map (some b)) (.string s) false).run Tryz.prog w = .ok (.bool (inL L s)) w := by
 obtain ⟨D, ho, -, -, hat, -⟩ := h
 obtain ⟨v, ps, hrun, hv⟩ := ho.lookup keyS Tryz.underlying141 (zeroB w) (plainElem_bool Tryz.underlying4 false) (keyOf_string_mk Tryz.underlying9 hs)
 obtain ⟨x, rfl, hx⟩ := plainElem_bool_inv Tryz.underlying4 hv
 have e := (congrArg Prod.fst hx).symm.trans (hat s)
 simp only [DataW.lit.injEq, Lit.bool.injEq] at e
 rw [hrun, e]
theorem inL_add (L : List ByteArray) (s y : ByteArray) : inL (L ++ [s]) y = true ↔ inL L y = true ∨ y = s := by
 unfold inL
 rw [decide_eq_true_iff, decide_eq_true_iff, idx_mem, idx_mem, List.mem_append, List.mem_singleton]
theorem SetIs.add {w' : World} {b n : Nat} {L : List ByteArray} {D : DataW Unit} (s : ByteArray) (ho : w'.ownsMap Tryz.prog 9 (plainElem Tryz.prog 4) b (n + 1) (D.put (litOf s) yes))
 (h : Maps.Tidy D ∧ (∀ s, Maps.has D (litOf s) = inL L s) ∧ (∀ s, D.atKey (litOf s) noo = .lit (.bool (inL L s))) ∧ Maps.size D = (uniteFrom [] L).length) : SetIs w' b (n + 1) (L ++ [s]) := by
 obtain ⟨ht, hh, ha, hz⟩ := h
 have hk : WideAt.IsKeyLit (litOf s) := trivial
 have hin : ∀ y, y = s → inL (L ++ [s]) y = true := fun y e => (inL_add L s y).2 (Or.inr e)
 have hout : ∀ y, y ≠ s → inL (L ++ [s]) y = inL L y := fun y e => by
  rw [Bool.eq_iff_iff, inL_add]
  exact ⟨fun h => h.resolve_right e, Or.inl⟩
 refine ⟨_, ho, ht.put hk _, fun y => ?_, fun y => ?_, ?_⟩
 · by_cases e : y = s
   · rw [hin y e, e, Maps.has_put_same ht.isMap hk]
   rw [hout y e, Maps.has_put_other (fun e2 => e (litOf_inj e2)), hh]
 · by_cases e : y = s
   · rw [hin y e, e, Maps.atKey_put_same ht.isMap hk]; rfl
   rw [hout y e, Maps.atKey_put_other (fun e2 => e (litOf_inj e2)), ha]
 rw [Maps.size_put ht, hh, hz, unite_snoc]
 by_cases hm : s ∈ L
 · have h2 : 0 ≤ idx (uniteFrom [] L) s := (idx_mem _ _).2 ((unite_memI L [] s).2 (Or.inr hm))
   rw [inL_yes hm, if_pos h2]; rfl
 have h2 : ¬ 0 ≤ idx (uniteFrom [] L) s := fun e => by
  rcases (unite_memI L [] s).1 ((idx_mem _ _).1 e) with h3 | h3
  · cases h3
  exact hm h3
 rw [inL_no hm, if_neg h2, lA]; rfl
section
variable (w : World) {ops : Array Oper} {rest : List Oper} {o : Oper} {a : Act} {Q : Exit → Act → World → Prop}
theorem look_set (hg : o.guard = none) (m x : Operand) (hop : o.op = Op.lookup 141 m x false) (b n : Nat) (L : List ByteArray) (hm : a.eval m = .map (some b)) (h : SetIs w b n L) (s : ByteArray) (hx : a.eval x = .string s) (hs : s.size ≤ maxLen) (c : Bool) (hc : inL L s = c)
 (hK : wpList Tryz.prog ops Q rest (a.put o.dst (.bool c)) w) : wpList Tryz.prog ops Q (o :: rest) a w := by
 refine wpList_plain hg fun K' hK' => ?_
 have hrun := h.look s hs
 rw [hc] at hrun
 unfold Oper.wp
 simp [execOp, hop, hm, hx, hrun, Result.andThen]
 exact hK' _ _ hK
theorem add_set (hg : o.guard = none) (m x v : Operand) (hop : o.op = Op.mapUpdate 141 m x v) (b n : Nat) (L : List ByteArray) (hm : a.eval m = .map (some b)) (h : SetIs w b n L) (hn : n < maxLen) (s : ByteArray) (hx : a.eval x = .string s) (hv : a.eval v = .bool true) (hs : s.size ≤ maxLen)
 (hK : ∀ w', SetIs w' b (n + 1) (L ++ [s]) → w.grownBy w' (some b) → wpList Tryz.prog ops Q rest (a.put o.dst undef) w') : wpList Tryz.prog ops Q (o :: rest) a w := by
 obtain ⟨D, ho, r⟩ := h
 exact wpList_mapUpdate_own w hg m x v 141 hop 9 4 keyS Tryz.underlying141 (plainElem Tryz.prog 4) b n D hm ho hn _ _ (litOf s) hx hv (keyOf_string_mk Tryz.underlying9 hs) yes [] (plainElem_bool Tryz.underlying4 true)
  (fun w' ho' hg' => hK w' (SetIs.add s ho' r) hg')
theorem len_set (hg : o.guard = none) (m : Operand) (hop : o.op = Op.call { callee := Callee.builtin Builtin.len, args := #[m], argTypes := #[141] }) (b n : Nat) (L : List ByteArray) (hm : a.eval m = .map (some b)) (h : SetIs w b n L)
 (hK : wpList Tryz.prog ops Q rest (a.put o.dst (.int .i64 ((uniteFrom [] L).length : Int))) w) : wpList Tryz.prog ops Q (o :: rest) a w := by
 obtain ⟨D, ho, -, -, -, hz⟩ := h
 rw [← hz] at hK
 exact wpList_len_own w hg m 141 hop 9 4 Tryz.underlying141 (plainElem Tryz.prog 4) b n D hm ho hK
end
end Go.Proofs.YtiaknfnhmoinpaaGreat
