/- The contract of the library's slices.Backward over a slice of rules, for every round that keeps what lay below. No condition. Maps that hold the first one of a list at each key; keys that are strings, or structs of two strings. No condition. The contracts of the program's own ruleNumbers and firstRules: maps that hold the number of the first rule at each name and constructor, and the first rule at each name. Condition: fewer than 2^40 rules. The contracts of the program's own FindRule, kind, arity, FunctionKind and FunctionArity. Condition: fewer than 2^40 rules. -/
import Derived.Test.YtmndlhbgacgnlaaGreatFrame
import Derived.Test.YtmndlhbgacgnlaaGreatRu
import Derived.Shelf.Abstract
import Derived.WalkKit
import Derived.OwnWalkIn
import Derived.TacticsInMore
import Derived.LoopNIn
import Derived.LoopIn
import Derived.Shelf.RegionOpen
import Derived.Test.YtmndlhbgacgnlaaGreatEqKit
import Derived.Test.YtmndlhbgacgnlaaGreatOwnSize
import Derived.Test.YtmndlhbgacgnlaaGreatRuFind
import Derived.Test.YtmndlhbgacgnlaaGreatRuLight
namespace Go.Proofs.YtmndlhbgacgnlaaGreat
open Go Go.RowKit Go.Shelf
attribute [local go_sem] Oper.semAt_some

/-- What a range over a slice of rules hands out: the index, the rule, three of its values, its blocks. -/
abbrev Rt (wo : World) : Type := { x : Nat × Ru × Value × Value × Value × List Nat // RuIs wo (.agg #[.string x.2.1.name, .string x.2.1.con, x.2.2.1, x.2.2.2.1, .int .i64 x.2.1.body.kind, .string x.2.1.body.name, x.2.2.2.2.1]) x.2.1 x.2.2.2.2.2 }
def Rt.num {wo : World} (x : Rt wo) : Nat := x.1.1
def Rt.ru {wo : World} (x : Rt wo) : Ru := x.1.2.1
def Rt.val {wo : World} (x : Rt wo) : Value := .agg #[.string x.1.2.1.name, .string x.1.2.1.con, x.1.2.2.1, x.1.2.2.2.1, .int .i64 x.1.2.1.body.kind, .string x.1.2.1.body.name, x.1.2.2.2.2.1]
/-- The rules with their numbers, from k on. -/
def numd : Nat → List Ru → List (Nat × Ru)
  | _, [] => []
  | k, r :: l => (k, r) :: numd (k + 1) l
theorem numd_get : ∀ (l : List Ru) (k j : Nat) (r : Ru), l[j]? = some r → (numd k l)[j]? = some (k + j, r) := by
  intro l
  induction l with
  | nil => intro k j r h; simp at h
  | cons x t ih =>
    intro k j r h
    cases j with
    | zero => simp at h; rw [h]; rfl
    | succ j => rw [numd, List.getElem?_cons_succ, ih (k + 1) j r (by simpa using h)]; congr 2; omega
theorem numd_len : ∀ (l : List Ru) (k : Nat), (numd k l).length = l.length := by
  intro l
  induction l with
  | nil => intro k; rfl
  | cons x t ih => intro k; rw [numd, List.length_cons, List.length_cons, ih]
def Rt.pair {wo : World} (x : Rt wo) : Nat × Ru := (x.num, x.ru)
theorem rmap_push {wo : World} (L : List Ru) (k : Nat) (pre : List (Rt wo)) (x : Rt wo) (h : pre.map Rt.pair = ((numd 0 L).drop (k + 1)).reverse) (hx : L[k]? = some x.ru) (hk : x.num = k) : (pre ++ [x]).map Rt.pair = ((numd 0 L).drop k).reverse := by
  have hg := numd_get L 0 k x.ru hx
  have hl : k < (numd 0 L).length := (List.getElem?_eq_some_iff.1 hg).1
  rw [List.drop_eq_getElem_cons hl, List.reverse_cons, List.map_append, h, (List.getElem?_eq_some_iff.1 hg).2, List.map_cons, List.map_nil, Rt.pair, hk, Nat.zero_add]

set_option maxRecDepth 100000 in
set_option maxHeartbeats 2000000 in
theorem rback_in (F : Fence) (n : Nat) (hF : F.fn 92) (hro : F.round = none) (hn : 1 ≤ n) (l Bs : Nat) (wo : World) (A : Option Addr) (m c : Nat) (L : List Ru) (bs : List Nat) (hsl : RsIs wo (.slice A m c) L bs)
    (J Jx : List (Rt wo) → List Nat → World → Prop)
    (hY : ∀ pre x M W1, J pre M W1 → (∀ k ∈ M, k < W1.heap.size) → pre.length < L.length → YieldAt F (n - 1) Tryz.prog l #[.int .i64 (x.1.1 : Int), x.val] W1 fun e W2 =>
      (e = .returned (.bool true) ∧ J (pre ++ [x]) M W2 ∧ Kept wo.heap.size M W1 W2) ∨ (e = .returned (.bool false) ∧ Jx (pre ++ [x]) M W2 ∧ Kept wo.heap.size M W1 W2))
    (W : World) (hBs : W.cell? ⟨Bs, 0, none⟩ = some (.slice A m c)) (hW : Below wo.heap.size wo W) (h0 : J [] [Bs] W) :
    CallsIn F n Tryz.prog 92 #[.func (.yield l) #[] #[], .pointer (some ⟨Bs, 0, none⟩)] W fun e W2 => (∃ v, e = .returned v) ∧
      ((∃ (xs : List (Rt wo)) (M : List Nat), xs.map Rt.pair = (numd 0 L).reverse ∧ J xs M W2) ∨ (∃ (pre : List (Rt wo)) (M : List Nat), True ∧ Jx pre M W2)) := by
  obtain ⟨hm, hmc, hc⟩ := hsl.len
  have hm3 : (m : Int) ≤ 9223372036854775807 := by omega
  have HS := Lib.hid hsl
  have HM := Lib.hid hm
  have HY := Lib.hid hY
  have HW := Lib.hid hW
  clear hsl hm hY hW
  refine callsIn_of_wp Tryz.func92 rfl hF ?_ hro
  simp only [Tryz.ntmps92, List.size_toArray, List.length_cons, List.length_nil, Nat.reduceAdd, Nat.reduceSub, Array.replicate_succ, Array.replicate_zero, List.push_toArray, List.append_toArray, List.nil_append, List.cons_append]
  gi_wp2
  gi_loopw [3] (fun i wr => ∃ (z : Int), i = .int .i64 z ∧ -1 ≤ z ∧ z < m ∧ Hid (∃ (k : Nat) (pre : List (Rt wo)), z = (k : Int) - 1 ∧ J pre [Bs] wr ∧ pre.map Rt.pair = ((numd 0 L).drop k).reverse) ∧ wr.cell? ⟨Bs, 0, none⟩ = some (.slice A m c) ∧ Hid (Below wo.heap.size wo wr))
    (fun i _ => (intOf i + 1).toNat)
  case atStart =>
    exact ⟨(m : Int) - 1, rfl, by omega, by omega, Lib.hid ⟨m, [], rfl, h0, by rw [HM.out, ← numd_len L 0]; simp⟩, hBs, HW⟩
  case round =>
    obtain ⟨z, rfl, hz0, hz1, HJ, hbx, HB⟩ := hrel
    by_cases hlt : 0 ≤ z
    · obtain ⟨k1, pre, hk, hJs, hpre⟩ := HJ.out
      obtain ⟨k, rfl⟩ : ∃ k, k1 = k + 1 := ⟨k1 - 1, by omega⟩
      obtain rfl : z = (k : Int) := by omega
      have hkL : k < L.length := by rw [← HM.out]; omega
      obtain ⟨g, o, e1, v1, v2, u, b1', hra⟩ := HS.out.get k hkL
      obtain ⟨rfl, hbl', hget, hmem, hcs, his⟩ := hra
      have hcw := hcs.of (w' := wr) (fun mm _ _ => HB.out.cell (p := ⟨g, mm, none⟩) hbl')
      obtain ⟨c0, c1, c2, c3, c4, c5, c6⟩ := hcw
      clear hcs
      have hlen : pre.length < L.length := by
        have h : (pre.map Rt.pair).length = ((numd 0 L).drop (k + 1)).reverse.length := by rw [hpre]
        simp [numd_len] at h
        omega
      obtain ⟨fn, tmps, assign, body, hy, hR⟩ := HY.out pre ⟨(k, e1, v1, v2, u, b1'), his⟩ [Bs] wr hJs (by
        intro k hk
        rw [List.mem_singleton] at hk
        subst hk
        obtain ⟨o, ho, -⟩ := cells_of_cell hbx
        exact (Array.getElem?_eq_some_iff.1 ho).1) hlen
      dsimp only [Rt.val] at hy
      have HPX := Lib.hid (rmap_push L k pre ⟨(k, e1, v1, v2, u, b1'), his⟩ hpre hget rfl)
      have HR := Lib.hid hR
      clear hR hJs hpre hget hmem hk HJ hkL
      gi_wp2
      refine HR.out.mono ?_
      rintro e W3 (⟨rfl, hJ3, hk3, hkm3⟩ | ⟨rfl, hJx3, -⟩)
      · have HJ3 := Lib.hid hJ3
        have HB3 := Lib.hid (HB.out.trans hk3)
        have hbx3 : W3.cell? ⟨Bs, 0, none⟩ = some (.slice (some ⟨g, o, none⟩) m c) := (World.cell?_of_block (w := wr) (hkm3 Bs (by simp))).trans hbx
        clear hJ3 hk3 hkm3
        gi_wp2
        go_roundw
        case rel => exact ⟨(k : Int) - 1, by first | rfl | go_num, by omega, by omega, Lib.hid ⟨k, _, rfl, HJ3.out, HPX.out⟩, hbx3, HB3⟩
        case measure => first | (simp [intOf]; done) | (simp [intOf]; omega)
      · have HJ3 := Lib.hid hJx3
        clear hJx3
        gi_wp2
        refine bodyPost_ret (results_none rfl _ _ _) rfl ?_
        exact ⟨⟨_, rfl⟩, .inr ⟨_, _, trivial, HJ3.out⟩⟩
    · obtain rfl : z = -1 := by omega
      gi_wp2
      go_end0
      obtain ⟨k1, pre, hk, hJs, hpre⟩ := HJ.out
      obtain rfl : k1 = 0 := by omega
      exact ⟨⟨_, rfl⟩, .inl ⟨pre, by simpa using hpre, _, hJs⟩⟩

set_option maxHeartbeats 1000000 in
theorem rbackward_in (F : Fence) (n : Nat) (hF : F.fn 63) (hro : F.round = none) (A : Option Addr) (m c : Nat) (w : World) :
    CallsIn F n Tryz.prog 63 #[.slice A m c] w fun e w2 => e = .returned (.func (.func 92) #[] #[.pointer (some ⟨w.heap.size, 0, none⟩)]) ∧ w2 = w.alloc (.cells #[.slice A m c] 24) := by
  refine callsIn_of_wp Tryz.func63 rfl hF ?_ hro
  simp only [Tryz.ntmps63, List.size_toArray, List.length_cons, List.length_nil, Nat.reduceAdd, Nat.reduceSub, Array.replicate_succ, Array.replicate_zero, List.push_toArray, List.append_toArray, List.nil_append, List.cons_append]
  gi_wp2
  go_ret
  exact ⟨rfl, rfl⟩
end Go.Proofs.YtmndlhbgacgnlaaGreat

namespace Go.Proofs.YtmndlhbgacgnlaaGreat
open Go Go.RowKit

section
variable {α : Type} {key val : α → Value}
/-- p is the first of F at the key k. -/
def FirstAt (key : α → Value) (F : List α) (k : Value) (p : α) : Prop := ∃ A B, F = A ++ p :: B ∧ key p = k ∧ ∀ a ∈ A, key a ≠ k
theorem FirstAt.mem {F : List α} {k : Value} {p : α} (h : FirstAt key F k p) : p ∈ F ∧ key p = k := by
  obtain ⟨A, B, rfl, h1, -⟩ := h
  exact ⟨by simp, h1⟩
theorem firstAt_cons {F : List α} {x p : α} {k : Value} : FirstAt key (x :: F) k p ↔ (key x = k ∧ p = x) ∨ (key x ≠ k ∧ FirstAt key F k p) := by
  constructor
  · rintro ⟨A, B, h, h1, h2⟩
    cases A with
    | nil =>
      simp only [List.nil_append, List.cons.injEq] at h
      obtain ⟨rfl, rfl⟩ := h
      exact Or.inl ⟨h1, rfl⟩
    | cons a A =>
      simp only [List.cons_append, List.cons.injEq] at h
      obtain ⟨rfl, rfl⟩ := h
      exact Or.inr ⟨h2 _ (by simp), A, B, rfl, h1, fun b hb => h2 b (by simp [hb])⟩
  · rintro (⟨h1, rfl⟩ | ⟨h1, A, B, rfl, h2, h3⟩)
    · exact ⟨[], F, rfl, h1, fun a ha => by cases ha⟩
    · refine ⟨x :: A, B, rfl, h2, fun a ha => ?_⟩
      rcases List.mem_cons.1 ha with rfl | ha
      · exact h1
      · exact h3 a ha
theorem firstAt_some : ∀ {F : List α} {k : Value}, (∃ p ∈ F, key p = k) → ∃ p, FirstAt key F k p := by
  intro F
  induction F with
  | nil => rintro k ⟨p, hp, -⟩; cases hp
  | cons x F ih =>
    rintro k ⟨p, hp, hk⟩
    by_cases hx : key x = k
    · exact ⟨x, firstAt_cons.2 (Or.inl ⟨hx, rfl⟩)⟩
    · rcases List.mem_cons.1 hp with rfl | hp
      · exact absurd hk hx
      · obtain ⟨q, hq⟩ := ih ⟨p, hp, hk⟩
        exact ⟨q, firstAt_cons.2 (Or.inr ⟨hx, hq⟩)⟩
theorem FirstAt.uniq : ∀ {F : List α} {k : Value} {p q : α}, FirstAt key F k p → FirstAt key F k q → p = q := by
  intro F
  induction F with
  | nil => rintro k p q ⟨A, B, h, -⟩; simp at h
  | cons x F ih =>
    intro k p q hp hq
    rcases firstAt_cons.1 hp with ⟨h1, rfl⟩ | ⟨h1, h2⟩ <;> rcases firstAt_cons.1 hq with ⟨h3, rfl⟩ | ⟨h3, h4⟩
    · rfl
    · exact absurd h1 h3
    · exact absurd h3 h1
    · exact ih h2 h4
theorem firstAt_snoc {F : List α} {x p : α} {k : Value} : FirstAt key (F ++ [x]) k p ↔ FirstAt key F k p ∨ ((∀ a ∈ F, key a ≠ k) ∧ key x = k ∧ p = x) := by
  induction F with
  | nil =>
    rw [List.nil_append, firstAt_cons]
    constructor
    · rintro (⟨h1, rfl⟩ | ⟨-, A, B, h, -⟩)
      · exact Or.inr ⟨(fun a ha => by cases ha), h1, rfl⟩
      · simp at h
    · rintro (⟨A, B, h, -⟩ | ⟨-, h1, rfl⟩)
      · simp at h
      · exact Or.inl ⟨h1, rfl⟩
  | cons y F ih =>
    rw [List.cons_append, firstAt_cons, firstAt_cons, ih]
    constructor
    · rintro (h | ⟨h1, h | ⟨h2, h3⟩⟩)
      · exact Or.inl (Or.inl h)
      · exact Or.inl (Or.inr ⟨h1, h⟩)
      · refine Or.inr ⟨fun a ha => ?_, h3⟩
        rcases List.mem_cons.1 ha with rfl | ha
        · exact h1
        · exact h2 a ha
    · rintro ((h | ⟨h1, h⟩) | ⟨h1, h2⟩)
      · exact Or.inl h
      · exact Or.inr ⟨h1, Or.inl h⟩
      · exact Or.inr ⟨h1 y (by simp), Or.inr ⟨fun a ha => h1 a (by simp [ha]), h2⟩⟩

/-- The map holds the first one of F at each key. -/
structure Firsts (key val : α → Value) (F : List α) (M : List (Value × Value)) : Prop where
  mem : ∀ k v, (k, v) ∈ M ↔ ∃ p, FirstAt key F k p ∧ val p = v
  len : M.length ≤ F.length ∧ (M.length = F.length ↔ (F.map key).Nodup)
theorem firsts_nil : Firsts key val [] [] := ⟨fun k v => ⟨(fun h => by cases h), fun ⟨p, ⟨A, B, h, _⟩, _⟩ => by simp at h⟩, by simp⟩
theorem Firsts.keys {F : List α} {M : List (Value × Value)} (h : Firsts key val F M) (k : Value) : (∃ x ∈ M, x.1 = k) ↔ ∃ p ∈ F, key p = k := by
  constructor
  · rintro ⟨⟨k', v⟩, hx, rfl⟩
    obtain ⟨p, hp, -⟩ := (h.mem _ _).1 hx
    exact ⟨p, hp.mem⟩
  · intro hp
    obtain ⟨p, hp⟩ := firstAt_some hp
    exact ⟨(k, val p), (h.mem _ _).2 ⟨p, hp, rfl⟩, rfl⟩
theorem put_mem {L L2 : List (Value × Value)} {k0 v0 : Value} (hn : (L.map Prod.fst).Nodup) (h : Put L k0 v0 L2) (k v : Value) : (k, v) ∈ L2 ↔ (k = k0 ∧ v = v0) ∨ (k ≠ k0 ∧ (k, v) ∈ L) := by
  rcases h with ⟨h1, rfl⟩ | ⟨A, u, B, rfl, rfl⟩
  · rw [List.mem_append, List.mem_singleton, Prod.mk.injEq]
    constructor
    · rintro (h | h)
      · exact Or.inr ⟨h1 _ h, h⟩
      · exact Or.inl h
    · rintro (h | ⟨-, h⟩)
      · exact Or.inr h
      · exact Or.inl h
  · rw [List.map_append, List.map_cons, List.nodup_append] at hn
    obtain ⟨-, h2, h3⟩ := hn
    rw [List.nodup_cons] at h2
    have hA : ∀ x ∈ A, x.1 ≠ k0 := fun x hx => h3 x.1 (List.mem_map_of_mem hx) k0 (by simp)
    have hB : ∀ x ∈ B, x.1 ≠ k0 := fun x hx e => h2.1 (show k0 ∈ B.map Prod.fst by rw [← e]; exact List.mem_map_of_mem hx)
    simp only [List.mem_append, List.mem_cons, Prod.mk.injEq]
    constructor
    · rintro (h | h | h)
      · exact Or.inr ⟨hA _ h, Or.inl h⟩
      · exact Or.inl h
      · exact Or.inr ⟨hB _ h, Or.inr (Or.inr h)⟩
    · rintro (h | ⟨h, h4 | h4 | h4⟩)
      · exact Or.inr (Or.inl h)
      · exact Or.inl h4
      · exact absurd h4.1 h
      · exact Or.inr (Or.inr h4)
/-- One more in front, stored over what was there. -/
theorem Firsts.cons {F : List α} {M M2 : List (Value × Value)} {x : α} (h : Firsts key val F M) (hn : (M.map Prod.fst).Nodup) (hp : Put M (key x) (val x) M2) : Firsts key val (x :: F) M2 := by
  refine ⟨fun k v => ?_, ?_⟩
  · rw [put_mem hn hp, h.mem]
    constructor
    · rintro (⟨rfl, rfl⟩ | ⟨h1, p, h2, h3⟩)
      · exact ⟨x, firstAt_cons.2 (Or.inl ⟨rfl, rfl⟩), rfl⟩
      · exact ⟨p, firstAt_cons.2 (Or.inr ⟨fun e => h1 e.symm, h2⟩), h3⟩
    · rintro ⟨p, h1, h2⟩
      rcases firstAt_cons.1 h1 with ⟨h3, rfl⟩ | ⟨h3, h4⟩
      · exact Or.inl ⟨h3.symm, h2.symm⟩
      · exact Or.inr ⟨fun e => h3 e.symm, p, h4, h2⟩
  · have hk := h.keys (key x)
    have hl := h.len
    rw [List.map_cons, List.nodup_cons, List.length_cons]
    rcases hp with ⟨h1, rfl⟩ | ⟨A, u, B, rfl, rfl⟩
    · have hne : key x ∉ F.map key := fun hm => by
        obtain ⟨p, hp1, hp2⟩ := List.mem_map.1 hm
        obtain ⟨y, hy, e⟩ := hk.2 ⟨p, hp1, hp2⟩
        exact h1 y hy e
      refine ⟨by simp; omega, ?_⟩
      rw [List.length_append]
      simp only [List.length_cons, List.length_nil, hne, not_false_eq_true, true_and]
      rw [← hl.2]
      omega
    · obtain ⟨p, hp1, hp2⟩ := hk.1 ⟨(key x, u), by simp, rfl⟩
      have hin : key x ∈ F.map key := List.mem_map.2 ⟨p, hp1, hp2⟩
      have hl1 := hl.1
      simp only [List.length_append, List.length_cons] at hl1 ⊢
      refine ⟨by omega, ?_⟩
      constructor
      · intro e; omega
      · intro e; exact absurd hin e.1
/-- One more behind, stored where there was none. -/
theorem Firsts.snoc {F : List α} {M M2 : List (Value × Value)} {x : α} (h : Firsts key val F M) (hn : (M.map Prod.fst).Nodup) (hp : Put M (key x) (val x) M2) (ho : ∀ y ∈ M, y.1 ≠ key x) : Firsts key val (F ++ [x]) M2 := by
  have hk : ∀ p ∈ F, key p ≠ key x := fun p hp1 e => by
    obtain ⟨y, hy, e2⟩ := (h.keys (key x)).2 ⟨p, hp1, e⟩
    exact ho y hy e2
  refine ⟨fun k v => ?_, ?_⟩
  · rw [put_mem hn hp, h.mem]
    constructor
    · rintro (⟨rfl, rfl⟩ | ⟨h1, p, h2, h3⟩)
      · exact ⟨x, firstAt_snoc.2 (Or.inr ⟨hk, rfl, rfl⟩), rfl⟩
      · exact ⟨p, firstAt_snoc.2 (Or.inl h2), h3⟩
    · rintro ⟨p, h1, h2⟩
      rcases firstAt_snoc.1 h1 with h3 | ⟨h3, h4, rfl⟩
      · refine Or.inr ⟨fun e => hk p h3.mem.1 (h3.mem.2.trans e), p, h3, h2⟩
      · exact Or.inl ⟨h4.symm, h2.symm⟩
  · have hl := h.len
    have hne : key x ∉ F.map key := fun hm => by
      obtain ⟨p, hp1, hp2⟩ := List.mem_map.1 hm
      exact hk p hp1 hp2
    rcases hp with ⟨h1, rfl⟩ | ⟨A, u, B, rfl, -⟩
    · refine ⟨by simp; omega, ?_⟩
      rw [List.length_append, List.length_append, List.map_append, List.nodup_append]
      constructor
      · intro e
        refine ⟨hl.2.1 (by simpa using e), by simp, fun a ha b hb e2 => ?_⟩
        simp only [List.map_cons, List.map_nil, List.mem_singleton] at hb
        rw [e2, hb] at ha
        exact hne ha
      · intro e
        have := hl.2.2 e.1
        simp; omega
    · exact absurd rfl (ho (key x, u) (by simp))
/-- One more behind, where there is one already. -/
theorem Firsts.more {F : List α} {M : List (Value × Value)} {x : α} (h : Firsts key val F M) (ho : ∃ y ∈ M, y.1 = key x) : ∀ k v, (k, v) ∈ M ↔ ∃ p, FirstAt key (F ++ [x]) k p ∧ val p = v := by
  obtain ⟨q, hq1, hq2⟩ := (h.keys (key x)).1 ho
  intro k v
  rw [h.mem]
  constructor
  · rintro ⟨p, h1, h2⟩; exact ⟨p, firstAt_snoc.2 (Or.inl h1), h2⟩
  · rintro ⟨p, h1, h2⟩
    rcases firstAt_snoc.1 h1 with h3 | ⟨h3, h4, rfl⟩
    · exact ⟨p, h3, h2⟩
    · exact absurd (hq2.trans h4) (h3 q hq1)
theorem Firsts.hits {F : List α} {M : List (Value × Value)} (h : Firsts key val F M) {k z v : Value} {b : Bool} (hh : Hits M k z v b) : (∃ p, FirstAt key F k p ∧ v = val p ∧ b = true) ∨ ((∀ p ∈ F, key p ≠ k) ∧ v = z ∧ b = false) := by
  rcases hh with ⟨h1, rfl⟩ | ⟨h1, rfl, rfl⟩
  · obtain ⟨p, h2, h3⟩ := (h.mem _ _).1 h1
    exact Or.inl ⟨p, h2, h3.symm, rfl⟩
  · refine Or.inr ⟨fun p hp e => ?_, rfl, rfl⟩
    obtain ⟨y, hy, e2⟩ := (h.keys k).2 ⟨p, hp, e⟩
    exact h1 y hy e2
end

/-- Strings as keys. -/
def StrK (v : Value) : Prop := ∃ s, v = .string s
theorem strT (w : World) : KeyT Tryz.prog 9 w StrK := by
  have hk := Tryz.underlying9
  have isK : ∀ {v : Value}, StrK v → MapKept.IsKey .string v := fun {v} ⟨s, h⟩ => by subst h; trivial
  refine ⟨fun em v h => MapKept.run_checkKey hk (isK h) em 9999, fun x es hx hes => ?_, fun v h => MapKept.run_keyThatStays (isK h)⟩
  rcases MapKept.findNow_spec (isK hx) es 0 (fun y hy => isK (hes y hy)) with ⟨h1, h2⟩ | ⟨j, e0, h1, h2, h3⟩
  · exact Or.inl ⟨MapKept.run_findKey hk h1, h2⟩
  · exact Or.inr ⟨j, e0, by simpa using MapKept.run_findKey hk h1, h2, h3⟩

/-- Structs of two strings as keys. -/
def TwoK (v : Value) : Prop := ∃ s t, v = .agg #[.string s, .string t]
theorem eq_str {w : World} (a b : ByteArray) (d : Nat) : (Op.equalIn (d + 1) 9 (.string a) (.string b)).run Tryz.prog w = .ok (a == b) w := by
  simp [Op.equalIn, run_underlying Tryz.underlying9]
theorem eq_two (w : World) (a b c d : ByteArray) : (Op.equal 68 (.agg #[.string a, .string b]) (.agg #[.string c, .string d])).run Tryz.prog w = .ok (decide (a = c) && decide (b = d)) w := by
  have e1 : (Op.equalIn 9999 9 (.string a) (.string c)).run Tryz.prog w = .ok (a == c) w := eq_str a c 9998
  have e2 : (Op.equalIn 9999 9 (.string b) (.string d)).run Tryz.prog w = .ok (b == d) w := eq_str b d 9998
  have u := run_underlying (w := w) Tryz.underlying68
  have st : Tryz.prog.stoodInHeld 68 = false := by kernel_rfl
  have p0 : ∀ x y : Value, (part 9 #[x, y] 0).run Tryz.prog w = .ok x w := fun x y => by kernel_rfl
  have p1 : ∀ x y : Value, (part 9 #[x, y] 1).run Tryz.prog w = .ok y w := fun x y => by kernel_rfl
  rw [Op.equal, show Op.maxDepth = 9999 + 1 from rfl, Op.equalIn]
  have q : ∀ x y : ByteArray, (x == y) = decide (x = y) := fun x y => by rw [Bool.eq_iff_iff, MapKept.bytes_beq, decide_eq_true_iff]
  rw [q] at e1 e2
  by_cases h1 : a = c
  · rw [decide_eq_true h1] at e1 ⊢
    by_cases h2 : b = d
    · rw [decide_eq_true h2] at e2 ⊢
      simp [u, st, p0, p1, e1, e2]
    · rw [decide_eq_false h2] at e2 ⊢
      simp [u, st, p0, p1, e1, e2]
  · rw [decide_eq_false h1] at e1 ⊢
    simp [u, st, p0, e1]
theorem twoT (w : World) : KeyT Tryz.prog 68 w TwoK := by
  refine ⟨fun em v ⟨a, b, hv⟩ => ?_, fun x es hx hes => ?_, fun v ⟨a, b, hv⟩ => ?_⟩
  · subst hv
    have u := run_underlying (w := w) Tryz.underlying68
    have us := run_underlying (w := w) Tryz.underlying9
    have p0 : ∀ x y : Value, (part 9 #[x, y] 0).run Tryz.prog w = .ok x w := fun x y => by kernel_rfl
    have p1 : ∀ x y : Value, (part 9 #[x, y] 1).run Tryz.prog w = .ok y w := fun x y => by kernel_rfl
    have c : ∀ s, (Instr.checkKey em 9999 9 (.string s)).run Tryz.prog w = .ok () w := fun s => by rw [show 9999 = 9998 + 1 from rfl, Instr.checkKey]; simp [us]
    rw [show 10000 = 9999 + 1 from rfl, Instr.checkKey]
    simp [u, p0, p1, c]
  · have h := find_asking (P := Tryz.prog) (k := 68) (w := w) (K := TwoK) (fun x y ⟨a, b, hx⟩ ⟨c, d, hy⟩ => ⟨decide (a = c) && decide (b = d), by rw [hx, hy]; exact eq_two w a b c d, by rw [hx, hy]; simp⟩) hx es 0 hes
    have e := Go.run_findKey_eq (P := Tryz.prog) w (k := 68) (by kernel_rfl) x es
    rw [e]
    simpa using h
  · subst hv
    simp [Instr.keyThatStays, Instr.sameBits, MapKept.bytes_beq]
end Go.Proofs.YtmndlhbgacgnlaaGreat

namespace Go.Proofs.YtmndlhbgacgnlaaGreat
open Go Go.RowKit Go.Shelf
attribute [local go_sem] Oper.semAt_some

theorem rules_stops (F : Fence) (n : Nat) (hro : F.round = none) (hF : ∀ k, F.fn k) (hn : 1 ≤ n) (wo : World) (A : Option Addr) (m c : Nat) (L : List Ru) (bs : List Nat) (hsl : RsIs wo (.slice A m c) L bs) (b : Nat) (w : World) (hb : w.cell? ⟨b, 0, none⟩ = some (.slice A m c)) (hW : Below wo.heap.size wo w) :
    SeqF F n Tryz.prog 92 #[.pointer (some ⟨b, 0, none⟩)] (fun x : Rt wo => #[.int .i64 (x.1.1 : Int), x.val]) wo.heap.size (fun xs => xs.map Rt.pair = (numd 0 L).reverse) (fun _ => True) L.length [b] w := by
  intro l J Jx W hwW hJ hJx hY h0
  exact rback_in F n (hF _) hro hn l b wo A m c L bs hsl J Jx hY W ((hwW.cell (p := ⟨b, 0, none⟩) (World.block_lt_of_cell? w _ hb)).trans hb) (hW.trans (hwW.mono hW.size)) h0

theorem run_makeNums (n : Int) (w : World) : (Instr.makeMap 58 (some (.int .i64 n))).run Tryz.prog w = .ok (.map (some w.heap.size)) (w.alloc (.map #[] 0)) := by
  simp [Instr.makeMap, run_underlying Tryz.underlying58, asInt, asIntOf, Result.andThen]
theorem run_makeFirst (n : Int) (w : World) : (Instr.makeMap 60 (some (.int .i64 n))).run Tryz.prog w = .ok (.map (some w.heap.size)) (w.alloc (.map #[] 0)) := by
  simp [Instr.makeMap, run_underlying Tryz.underlying60, asInt, asIntOf, Result.andThen]

section
variable {wo : World}
def rkey (x : Rt wo) : Value := .agg #[.string x.ru.name, .string x.ru.con]
def rnum (x : Rt wo) : Value := .int .i64 (x.num : Int)
def rname (x : Rt wo) : Value := .string x.ru.name
/-- The map under way: its box, its block. -/
def MapI (B mb : Nat) (bt : TypeId) (K : Value → Prop) (key val : Rt wo → Value) (pre : List (Rt wo)) (Fp : List Nat) (W : World) : Prop :=
  Fp = [B, mb] ∧ B ≠ mb ∧ Boxed W B bt (.map (some mb)) ∧ ∃ M, MapIs W mb M ∧ (∀ x ∈ M, K x.1) ∧ Firsts key val pre.reverse M
theorem mapi_foot (B mb : Nat) (bt : TypeId) (K : Value → Prop) (key val : Rt wo → Value) (pre : List (Rt wo)) : Foot (MapI B mb bt K key val pre) := by
  rintro Fp X Y ⟨rfl, hne, h1, M, h2, h3⟩ _ hk
  exact ⟨rfl, hne, box_on h1 (hk B (by simp)), M, h2.on (hk mb (by simp)), h3⟩
/-- The rule of a round lies in a box of its own. -/
def Ruled (I : List (Rt wo) → List Nat → World → Prop) (tm : Nat → Rt wo → Array Value) (ks : List (Rt wo)) (x : Rt wo) (a : Act) (Fp : List Nat) (X : World) : Prop := ∃ nb Fp0, Fp = nb :: Fp0 ∧ X.heap[nb]? = some (.cells #[.string x.1.2.1.name, .string x.1.2.1.con, x.1.2.2.1, x.1.2.2.2.1, .int .i64 x.1.2.1.body.kind, .string x.1.2.1.body.name, x.1.2.2.2.2.1] 34 (0, 0)) ∧ nb ∉ Fp0 ∧ I ks Fp0 X ∧ a = { tmps := tm nb x, defers := [] }
theorem ruled_foot {I : List (Rt wo) → List Nat → World → Prop} (hI : ∀ ks, Foot (I ks)) (tm : Nat → Rt wo → Array Value) (ks : List (Rt wo)) (x : Rt wo) (a : Act) : Foot (Ruled I tm ks x a) := by
  rintro Fp X Y ⟨nb, Fp0, rfl, h1, h2, h3, h4⟩ hs hk
  exact ⟨nb, Fp0, rfl, (hk nb (by simp)).trans h1, h2, hI ks Fp0 X Y h3 hs (fun k h => hk k (by simp [h])), h4⟩
theorem Rt.slices (x : Rt wo) : ∃ A1 c1 A2 c2 A3 c3, x.1.2.2.1 = .slice A1 x.ru.vars.length c1 ∧ x.1.2.2.2.1 = .slice A2 x.ru.params.length c2 ∧ x.1.2.2.2.2.1 = .slice A3 x.ru.body.args.length c3 ∧ (c1 : Int) ≤ 9223372036854775807 ∧ (c2 : Int) ≤ 9223372036854775807 ∧ (c3 : Int) ≤ 9223372036854775807 ∧ (x.ru.vars.length ≤ c1 ∧ x.ru.params.length ≤ c2 ∧ x.ru.body.args.length ≤ c3) := by
  obtain ⟨b1, b2, b3, -, -, -, h1, h2, h3⟩ := x.2.parts
  obtain ⟨A1, c1, e1, l1, k1, -⟩ := h1
  obtain ⟨A2, c2, e2, l2, k2, -⟩ := h2
  obtain ⟨u, e3, -, A3, c3, e4, l3, k3, -⟩ := h3
  simp only [Value.agg.injEq, Array.mk.injEq, List.cons.injEq, and_true, true_and] at e3
  rw [← e3] at e4
  exact ⟨A1, c1, A2, c2, A3, c3, e1, e2, e4, by omega, by omega, by omega, l1, l2, l3⟩
theorem ruled_new {I : List (Rt wo) → List Nat → World → Prop} (hI : ∀ ks, Foot (I ks)) {tm : Nat → Rt wo → Array Value} {ks : List (Rt wo)} {x : Rt wo} {Fp : List Nat} {X : World} (h : I ks Fp X) (hFp : ∀ k ∈ Fp, k < X.heap.size) {v1 v2 u : Value} (hv1 : x.1.2.2.1 = v1) (hv2 : x.1.2.2.2.1 = v2) (hu : x.1.2.2.2.2.1 = u) {a : Act} (ha : a = { tmps := tm X.heap.size x, defers := [] }) :
    Fr Fp X (X.alloc (.cells #[.string x.1.2.1.name, .string x.1.2.1.con, v1, v2, .int .i64 x.1.2.1.body.kind, .string x.1.2.1.body.name, u] 34)) ∧ (∀ k ∈ X.heap.size :: Fp, (k ∈ Fp ∨ X.heap.size ≤ k) ∧ k < (X.alloc (.cells #[.string x.1.2.1.name, .string x.1.2.1.con, v1, v2, .int .i64 x.1.2.1.body.kind, .string x.1.2.1.body.name, u] 34)).heap.size) ∧ Ruled I tm ks x a (X.heap.size :: Fp) (X.alloc (.cells #[.string x.1.2.1.name, .string x.1.2.1.con, v1, v2, .int .i64 x.1.2.1.body.kind, .string x.1.2.1.body.name, u] 34)) := by
  subst hv1 hv2 hu
  refine ⟨Fr.alloc _ _, fun k hk => ?_, X.heap.size, Fp, rfl, World.alloc_heap_new X _, fun hm => by have := hFp _ hm; omega, hI ks Fp X _ h (by simp) (fun k hk => Below.heap_alloc X _ k (hFp k hk)), ha⟩
  rcases List.mem_cons.1 hk with rfl | hk
  · exact ⟨Or.inr (Nat.le_refl _), by simp⟩
  · exact ⟨Or.inl hk, by have := hFp k hk; simp; omega⟩
theorem map_step {B mb nb : Nat} {bt : TypeId} {K : Value → Prop} {key val : Rt wo → Value} {pre : List (Rt wo)} {x : Rt wo} {M L2 : List (Value × Value)} {X W5 : World} (hne : B ≠ mb) (hB : Boxed X B bt (.map (some mb))) (hmi : MapIs X mb M) (hK : ∀ x ∈ M, K x.1) (hF : Firsts key val pre.reverse M) (hk : K (key x))
    (h2 : MapIs W5 mb L2) (hp : Put M (key x) (val x) L2) (hg : X.grownBy W5 (some mb)) :
    ∃ Fp2, Fr [nb, B, mb] X W5 ∧ (∀ k ∈ Fp2, (k ∈ [nb, B, mb] ∨ X.heap.size ≤ k) ∧ k < W5.heap.size) ∧ MapI B mb bt K key val (pre ++ [x]) Fp2 W5 := by
  refine ⟨[B, mb], Fr.grown hg (fun k e => by cases e; simp), fun k hk => ?_, rfl, hne, box_on hB (hg.block B hB.lt (fun e => hne (Option.some.inj e))), L2, h2, hp.nodup_keys hK hk, ?_⟩
  · simp at hk
    rcases hk with rfl | rfl
    · exact ⟨Or.inl (by simp), Nat.lt_of_lt_of_le hB.lt hg.size⟩
    · exact ⟨Or.inl (by simp), h2.lt⟩
  · obtain ⟨es, clock, -, -, hn⟩ := hmi
    rw [List.reverse_append]
    exact hF.cons hn hp
end
/-- Where the loop begins: the map's box and the map. -/
theorem start_map (w W0 : World) (u : Value) (bt st pt : TypeId) (sl : Value) (h : W0 = (((w.alloc (.cells #[u] pt)).alloc (.map #[] 0)).alloc (.cells #[.map (some (w.heap.size + 1))] bt)).alloc (.cells #[sl] st)) :
    W0.heap.size = w.heap.size + 4 ∧ Below w.heap.size w W0 ∧ Boxed W0 (w.heap.size + 1 + 1) bt (.map (some (w.heap.size + 1))) ∧ MapIs W0 (w.heap.size + 1) [] ∧ W0.cell? ⟨w.heap.size + 1 + 1 + 1, 0, none⟩ = some sl := by
  subst h
  have b1 := MapIs.made (w.alloc (.cells #[u] pt))
  have b2 := Boxed.new ((w.alloc (.cells #[u] pt)).alloc (.map #[] 0)) bt (.map (some (w.heap.size + 1)))
  have b3 := Boxed.new (((w.alloc (.cells #[u] pt)).alloc (.map #[] 0)).alloc (.cells #[.map (some (w.heap.size + 1))] bt)) st sl
  simp only [World.size_alloc] at b1 b2 b3
  refine ⟨by simp, ((((Below.refl _ w).alloc (Nat.le_refl _) _).alloc (by simp) _).alloc (by simp; omega) _).alloc (by simp; omega) _, b2.alloc _, ?_, b3.cell⟩
  exact b1.on ((Below.heap_alloc _ _ _ (by simp)).trans (Below.heap_alloc _ _ _ (by simp)))

/-- What ruleNumbers and firstRules hand back. -/
def MapPost (l : List Ru) (K : Value → Prop) (key val : ∀ {wo : World}, Rt wo → Value) (w : World) (e : Ending) (w2 : World) : Prop :=
  ∃ (mb : Nat) (M : List (Value × Value)) (xs : List (Rt w)), e = .returned (.map (some mb)) ∧ MapIs w2 mb M ∧ (∀ x ∈ M, K x.1) ∧ xs.map Rt.pair = numd 0 l ∧ Firsts key val xs M ∧ w.heap.size ≤ mb ∧ Below w.heap.size w w2

set_option maxRecDepth 100000 in
set_option maxHeartbeats 2000000 in
theorem nums_in (F : Fence) (n : Nat) (hFw : F = Fence.wide) (hro : F.round = none) (hF : ∀ k, F.fn k) (hn : 9 ≤ n) (l : List Ru) (v : Value) (bs : List Nat) (w : World) (hv : PrIs w v l bs) (hb : l.length ≤ 1099511627776) :
    CallsIn F n Tryz.prog 31 #[v] w (MapPost l TwoK rkey rnum w) := by
  obtain ⟨u, rfl, hu⟩ := hv
  obtain ⟨A, c, rfl, hc1, hc2, -⟩ := id hu
  have HU := Lib.hid hu
  have h1 : 1 ≤ n := by omega
  have HFW := Lib.hid hFw
  obtain ⟨m, hm⟩ : ∃ m, m = l.length := ⟨_, rfl⟩
  rw [← hm] at HU hc1 hb ⊢
  have HM := Lib.hid hm
  have hm2 : (m : Int) ≤ 1099511627776 := by omega
  have hmk := run_makeNums
  clear hu hFw hm
  refine callsIn_of_wp_marks Tryz.func31 rfl (hF _) ?_ hro
  simp only [Tryz.ntmps31, List.size_toArray, List.length_cons, List.length_nil, Nat.reduceAdd, Nat.reduceSub, Array.replicate_succ, Array.replicate_zero, List.push_toArray, List.append_toArray, List.nil_append, List.cons_append]
  gi_wp2_with (gi_at_call 63; refine (rbackward_in F (n - 1) (hF _) hro _ _ _ _).mono ?_; rintro r w4 ⟨rfl, rfl⟩)
  obtain ⟨W0, hW0⟩ : ∃ W0, W0 = (((w.alloc (.cells #[.slice A m c] 26)).alloc (.map #[] 0)).alloc (.cells #[.map (some (w.heap.size + 1))] 58)).alloc (.cells #[.slice A m c] 24) := ⟨_, rfl⟩
  rw [← hW0]
  have HX := Lib.hid (start_map w W0 _ _ _ _ _ hW0)
  clear hW0 hmk
  have hx1 := HX.out.1
  refine wpIn_rangeFunc_frame hro h1 (gf := 92) (lb := #[.pointer (some ⟨w.heap.size + 1 + 1 + 1, 0, none⟩)]) rfl (hF _) (enters_of Tryz.func92 (by kernel_rfl) rfl)
    (rules_stops F (n - 1) hro hF (by omega) w A m c l bs HU.out (w.heap.size + 1 + 1 + 1) W0 HX.out.2.2.2.2 HX.out.2.1) (Below.refl _ _) (by omega) (by simp; omega) (fun _ => rfl)
    (MapI (w.heap.size + 1 + 1) (w.heap.size + 1) 58 TwoK rkey rnum) (fun _ _ _ _ => False) (mapi_foot (w.heap.size + 1 + 1) (w.heap.size + 1) 58 TwoK rkey rnum) (fun _ _ _ _ _ h _ _ => h) [w.heap.size + 1 + 1, w.heap.size + 1] (fun k hk => by simp at hk; rcases hk with rfl | rfl <;> simp <;> omega) ⟨rfl, by omega, HX.out.2.2.1, [], HX.out.2.2.2.1, (fun x hx => by cases hx), firsts_nil⟩
    (Ruled (MapI (w.heap.size + 1 + 1) (w.heap.size + 1) 58 TwoK rkey rnum) (fun nb x => #[.agg #[.slice A m c], .pointer (some ⟨w.heap.size, 0, none⟩), .map none, .pointer (some ⟨w.heap.size + 1 + 1, 0, none⟩), .int .i64 (x.1.1 : Int), .pointer (some ⟨nb, 0, none⟩), .pointer (some ⟨w.heap.size, 0, none⟩), .slice A m c, .int .i64 (m : Int), .map (some (w.heap.size + 1)), .pointer (some ⟨w.heap.size, 0, none⟩), .slice A m c, .func (.func 92) #[] #[.pointer (some ⟨w.heap.size + 1 + 1 + 1, 0, none⟩)], .int .i64 (x.1.1 : Int), x.val, undef, undef, undef, undef, undef, undef, undef, undef])) (ruled_foot (mapi_foot (w.heap.size + 1 + 1) (w.heap.size + 1) 58 TwoK rkey rnum) _) ?assign ?body ?done ?stop
  case assign =>
    intro l2 pre x Fp X KX hI hFp hFr hK
    have HI := Lib.hid hI
    have HFP := Lib.hid hFp
    have HKX := Lib.hid hK
    obtain ⟨A1, d1, A2, d2, A3, d3, hv1, hv2, hv3, -⟩ := x.slices
    have hv : x.val = .agg #[.string x.1.2.1.name, .string x.1.2.1.con, .slice A1 x.ru.vars.length d1, .slice A2 x.ru.params.length d2, .int .i64 x.1.2.1.body.kind, .string x.1.2.1.body.name, .slice A3 x.ru.body.args.length d3] := by rw [← hv1, ← hv2, ← hv3]; rfl
    have HV1 := Lib.hid hv1
    have HV2 := Lib.hid hv2
    have HV3 := Lib.hid hv3
    have HV := Lib.hid hv
    dsimp only
    rw [hv]
    clear hI hFp hFr hK hv hv1 hv2 hv3
    gi_wp2
    obtain ⟨q1, q2, q3⟩ := ruled_new (mapi_foot (w.heap.size + 1 + 1) (w.heap.size + 1) 58 TwoK rkey rnum) (tm := (fun nb x => #[.agg #[.slice A m c], .pointer (some ⟨w.heap.size, 0, none⟩), .map none, .pointer (some ⟨w.heap.size + 1 + 1, 0, none⟩), .int .i64 (x.1.1 : Int), .pointer (some ⟨nb, 0, none⟩), .pointer (some ⟨w.heap.size, 0, none⟩), .slice A m c, .int .i64 (m : Int), .map (some (w.heap.size + 1)), .pointer (some ⟨w.heap.size, 0, none⟩), .slice A m c, .func (.func 92) #[] #[.pointer (some ⟨w.heap.size + 1 + 1 + 1, 0, none⟩)], .int .i64 (x.1.1 : Int), x.val, undef, undef, undef, undef, undef, undef, undef, undef])) HI.out (fun k hk => (HFP.out k hk).2) HV1.out HV2.out HV3.out rfl
    refine HKX.out _ _ _ q1 q2 ?_
    exact (by simpa only [HV.out] using q3)
  case body =>
    rintro l2 pre x _ Fp X ⟨nb, _, rfl, hnx, hnb, ⟨rfl, hne, hB, M, hmi, hKM, hFs⟩, rfl⟩ hFp hFr hlen
    have hn3 : 1 ≤ n - 1 - 1 := by omega
    have hn0 : X.cell? ⟨nb, 0, none⟩ = some (.string x.1.2.1.name) := by simp [World.cell?, hnx]
    have hn1 : X.cell? ⟨nb, 1, none⟩ = some (.string x.1.2.1.con) := by simp [World.cell?, hnx]
    have hc := hB.cell
    have HB := Lib.hid hB
    have HMI := Lib.hid hmi
    have HKM := Lib.hid hKM
    have HFS := Lib.hid hFs
    have HNE := Lib.hid hne
    clear hB hmi hKM hFs hne hnx hFp hFr hnb
    gi_wp2_with (gi_at_mapUpdate; refine asc_put_in _ rfl _ _ _ 58 rfl 68 3 Tryz.underlying58 TwoK (twoT X) (w.heap.size + 1) M rfl HMI.out _ _ rfl rfl ⟨_, _, rfl⟩ HKM.out ?_; intro W5 L2 hmi5 hput5 hgr5; have HM5 := Lib.hid hmi5; have HP5 := Lib.hid hput5; have HG5 := Lib.hid hgr5; clear hmi5 hput5 hgr5)
    exact map_step HNE.out HB.out HMI.out HKM.out HFS.out ⟨_, _, rfl⟩ HM5.out HP5.out HG5.out
  case done =>
    rintro D ks Fp X hD hDF hFl hS ⟨rfl, hne, hB, M, hmi, hKM, hFs⟩ hFr hK
    have hc := hB.cell
    have HMI := Lib.hid hmi
    have HKM := Lib.hid hKM
    have HFS := Lib.hid hFs
    have HS := Lib.hid (show ks.reverse.map Rt.pair = numd 0 l by rw [List.map_reverse, hS, List.reverse_reverse])
    have HK := Lib.hid hK
    have HFR := Lib.hid hFr
    clear hB hmi hKM hFs hne hK hFr hS hFl hDF
    gi_wp2
    refine ⟨by simp, .inl ⟨_, _, rfl, run_takeDeferred HK.out, ?_⟩⟩
    refine ⟨_, results_tmp rfl _ _ _, w.heap.size + 1, M, ks.reverse, rfl, HMI.out.on (World.putObj_heap_other (by omega)), HKM.out, HS.out, HFS.out, by omega, ?_⟩
    exact (HX.out.2.1.trans (HFR.out.below (by simp; omega) (by omega))).trans ((Fr.put (S := [D]) X _ _ (by simp)).below (by simp; omega) (by have := HFR.out.size; omega))
  case stop =>
    rintro D c pre Fp X _ _ _ _ h _ _
    exact h.elim
set_option maxRecDepth 100000 in
set_option maxHeartbeats 2000000 in
theorem first_in (F : Fence) (n : Nat) (hFw : F = Fence.wide) (hro : F.round = none) (hF : ∀ k, F.fn k) (hn : 9 ≤ n) (l : List Ru) (v : Value) (bs : List Nat) (w : World) (hv : PrIs w v l bs) (hb : l.length ≤ 1099511627776) :
    CallsIn F n Tryz.prog 35 #[v] w (MapPost l StrK rname Rt.val w) := by
  obtain ⟨u, rfl, hu⟩ := hv
  obtain ⟨A, c, rfl, hc1, hc2, -⟩ := id hu
  have HU := Lib.hid hu
  have h1 : 1 ≤ n := by omega
  have HFW := Lib.hid hFw
  obtain ⟨m, hm⟩ : ∃ m, m = l.length := ⟨_, rfl⟩
  rw [← hm] at HU hc1 hb ⊢
  have HM := Lib.hid hm
  have hm2 : (m : Int) ≤ 1099511627776 := by omega
  have hmk := run_makeFirst
  clear hu hFw hm
  refine callsIn_of_wp_marks Tryz.func35 rfl (hF _) ?_ hro
  simp only [Tryz.ntmps35, List.size_toArray, List.length_cons, List.length_nil, Nat.reduceAdd, Nat.reduceSub, Array.replicate_succ, Array.replicate_zero, List.push_toArray, List.append_toArray, List.nil_append, List.cons_append]
  gi_wp2_with (gi_at_call 63; refine (rbackward_in F (n - 1) (hF _) hro _ _ _ _).mono ?_; rintro r w4 ⟨rfl, rfl⟩)
  obtain ⟨W0, hW0⟩ : ∃ W0, W0 = (((w.alloc (.cells #[.slice A m c] 26)).alloc (.map #[] 0)).alloc (.cells #[.map (some (w.heap.size + 1))] 60)).alloc (.cells #[.slice A m c] 24) := ⟨_, rfl⟩
  rw [← hW0]
  have HX := Lib.hid (start_map w W0 _ _ _ _ _ hW0)
  clear hW0 hmk
  have hx1 := HX.out.1
  refine wpIn_rangeFunc_frame hro h1 (gf := 92) (lb := #[.pointer (some ⟨w.heap.size + 1 + 1 + 1, 0, none⟩)]) rfl (hF _) (enters_of Tryz.func92 (by kernel_rfl) rfl)
    (rules_stops F (n - 1) hro hF (by omega) w A m c l bs HU.out (w.heap.size + 1 + 1 + 1) W0 HX.out.2.2.2.2 HX.out.2.1) (Below.refl _ _) (by omega) (by simp; omega) (fun _ => rfl)
    (MapI (w.heap.size + 1 + 1) (w.heap.size + 1) 60 StrK rname Rt.val) (fun _ _ _ _ => False) (mapi_foot (w.heap.size + 1 + 1) (w.heap.size + 1) 60 StrK rname Rt.val) (fun _ _ _ _ _ h _ _ => h) [w.heap.size + 1 + 1, w.heap.size + 1] (fun k hk => by simp at hk; rcases hk with rfl | rfl <;> simp <;> omega) ⟨rfl, by omega, HX.out.2.2.1, [], HX.out.2.2.2.1, (fun x hx => by cases hx), firsts_nil⟩
    (Ruled (MapI (w.heap.size + 1 + 1) (w.heap.size + 1) 60 StrK rname Rt.val) (fun nb x => #[.agg #[.slice A m c], .pointer (some ⟨w.heap.size, 0, none⟩), .map none, .pointer (some ⟨w.heap.size + 1 + 1, 0, none⟩), undef, .pointer (some ⟨nb, 0, none⟩), .pointer (some ⟨w.heap.size, 0, none⟩), .slice A m c, .int .i64 (m : Int), .map (some (w.heap.size + 1)), .pointer (some ⟨w.heap.size, 0, none⟩), .slice A m c, .func (.func 92) #[] #[.pointer (some ⟨w.heap.size + 1 + 1 + 1, 0, none⟩)], .int .i64 (x.1.1 : Int), x.val, undef, undef, undef, undef, undef])) (ruled_foot (mapi_foot (w.heap.size + 1 + 1) (w.heap.size + 1) 60 StrK rname Rt.val) _) ?assign ?body ?done ?stop
  case assign =>
    intro l2 pre x Fp X KX hI hFp hFr hK
    have HI := Lib.hid hI
    have HFP := Lib.hid hFp
    have HKX := Lib.hid hK
    obtain ⟨A1, d1, A2, d2, A3, d3, hv1, hv2, hv3, -⟩ := x.slices
    have hv : x.val = .agg #[.string x.1.2.1.name, .string x.1.2.1.con, .slice A1 x.ru.vars.length d1, .slice A2 x.ru.params.length d2, .int .i64 x.1.2.1.body.kind, .string x.1.2.1.body.name, .slice A3 x.ru.body.args.length d3] := by rw [← hv1, ← hv2, ← hv3]; rfl
    have HV1 := Lib.hid hv1
    have HV2 := Lib.hid hv2
    have HV3 := Lib.hid hv3
    have HV := Lib.hid hv
    dsimp only
    rw [hv]
    clear hI hFp hFr hK hv hv1 hv2 hv3
    gi_wp2
    obtain ⟨q1, q2, q3⟩ := ruled_new (mapi_foot (w.heap.size + 1 + 1) (w.heap.size + 1) 60 StrK rname Rt.val) (tm := (fun nb x => #[.agg #[.slice A m c], .pointer (some ⟨w.heap.size, 0, none⟩), .map none, .pointer (some ⟨w.heap.size + 1 + 1, 0, none⟩), undef, .pointer (some ⟨nb, 0, none⟩), .pointer (some ⟨w.heap.size, 0, none⟩), .slice A m c, .int .i64 (m : Int), .map (some (w.heap.size + 1)), .pointer (some ⟨w.heap.size, 0, none⟩), .slice A m c, .func (.func 92) #[] #[.pointer (some ⟨w.heap.size + 1 + 1 + 1, 0, none⟩)], .int .i64 (x.1.1 : Int), x.val, undef, undef, undef, undef, undef])) HI.out (fun k hk => (HFP.out k hk).2) HV1.out HV2.out HV3.out rfl
    refine HKX.out _ _ _ q1 q2 ?_
    exact (by simpa only [HV.out] using q3)
  case body =>
    rintro l2 pre x _ Fp X ⟨nb, _, rfl, hnx, hnb, ⟨rfl, hne, hB, M, hmi, hKM, hFs⟩, rfl⟩ hFp hFr hlen
    have hn3 : 1 ≤ n - 1 - 1 := by omega
    have hn0 : X.cell? ⟨nb, 0, none⟩ = some (.string x.1.2.1.name) := by simp [World.cell?, hnx]
    have hn1 : X.cell? ⟨nb, 1, none⟩ = some (.string x.1.2.1.con) := by simp [World.cell?, hnx]
    have hn2 : X.cell? ⟨nb, 2, none⟩ = some (x.1.2.2.1) := by simp [World.cell?, hnx]
    have hn3 : X.cell? ⟨nb, 3, none⟩ = some (x.1.2.2.2.1) := by simp [World.cell?, hnx]
    have hn4 : X.cell? ⟨nb, 4, none⟩ = some (.int .i64 x.1.2.1.body.kind) := by simp [World.cell?, hnx]
    have hn5 : X.cell? ⟨nb, 5, none⟩ = some (.string x.1.2.1.body.name) := by simp [World.cell?, hnx]
    have hn6 : X.cell? ⟨nb, 6, none⟩ = some (x.1.2.2.2.2.1) := by simp [World.cell?, hnx]
    have hc := hB.cell
    have HB := Lib.hid hB
    have HMI := Lib.hid hmi
    have HKM := Lib.hid hKM
    have HFS := Lib.hid hFs
    have HNE := Lib.hid hne
    clear hB hmi hKM hFs hne hnx hFp hFr hnb
    gi_wp2_with (gi_at_mapUpdate; refine asc_put_in _ rfl _ _ _ 60 rfl 9 34 Tryz.underlying60 StrK (strT X) (w.heap.size + 1) M rfl HMI.out _ _ rfl rfl ⟨_, rfl⟩ HKM.out ?_; intro W5 L2 hmi5 hput5 hgr5; have HM5 := Lib.hid hmi5; have HP5 := Lib.hid hput5; have HG5 := Lib.hid hgr5; clear hmi5 hput5 hgr5)
    exact map_step HNE.out HB.out HMI.out HKM.out HFS.out ⟨_, rfl⟩ HM5.out HP5.out HG5.out
  case done =>
    rintro D ks Fp X hD hDF hFl hS ⟨rfl, hne, hB, M, hmi, hKM, hFs⟩ hFr hK
    have hc := hB.cell
    have HMI := Lib.hid hmi
    have HKM := Lib.hid hKM
    have HFS := Lib.hid hFs
    have HS := Lib.hid (show ks.reverse.map Rt.pair = numd 0 l by rw [List.map_reverse, hS, List.reverse_reverse])
    have HK := Lib.hid hK
    have HFR := Lib.hid hFr
    clear hB hmi hKM hFs hne hK hFr hS hFl hDF
    gi_wp2
    refine ⟨by simp, .inl ⟨_, _, rfl, run_takeDeferred HK.out, ?_⟩⟩
    refine ⟨_, results_tmp rfl _ _ _, w.heap.size + 1, M, ks.reverse, rfl, HMI.out.on (World.putObj_heap_other (by omega)), HKM.out, HS.out, HFS.out, by omega, ?_⟩
    exact (HX.out.2.1.trans (HFR.out.below (by simp; omega) (by omega))).trans ((Fr.put (S := [D]) X _ _ (by simp)).below (by simp; omega) (by have := HFR.out.size; omega))
  case stop =>
    rintro D c pre Fp X _ _ _ _ h _ _
    exact h.elim
end Go.Proofs.YtmndlhbgacgnlaaGreat

namespace Go.Proofs.YtmndlhbgacgnlaaGreat
open Go Go.RowKit Go.Shelf

theorem idx_first {wo : World} {key : Rt wo → Value} {q : Ru → Bool} {K : Value} (hq : ∀ x : Rt wo, key x = K ↔ q x.ru = true) : ∀ (xs : List (Rt wo)) (k : Nat) (l : List Ru), xs.map Rt.pair = numd k l →
    (∀ p, FirstAt key xs K p → ruIdx q k l = (p.num : Int) ∧ l.find? q = some p.ru) ∧ ((∀ p ∈ xs, key p ≠ K) → ruIdx q k l = -1 ∧ l.find? q = none) := by
  intro xs
  induction xs with
  | nil =>
    intro k l h
    cases l with
    | nil => exact ⟨fun p ⟨A, B, h, _⟩ => by simp at h, fun _ => ⟨rfl, rfl⟩⟩
    | cons r t => simp [numd] at h
  | cons x t ih =>
    intro k l h
    cases l with
    | nil => simp [numd] at h
    | cons r s =>
      rw [List.map_cons, numd, List.cons.injEq, Rt.pair, Prod.mk.injEq] at h
      obtain ⟨⟨hn, hr⟩, ht⟩ := h
      obtain ⟨h1, h2⟩ := ih (k + 1) s ht
      refine ⟨fun p hp => ?_, fun hp => ?_⟩
      · rcases firstAt_cons.1 hp with ⟨e, rfl⟩ | ⟨e, hf⟩
        · have := (hq p).1 e
          rw [hr] at this
          rw [ruIdx, this, List.find?_cons, this]
          simp [hn, hr]
        · have : q r = false := by
            rw [← hr, Bool.eq_false_iff]
            exact fun hh => e ((hq x).2 hh)
          rw [ruIdx, this, List.find?_cons, this]
          simpa using h1 p hf
      · have : q r = false := by
          rw [← hr, Bool.eq_false_iff]
          exact fun hh => hp x (by simp) ((hq x).2 hh)
        rw [ruIdx, this, List.find?_cons, this]
        simpa using h2 (fun p hp2 => hp p (by simp [hp2]))
theorem rkey_named {wo : World} (s t : ByteArray) (x : Rt wo) : rkey x = .agg #[.string s, .string t] ↔ namedC s t x.ru = true := by
  simp [rkey, namedC]
theorem rname_named {wo : World} (s : ByteArray) (x : Rt wo) : rname x = .string s ↔ named s x.ru = true := by
  simp [rname, named]

theorem own_nums (l : List Ru) (v : Value) (bs : List Nat) (w : World) (hv : PrIs w v l bs) (hb : l.length ≤ 1099511627776) : Calls Tryz.prog 31 #[v] w (MapPost l TwoK rkey rnum w) :=
  callsIn_wide.1 (nums_in Fence.wide 9 rfl rfl (fun _ => trivial) (Nat.le_refl _) l v bs w hv hb)
theorem own_first (l : List Ru) (v : Value) (bs : List Nat) (w : World) (hv : PrIs w v l bs) (hb : l.length ≤ 1099511627776) : Calls Tryz.prog 35 #[v] w (MapPost l StrK rname Rt.val w) :=
  callsIn_wide.1 (first_in Fence.wide 9 rfl rfl (fun _ => trivial) (Nat.le_refl _) l v bs w hv hb)
theorem numd_le : ∀ (l : List Ru) (k : Nat), ∀ p ∈ numd k l, p.1 < k + l.length := by
  intro l
  induction l with
  | nil => intro k p hp; cases hp
  | cons r t ih =>
    intro k p hp
    rw [numd] at hp
    rcases List.mem_cons.1 hp with rfl | hp
    · simp
    · have := ih (k + 1) p hp
      rw [List.length_cons]; omega

theorem zeroNum (w : World) : (zeroValue 3).run Tryz.prog w = .ok (.int .i64 0) w := by kernel_rfl
theorem zeroRule (w : World) : (zeroValue 34).run Tryz.prog w = .ok (.agg #[.string ⟨#[]⟩, .string ⟨#[]⟩, .slice none 0 0, .slice none 0 0, .int .i64 0, .string ⟨#[]⟩, .slice none 0 0]) w := by kernel_rfl

set_option maxHeartbeats 1000000 in
theorem own_find (l : List Ru) (s t : ByteArray) (v : Value) (bs : List Nat) (w : World) (hv : PrIs w v l bs) (hb : l.length ≤ 1099511627776) :
    Calls Tryz.prog 9 #[v, .string s, .string t] w (RetPost (.int .i64 (findR l s t)) w) := by
  obtain ⟨u, rfl, hu⟩ := id hv
  obtain ⟨A, c, rfl, hc1, hc2, -⟩ := id hu
  have hb0 : Below w.heap.size w (w.alloc (.cells #[.slice A l.length c] 26)) := (Below.refl _ w).alloc (Nat.le_refl _) _
  have HC := Lib.hid (own_nums l _ bs _ (hv.below hb0) hb)
  have HB0 := Lib.hid hb0
  have HLB := Lib.hid hb
  generalize hq : l.length = q at *
  clear hu hv hb0 hq
  go_enter Tryz.func9, Tryz.ntmps9
  go_wp2_with fail
  go_at_call 31
  refine HC.out.mono ?_
  rintro r w1 ⟨mb, M, xs, rfl, hm, hK, hxs, hF, hlo, hb1⟩
  obtain ⟨x, has, hrun, hit⟩ := hm.look (twoT w1) Tryz.underlying58 (zeroNum w1) (key := .agg #[.string s, .string t]) ⟨s, t, rfl⟩ hK
  have hr2 := hrun true
  simp only [if_true] at hr2
  have HB1 := Lib.hid (HB0.out.trans (hb1.mono HB0.out.size))
  obtain ⟨hi1, hi2⟩ := idx_first (rkey_named s t) xs 0 l hxs
  rcases hF.hits hit with ⟨p, hp1, rfl, rfl⟩ | ⟨hp1, rfl, rfl⟩
  · have HE := Lib.hid (show findR l s t = (p.num : Int) from (hi1 p hp1).1)
    dsimp only [rnum] at hr2
    clear hrun hit hi1 hi2 hb1 hF hxs hK hm hp1
    go_wp2_with fail
    go_ret
    exact ⟨by rw [HE.out]; rfl, HB1.out⟩
  · have HE := Lib.hid (show findR l s t = -1 from (hi2 hp1).1)
    clear hrun hit hi1 hi2 hb1 hF hxs hK hm hp1
    go_wp2_with fail
    go_ret
    exact ⟨by rw [HE.out]; rfl, HB1.out⟩

/-- What kind and arity answer. -/
def kindOf (r : Ru) : Int := if r.con.size = 0 then 1 else 2
def arityOf (r : Ru) : Int := (r.params.length : Int) + (if r.con.size = 0 then 0 else 1)
set_option maxHeartbeats 1000000 in
theorem own_kind (r : Ru) (v : Value) (b : List Nat) (w : World) (hv : RuIs w v r b) : Calls Tryz.prog 37 #[v] w (RetPost (.int .i64 (kindOf r)) w) := by
  obtain ⟨v1, v2, u, b1, b2, b3, rfl, h1, h2, rfl, h3, h4, h5⟩ := hv
  obtain ⟨A1, c1, rfl, -⟩ := h3
  obtain ⟨A2, c2, rfl, -⟩ := h4
  obtain ⟨u', e3, -, A3, c3, rfl, -⟩ := h5
  simp only [Value.agg.injEq, Array.mk.injEq, List.cons.injEq, and_true, true_and] at e3
  subst e3
  by_cases hc : r.con.size = 0
  · have HE := Lib.hid (show kindOf r = 1 by unfold kindOf; rw [if_pos hc])
    have hbe := empty_yes hc
    clear hc
    go_enter Tryz.func37, Tryz.ntmps37
    go_wp2_with fail
    go_ret
    exact ⟨by rw [HE.out]; rfl, (Below.refl _ w).alloc (Nat.le_refl _) _⟩
  · have HE := Lib.hid (show kindOf r = 2 by unfold kindOf; rw [if_neg hc])
    have hbe := empty_not hc
    clear hc
    go_enter Tryz.func37, Tryz.ntmps37
    go_wp2_with fail
    go_ret
    exact ⟨by rw [HE.out]; rfl, (Below.refl _ w).alloc (Nat.le_refl _) _⟩

set_option maxHeartbeats 1000000 in
theorem own_arity (r : Ru) (v : Value) (b : List Nat) (w : World) (hv : RuIs w v r b) (hn : r.params.length ≤ 1099511627776) : Calls Tryz.prog 36 #[v] w (RetPost (.int .i64 (arityOf r)) w) := by
  have HR := Lib.hid hv
  obtain ⟨v1, v2, u, b1, b2, b3, rfl, h1, h2, rfl, h3, h4, h5⟩ := hv
  obtain ⟨A1, c1, rfl, -⟩ := h3
  obtain ⟨A2, c2, rfl, -⟩ := h4
  obtain ⟨u', e3, -, A3, c3, rfl, -⟩ := h5
  simp only [Value.agg.injEq, Array.mk.injEq, List.cons.injEq, and_true, true_and] at e3
  subst e3
  obtain ⟨W0, hW0⟩ : ∃ W0, W0 = w.alloc (.cells #[.string r.name, .string r.con, .slice A1 r.vars.length c1, .slice A2 r.params.length c2, .int .i64 r.body.kind, .string r.body.name, .slice A3 r.body.args.length c3] 34) := ⟨_, rfl⟩
  have hbx : Below w.heap.size w W0 := by rw [hW0]; exact (Below.refl _ w).alloc (Nat.le_refl _) _
  have HB0 := Lib.hid hbx
  have HC := Lib.hid (own_kind r _ _ W0 (HR.out.below hbx))
  have HBX := Lib.hid (fun (W : World) (hb : Below W0.heap.size W0 W) => show W.cell? ⟨w.heap.size, 3, none⟩ = some (.slice A2 r.params.length c2) from by
    have h9 : W.heap[w.heap.size]? = some (.cells #[.string r.name, .string r.con, .slice A1 r.vars.length c1, .slice A2 r.params.length c2, .int .i64 r.body.kind, .string r.body.name, .slice A3 r.body.args.length c3] 34 (0, 0)) := by
      rw [hW0] at hb
      exact (hb.block _ (by simp)).trans (World.alloc_heap_new w _)
    simp [World.cell?, h9])
  have hpl : (r.params.length : Int) ≤ 1099511627776 := by omega
  generalize hq : r.params.length = q at *
  by_cases hc : r.con.size = 0
  · have HE := Lib.hid (show arityOf r = (q : Int) by unfold arityOf; rw [if_pos hc, hq]; omega)
    have HK := Lib.hid (show kindOf r = 1 by unfold kindOf; rw [if_pos hc])
    clear hc h1 h2
    go_enter Tryz.func36, Tryz.ntmps36
    go_wp2_with (rw [← hW0]; go_at_call 37; refine HC.out.mono ?_; rintro e w1 ⟨rfl, hb1⟩; have hcl := HBX.out w1 hb1; have HB1 := Lib.hid (HB0.out.trans (hb1.mono HB0.out.size)); clear hb1; rw [HK.out])
    go_ret
    exact ⟨by rw [HE.out]; rfl, HB1.out⟩
  · have HE := Lib.hid (show arityOf r = (q : Int) + 1 by unfold arityOf; rw [if_neg hc, hq])
    have HK := Lib.hid (show kindOf r = 2 by unfold kindOf; rw [if_neg hc])
    clear hc h1 h2
    go_enter Tryz.func36, Tryz.ntmps36
    go_wp2_with (rw [← hW0]; go_at_call 37; refine HC.out.mono ?_; rintro e w1 ⟨rfl, hb1⟩; have hcl := HBX.out w1 hb1; have HB1 := Lib.hid (HB0.out.trans (hb1.mono HB0.out.size)); clear hb1; rw [HK.out])
    go_ret
    exact ⟨by rw [HE.out]; rfl, HB1.out⟩

theorem kind_find {l : List Ru} {s : ByteArray} {r : Ru} (h : l.find? (named s) = some r) : kindR l s = kindOf r := by unfold kindR; rw [h]; rfl
theorem arity_find {l : List Ru} {s : ByteArray} {r : Ru} (h : l.find? (named s) = some r) : arityR l s = arityOf r := by unfold arityR; rw [h]; rfl

set_option maxHeartbeats 1000000 in
theorem own_fkind (l : List Ru) (s : ByteArray) (v : Value) (bs : List Nat) (w : World) (hv : PrIs w v l bs) (hb : l.length ≤ 1099511627776) :
    Calls Tryz.prog 11 #[v, .string s] w (RetPost (.int .i64 (kindR l s)) w) := by
  obtain ⟨u, rfl, hu⟩ := id hv
  obtain ⟨A, c, rfl, hc1, hc2, -⟩ := id hu
  have hb0 : Below w.heap.size w (w.alloc (.cells #[.slice A l.length c] 26)) := (Below.refl _ w).alloc (Nat.le_refl _) _
  have HC := Lib.hid (own_first l _ bs _ (hv.below hb0) hb)
  have HB0 := Lib.hid hb0
  have HUU := Lib.hid hu
  generalize hq : l.length = q at *
  clear hu hv hb0 hq
  go_enter Tryz.func11, Tryz.ntmps11
  go_wp2_with fail
  go_at_call 35
  refine HC.out.mono ?_
  rintro r w1 ⟨mb, M, xs, rfl, hm, hK, hxs, hF, hlo, hb1⟩
  obtain ⟨x, has, hrun, hit⟩ := hm.look (strT w1) Tryz.underlying60 (zeroRule w1) (key := .string s) ⟨s, rfl⟩ hK
  have hr2 := hrun true
  simp only [if_true] at hr2
  have HB1 := Lib.hid (HB0.out.trans (hb1.mono HB0.out.size))
  obtain ⟨hi1, hi2⟩ := idx_first (rname_named s) xs 0 l hxs
  rcases hF.hits hit with ⟨p, hp1, rfl, rfl⟩ | ⟨hp1, rfl, rfl⟩
  · have HE := Lib.hid (show kindR l s = kindOf p.ru from kind_find (hi1 p hp1).2)
    have hsl := p.slices
    obtain ⟨A1, d1, A2, d2, A3, d3, hv1, hv2, hv3, -⟩ := hsl
    have hv : p.val = .agg #[.string p.ru.name, .string p.ru.con, .slice A1 p.ru.vars.length d1, .slice A2 p.ru.params.length d2, .int .i64 p.ru.body.kind, .string p.ru.body.name, .slice A3 p.ru.body.args.length d3] := by rw [← hv1, ← hv2, ← hv3]; rfl
    have hRI : RuIs (w.alloc (.cells #[.slice A q c] 26)) p.val p.ru p.1.2.2.2.2.2 := p.2
    dsimp only at hr2
    rw [hv] at hr2 hRI
    obtain ⟨W0, hW0⟩ : ∃ W0, W0 = w1.alloc (.cells #[.string p.ru.name, .string p.ru.con, .slice A1 p.ru.vars.length d1, .slice A2 p.ru.params.length d2, .int .i64 p.ru.body.kind, .string p.ru.body.name, .slice A3 p.ru.body.args.length d3] 34) := ⟨_, rfl⟩
    have hbx : Below w1.heap.size w1 W0 := by rw [hW0]; exact (Below.refl _ w1).alloc (Nat.le_refl _) _
    have HCK := Lib.hid (own_kind p.ru _ _ W0 ((hRI.below hb1).below hbx))
    have HBX := Lib.hid hbx
    clear hrun hit hi1 hi2 hb1 hF hxs hK hm hp1 hv hv1 hv2 hv3 hRI hbx
    go_wp2_with (rw [← hW0]; go_at_call 37; refine HCK.out.mono ?_; rintro e w2 ⟨rfl, hb2⟩; have HB2 := Lib.hid (HB1.out.trans ((HBX.out.trans (hb2.mono HBX.out.size)).mono HB1.out.size)); clear hb2)
    go_ret
    exact ⟨by rw [HE.out]; rfl, HB2.out⟩
  · have HE := Lib.hid (show kindR l s = 0 by unfold kindR; rw [(hi2 hp1).2])
    clear hrun hit hi1 hi2 hb1 hF hxs hK hm hp1
    go_wp2_with fail
    go_ret
    exact ⟨by rw [HE.out]; rfl, HB1.out.alloc HB1.out.size _⟩
set_option maxHeartbeats 1000000 in
theorem own_farity (l : List Ru) (s : ByteArray) (v : Value) (bs : List Nat) (w : World) (hv : PrIs w v l bs) (hb : l.length ≤ 1099511627776) (hp : ∀ r ∈ l, r.params.length ≤ 1099511627776) :
    Calls Tryz.prog 10 #[v, .string s] w (RetPost (.int .i64 (arityR l s)) w) := by
  obtain ⟨u, rfl, hu⟩ := id hv
  obtain ⟨A, c, rfl, hc1, hc2, -⟩ := id hu
  have hb0 : Below w.heap.size w (w.alloc (.cells #[.slice A l.length c] 26)) := (Below.refl _ w).alloc (Nat.le_refl _) _
  have HC := Lib.hid (own_first l _ bs _ (hv.below hb0) hb)
  have HB0 := Lib.hid hb0
  have HUU := Lib.hid hu
  generalize hq : l.length = q at *
  clear hu hv hb0 hq
  go_enter Tryz.func10, Tryz.ntmps10
  go_wp2_with fail
  go_at_call 35
  refine HC.out.mono ?_
  rintro r w1 ⟨mb, M, xs, rfl, hm, hK, hxs, hF, hlo, hb1⟩
  obtain ⟨x, has, hrun, hit⟩ := hm.look (strT w1) Tryz.underlying60 (zeroRule w1) (key := .string s) ⟨s, rfl⟩ hK
  have hr2 := hrun true
  simp only [if_true] at hr2
  have HB1 := Lib.hid (HB0.out.trans (hb1.mono HB0.out.size))
  obtain ⟨hi1, hi2⟩ := idx_first (rname_named s) xs 0 l hxs
  rcases hF.hits hit with ⟨p, hp1, rfl, rfl⟩ | ⟨hp1, rfl, rfl⟩
  · have HE := Lib.hid (show arityR l s = arityOf p.ru from arity_find (hi1 p hp1).2)
    have hsl := p.slices
    obtain ⟨A1, d1, A2, d2, A3, d3, hv1, hv2, hv3, -⟩ := hsl
    have hv : p.val = .agg #[.string p.ru.name, .string p.ru.con, .slice A1 p.ru.vars.length d1, .slice A2 p.ru.params.length d2, .int .i64 p.ru.body.kind, .string p.ru.body.name, .slice A3 p.ru.body.args.length d3] := by rw [← hv1, ← hv2, ← hv3]; rfl
    have hRI : RuIs (w.alloc (.cells #[.slice A q c] 26)) p.val p.ru p.1.2.2.2.2.2 := p.2
    dsimp only at hr2
    rw [hv] at hr2 hRI
    obtain ⟨W0, hW0⟩ : ∃ W0, W0 = w1.alloc (.cells #[.string p.ru.name, .string p.ru.con, .slice A1 p.ru.vars.length d1, .slice A2 p.ru.params.length d2, .int .i64 p.ru.body.kind, .string p.ru.body.name, .slice A3 p.ru.body.args.length d3] 34) := ⟨_, rfl⟩
    have hbx : Below w1.heap.size w1 W0 := by rw [hW0]; exact (Below.refl _ w1).alloc (Nat.le_refl _) _
    have HCK := Lib.hid (own_arity p.ru _ _ W0 ((hRI.below hb1).below hbx) (hp _ (List.mem_of_find?_eq_some (hi1 p hp1).2)))
    have HBX := Lib.hid hbx
    clear hrun hit hi1 hi2 hb1 hF hxs hK hm hp1 hv hv1 hv2 hv3 hRI hbx
    go_wp2_with (rw [← hW0]; go_at_call 36; refine HCK.out.mono ?_; rintro e w2 ⟨rfl, hb2⟩; have HB2 := Lib.hid (HB1.out.trans ((HBX.out.trans (hb2.mono HBX.out.size)).mono HB1.out.size)); clear hb2)
    go_ret
    exact ⟨by rw [HE.out]; rfl, HB2.out⟩
  · have HE := Lib.hid (show arityR l s = -1 by unfold arityR; rw [(hi2 hp1).2])
    clear hrun hit hi1 hi2 hb1 hF hxs hK hm hp1
    go_wp2_with fail
    go_ret
    exact ⟨by rw [HE.out]; rfl, HB1.out.alloc HB1.out.size _⟩
end Go.Proofs.YtmndlhbgacgnlaaGreat
