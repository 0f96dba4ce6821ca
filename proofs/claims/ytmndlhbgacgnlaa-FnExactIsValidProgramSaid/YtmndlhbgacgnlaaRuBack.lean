/- The contract of the library's slices.Backward over a slice of rules, for every round that keeps what lay below. No condition. -/
import Derived.Test.YtmndlhbgacgnlaaFrame
import Derived.Test.YtmndlhbgacgnlaaRu
import Derived.Shelf.Abstract
import Derived.WalkKit
import Derived.OwnWalkIn
import Derived.TacticsInMore
import Derived.LoopNIn
import Derived.LoopIn
import Derived.Shelf.RegionOpen
namespace Go.Proofs.Ytmndlhbgacgnlaa
open Go Go.RowKit Go.Shelf
attribute [local go_sem] Oper.semAt_some

/-- What a range over a slice of rules hands out: the index, the rule, three of its values, its blocks. -/
abbrev Rt (wo : World) : Type := { x : Nat × Ru × Value × Value × Value × List Nat // RuIs wo (.agg #[.string x.2.1.name, .string x.2.1.con, x.2.2.1, x.2.2.2.1, .int .i64 x.2.1.body.kind, .string x.2.1.body.name, x.2.2.2.2.1]) x.2.1 x.2.2.2.2.2 }
def Rt.num {wo : World} (x : Rt wo) : Nat := x.1.1
def Rt.ru {wo : World} (x : Rt wo) : Ru := x.1.2.1
def Rt.val {wo : World} (x : Rt wo) : Value := .agg #[.string x.1.2.1.name, .string x.1.2.1.con, x.1.2.2.1, x.1.2.2.2.1, .int .i64 x.1.2.1.body.kind, .string x.1.2.1.body.name, x.1.2.2.2.2.1]
/-- The rules with their numbers, from k on. -/
def numd : Nat → List Ru → List (Nat × Ru)
  | _, [] => []
  | k, r :: l => (k, r) :: numd (k + 1) l
theorem numd_get : ∀ (l : List Ru) (k j : Nat) (r : Ru), l[j]? = some r → (numd k l)[j]? = some (k + j, r) := by
  intro l
  induction l with
  | nil => intro k j r h; simp at h
  | cons x t ih =>
    intro k j r h
    cases j with
    | zero => simp at h; rw [h]; rfl
    | succ j => rw [numd, List.getElem?_cons_succ, ih (k + 1) j r (by simpa using h)]; congr 2; omega
theorem numd_len : ∀ (l : List Ru) (k : Nat), (numd k l).length = l.length := by
  intro l
  induction l with
  | nil => intro k; rfl
  | cons x t ih => intro k; rw [numd, List.length_cons, List.length_cons, ih]
def Rt.pair {wo : World} (x : Rt wo) : Nat × Ru := (x.num, x.ru)
theorem rmap_push {wo : World} (L : List Ru) (k : Nat) (pre : List (Rt wo)) (x : Rt wo) (h : pre.map Rt.pair = ((numd 0 L).drop (k + 1)).reverse) (hx : L[k]? = some x.ru) (hk : x.num = k) : (pre ++ [x]).map Rt.pair = ((numd 0 L).drop k).reverse := by
  have hg := numd_get L 0 k x.ru hx
  have hl : k < (numd 0 L).length := (List.getElem?_eq_some_iff.1 hg).1
  rw [List.drop_eq_getElem_cons hl, List.reverse_cons, List.map_append, h, (List.getElem?_eq_some_iff.1 hg).2, List.map_cons, List.map_nil, Rt.pair, hk, Nat.zero_add]

set_option maxRecDepth 100000 in
set_option maxHeartbeats 2000000 in
theorem rback_in (F : Fence) (n : Nat) (hF : F.fn 164) (hro : F.round = none) (hn : 1 ≤ n) (l Bs : Nat) (wo : World) (A : Option Addr) (m c : Nat) (L : List Ru) (bs : List Nat) (hsl : RsIs wo (.slice A m c) L bs)
    (J Jx : List (Rt wo) → List Nat → World → Prop)
    (hY : ∀ pre x M W1, J pre M W1 → (∀ k ∈ M, k < W1.heap.size) → pre.length < L.length → YieldAt F (n - 1) Try.prog l #[.int .i64 (x.1.1 : Int), x.val] W1 fun e W2 =>
      (e = .returned (.bool true) ∧ J (pre ++ [x]) M W2 ∧ Kept wo.heap.size M W1 W2) ∨ (e = .returned (.bool false) ∧ Jx (pre ++ [x]) M W2 ∧ Kept wo.heap.size M W1 W2))
    (W : World) (hBs : W.cell? ⟨Bs, 0, none⟩ = some (.slice A m c)) (hW : Below wo.heap.size wo W) (h0 : J [] [Bs] W) :
    CallsIn F n Try.prog 164 #[.func (.yield l) #[] #[], .pointer (some ⟨Bs, 0, none⟩)] W fun e W2 => (∃ v, e = .returned v) ∧
      ((∃ (xs : List (Rt wo)) (M : List Nat), xs.map Rt.pair = (numd 0 L).reverse ∧ J xs M W2) ∨ (∃ (pre : List (Rt wo)) (M : List Nat), True ∧ Jx pre M W2)) := by
  obtain ⟨hm, hmc, hc⟩ := hsl.len
  have hm3 : (m : Int) ≤ 9223372036854775807 := by omega
  have HS := Lib.hid hsl
  have HM := Lib.hid hm
  have HY := Lib.hid hY
  have HW := Lib.hid hW
  clear hsl hm hY hW
  refine callsIn_of_wp Try.func164 rfl hF ?_ hro
  simp only [Try.ntmps164, List.size_toArray, List.length_cons, List.length_nil, Nat.reduceAdd, Nat.reduceSub, Array.replicate_succ, Array.replicate_zero, List.push_toArray, List.append_toArray, List.nil_append, List.cons_append]
  gi_wp2
  gi_loopw [3] (fun i wr => ∃ (z : Int), i = .int .i64 z ∧ -1 ≤ z ∧ z < m ∧ Hid (∃ (k : Nat) (pre : List (Rt wo)), z = (k : Int) - 1 ∧ J pre [Bs] wr ∧ pre.map Rt.pair = ((numd 0 L).drop k).reverse) ∧ wr.cell? ⟨Bs, 0, none⟩ = some (.slice A m c) ∧ Hid (Below wo.heap.size wo wr))
    (fun i _ => (intOf i + 1).toNat)
  case atStart =>
    exact ⟨(m : Int) - 1, rfl, by omega, by omega, Lib.hid ⟨m, [], rfl, h0, by rw [HM.out, ← numd_len L 0]; simp⟩, hBs, HW⟩
  case round =>
    obtain ⟨z, rfl, hz0, hz1, HJ, hbx, HB⟩ := hrel
    by_cases hlt : 0 ≤ z
    · obtain ⟨k1, pre, hk, hJs, hpre⟩ := HJ.out
      obtain ⟨k, rfl⟩ : ∃ k, k1 = k + 1 := ⟨k1 - 1, by omega⟩
      obtain rfl : z = (k : Int) := by omega
      have hkL : k < L.length := by rw [← HM.out]; omega
      obtain ⟨g, o, e1, v1, v2, u, b1', hra⟩ := HS.out.get k hkL
      obtain ⟨rfl, hbl', hget, hmem, hcs, his⟩ := hra
      have hcw := hcs.of (w' := wr) (fun mm _ _ => HB.out.cell (p := ⟨g, mm, none⟩) hbl')
      obtain ⟨c0, c1, c2, c3, c4, c5, c6⟩ := hcw
      clear hcs
      have hlen : pre.length < L.length := by
        have h : (pre.map Rt.pair).length = ((numd 0 L).drop (k + 1)).reverse.length := by rw [hpre]
        simp [numd_len] at h
        omega
      obtain ⟨fn, tmps, assign, body, hy, hR⟩ := HY.out pre ⟨(k, e1, v1, v2, u, b1'), his⟩ [Bs] wr hJs (by
        intro k hk
        rw [List.mem_singleton] at hk
        subst hk
        obtain ⟨o, ho, -⟩ := cells_of_cell hbx
        exact (Array.getElem?_eq_some_iff.1 ho).1) hlen
      dsimp only [Rt.val] at hy
      have HPX := Lib.hid (rmap_push L k pre ⟨(k, e1, v1, v2, u, b1'), his⟩ hpre hget rfl)
      have HR := Lib.hid hR
      clear hR hJs hpre hget hmem hk HJ hkL
      gi_wp2
      refine HR.out.mono ?_
      rintro e W3 (⟨rfl, hJ3, hk3, hkm3⟩ | ⟨rfl, hJx3, -⟩)
      · have HJ3 := Lib.hid hJ3
        have HB3 := Lib.hid (HB.out.trans hk3)
        have hbx3 : W3.cell? ⟨Bs, 0, none⟩ = some (.slice (some ⟨g, o, none⟩) m c) := (World.cell?_of_block (w := wr) (hkm3 Bs (by simp))).trans hbx
        clear hJ3 hk3 hkm3
        gi_wp2
        go_roundw
        case rel => exact ⟨(k : Int) - 1, by first | rfl | go_num, by omega, by omega, Lib.hid ⟨k, _, rfl, HJ3.out, HPX.out⟩, hbx3, HB3⟩
        case measure => first | (simp [intOf]; done) | (simp [intOf]; omega)
      · have HJ3 := Lib.hid hJx3
        clear hJx3
        gi_wp2
        refine bodyPost_ret (results_none rfl _ _ _) rfl ?_
        exact ⟨⟨_, rfl⟩, .inr ⟨_, _, trivial, HJ3.out⟩⟩
    · obtain rfl : z = -1 := by omega
      gi_wp2
      go_end0
      obtain ⟨k1, pre, hk, hJs, hpre⟩ := HJ.out
      obtain rfl : k1 = 0 := by omega
      exact ⟨⟨_, rfl⟩, .inl ⟨pre, by simpa using hpre, _, hJs⟩⟩

set_option maxHeartbeats 1000000 in
theorem rbackward_in (F : Fence) (n : Nat) (hF : F.fn 139) (hro : F.round = none) (A : Option Addr) (m c : Nat) (w : World) :
    CallsIn F n Try.prog 139 #[.slice A m c] w fun e w2 => e = .returned (.func (.func 164) #[] #[.pointer (some ⟨w.heap.size, 0, none⟩)]) ∧ w2 = w.alloc (.cells #[.slice A m c] 51) := by
  refine callsIn_of_wp Try.func139 rfl hF ?_ hro
  simp only [Try.ntmps139, List.size_toArray, List.length_cons, List.length_nil, Nat.reduceAdd, Nat.reduceSub, Array.replicate_succ, Array.replicate_zero, List.push_toArray, List.append_toArray, List.nil_append, List.cons_append]
  gi_wp2
  go_ret
  exact ⟨rfl, rfl⟩
end Go.Proofs.Ytmndlhbgacgnlaa
