/- The contract of the library's slices.Backward over a slice of expressions, for every round that keeps what lay below. No condition. -/
import Derived.Test.YtegigjnlecpplaaFrame
import Derived.Test.YtegigjnlecpplaaEx
import Derived.Shelf.Abstract
import Derived.WalkKit
import Derived.OwnWalkIn
import Derived.TacticsInMore
import Derived.LoopNIn
import Derived.LoopIn
import Derived.Shelf.RegionOpen
namespace Go.Proofs.Ytegigjnlecpplaa
open Go Go.RowKit Go.Shelf
attribute [local go_sem] Oper.semAt_some

/-- What a range over a slice of expressions hands out: the index, the expression, its value, its blocks. -/
abbrev It (wo : World) : Type := { x : Nat × Ex × Value × List Nat // ExIs wo (.agg #[.int .i64 x.2.1.kind, .string x.2.1.name, x.2.2.1]) x.2.1 x.2.2.2 }
def It.ex {wo : World} (x : It wo) : Ex := x.1.2.1
def It.val {wo : World} (x : It wo) : Value := .agg #[.int .i64 x.1.2.1.kind, .string x.1.2.1.name, x.1.2.2.1]

/-- The blocks of all of xs are among bs. -/
def SubB {wo : World} (bs : List Nat) (xs : List (It wo)) : Prop := ∀ x ∈ xs, ∀ z ∈ x.1.2.2.2, z ∈ bs
theorem map_push {wo : World} (L : List Ex) (k : Nat) (pre : List (It wo)) (x : It wo) (h : pre.map It.ex = (L.drop (k + 1)).reverse) (hx : L[k]? = some x.ex) : (pre ++ [x]).map It.ex = (L.drop k).reverse := by
  have hk : k < L.length := (List.getElem?_eq_some_iff.1 hx).1
  have he : L[k] = x.ex := (List.getElem?_eq_some_iff.1 hx).2
  rw [List.drop_eq_getElem_cons hk, List.reverse_cons, List.map_append, h, he]
  rfl

set_option maxRecDepth 100000 in
set_option maxHeartbeats 2000000 in
theorem back_in (F : Fence) (n : Nat) (hF : F.fn 96) (hro : F.round = none) (hn : 1 ≤ n) (l Bs : Nat) (wo : World) (A : Option Addr) (m c : Nat) (L : List Ex) (bs : List Nat) (hsl : SlIs wo (.slice A m c) L bs)
    (J Jx : List (It wo) → List Nat → World → Prop)
    (hY : ∀ pre x M W1, J pre M W1 → (∀ k ∈ M, k < W1.heap.size) → pre.length < L.length → YieldAt F (n - 1) Try.prog l #[.int .i64 (x.1.1 : Int), x.val] W1 fun e W2 =>
      (e = .returned (.bool true) ∧ J (pre ++ [x]) M W2 ∧ Kept wo.heap.size M W1 W2) ∨ (e = .returned (.bool false) ∧ Jx (pre ++ [x]) M W2 ∧ Kept wo.heap.size M W1 W2))
    (W : World) (hBs : W.cell? ⟨Bs, 0, none⟩ = some (.slice A m c)) (hW : Below wo.heap.size wo W) (h0 : J [] [Bs] W) :
    CallsIn F n Try.prog 96 #[.func (.yield l) #[] #[], .pointer (some ⟨Bs, 0, none⟩)] W fun e W2 => (∃ v, e = .returned v) ∧
      ((∃ (xs : List (It wo)) (M : List Nat), (xs.map It.ex = L.reverse ∧ SubB bs xs) ∧ J xs M W2) ∨ (∃ (pre : List (It wo)) (M : List Nat), True ∧ Jx pre M W2)) := by
  obtain ⟨hm, hmc, hc⟩ := hsl.len
  have hm3 : (m : Int) ≤ 9223372036854775807 := by omega
  have HS := Lib.hid hsl
  have HM := Lib.hid hm
  have HY := Lib.hid hY
  have HW := Lib.hid hW
  clear hsl hm hY hW
  refine callsIn_of_wp Try.func96 rfl hF ?_ hro
  simp only [Try.ntmps96, List.size_toArray, List.length_cons, List.length_nil, Nat.reduceAdd, Nat.reduceSub, Array.replicate_succ, Array.replicate_zero, List.push_toArray, List.append_toArray, List.nil_append, List.cons_append]
  gi_wp2
  gi_loopw [3] (fun i wr => ∃ (z : Int), i = .int .i64 z ∧ -1 ≤ z ∧ z < m ∧ Hid (∃ (k : Nat) (pre : List (It wo)), z = (k : Int) - 1 ∧ J pre [Bs] wr ∧ pre.map It.ex = (L.drop k).reverse ∧ SubB bs pre) ∧ wr.cell? ⟨Bs, 0, none⟩ = some (.slice A m c) ∧ Hid (Below wo.heap.size wo wr))
    (fun i _ => (intOf i + 1).toNat)
  case atStart =>
    exact ⟨(m : Int) - 1, rfl, by omega, by omega, Lib.hid ⟨m, [], rfl, h0, by rw [HM.out]; simp, (fun x hx => by cases hx)⟩, hBs, HW⟩
  case round =>
    obtain ⟨z, rfl, hz0, hz1, HJ, hbx, HB⟩ := hrel
    by_cases hlt : 0 ≤ z
    · obtain ⟨k1, pre, hk, hJs, hpre, hsub⟩ := HJ.out
      obtain ⟨k, rfl⟩ : ∃ k, k1 = k + 1 := ⟨k1 - 1, by omega⟩
      obtain rfl : z = (k : Int) := by omega
      have hsw : SlIs wr (.slice A m c) L bs := HS.out.below HB.out
      obtain ⟨g, o, e1, u, b1, rfl, hbl, hget, hmem, c1, c2, c3, -, -⟩ := hsw.get k (by rw [← HM.out]; omega)
      obtain ⟨g', o', e1', u', b1', hA', hbl', hget', hmem', c1', c2', c3', his, hsb⟩ := HS.out.get k (by rw [← HM.out]; omega)
      obtain ⟨rfl, rfl⟩ : g = g' ∧ o = o' := by cases hA'; exact ⟨rfl, rfl⟩
      obtain rfl : e1 = e1' := by rw [hget] at hget'; cases hget'; rfl
      obtain rfl : u = u' := by
        have h := HB.out.cell (p := ⟨g, o + k * 3 + 2, none⟩) hbl'
        rw [c3, c3'] at h
        cases h; rfl
      clear c1' c2' c3' hget' hmem' hA' hbl'
      have hlen : pre.length < L.length := by
        have h : (pre.map It.ex).length = (L.drop (k + 1)).reverse.length := by rw [hpre]
        simp at h
        have h2 := (List.getElem?_eq_some_iff.1 hget).1
        omega
      obtain ⟨fn, tmps, assign, body, hy, hR⟩ := HY.out pre ⟨(k, e1, u, b1'), his⟩ [Bs] wr hJs (by
        intro k hk
        rw [List.mem_singleton] at hk
        subst hk
        obtain ⟨o, ho, -⟩ := cells_of_cell hbx
        exact (Array.getElem?_eq_some_iff.1 ho).1) hlen
      dsimp only [It.val] at hy
      have HPX := Lib.hid (map_push L k pre ⟨(k, e1, u, b1'), his⟩ hpre hget)
      have HSB := Lib.hid (show SubB bs (pre ++ [(⟨(k, e1, u, b1'), his⟩ : It wo)]) from fun x hx => by
        rcases List.mem_append.1 hx with hx | hx
        · exact hsub x hx
        · rw [List.mem_singleton] at hx; subst hx; exact hsb)
      have HR := Lib.hid hR
      clear hR hJs hpre hget hmem hsw hk HJ hsub hsb
      gi_wp2
      refine HR.out.mono ?_
      rintro e W3 (⟨rfl, hJ3, hk3, hkm3⟩ | ⟨rfl, hJx3, -⟩)
      · have HJ3 := Lib.hid hJ3
        have HB3 := Lib.hid (HB.out.trans hk3)
        have hbx3 : W3.cell? ⟨Bs, 0, none⟩ = some (.slice (some ⟨g, o, none⟩) m c) := (World.cell?_of_block (w := wr) (hkm3 Bs (by simp))).trans hbx
        clear hJ3 hk3 hkm3
        gi_wp2
        go_roundw
        case rel => exact ⟨(k : Int) - 1, by first | rfl | go_num, by omega, by omega, Lib.hid ⟨k, _, rfl, HJ3.out, HPX.out, HSB.out⟩, hbx3, HB3⟩
        case measure => first | (simp [intOf]; done) | (simp [intOf]; omega)
      · have HJ3 := Lib.hid hJx3
        clear hJx3
        gi_wp2
        refine bodyPost_ret (results_none rfl _ _ _) rfl ?_
        exact ⟨⟨_, rfl⟩, .inr ⟨_, _, trivial, HJ3.out⟩⟩
    · obtain rfl : z = -1 := by omega
      gi_wp2
      go_end0
      obtain ⟨k1, pre, hk, hJs, hpre, hsub⟩ := HJ.out
      obtain rfl : k1 = 0 := by omega
      exact ⟨⟨_, rfl⟩, .inl ⟨pre, ⟨by simpa using hpre, hsub⟩, _, hJs⟩⟩

set_option maxHeartbeats 1000000 in
theorem backward_in (F : Fence) (n : Nat) (hF : F.fn 89) (hro : F.round = none) (A : Option Addr) (m c : Nat) (w : World) :
    CallsIn F n Try.prog 89 #[.slice A m c] w fun e w2 => e = .returned (.func (.func 96) #[] #[.pointer (some ⟨w.heap.size, 0, none⟩)]) ∧ w2 = w.alloc (.cells #[.slice A m c] 24) := by
  refine callsIn_of_wp Try.func89 rfl hF ?_ hro
  simp only [Try.ntmps89, List.size_toArray, List.length_cons, List.length_nil, Nat.reduceAdd, Nat.reduceSub, Array.replicate_succ, Array.replicate_zero, List.push_toArray, List.append_toArray, List.nil_append, List.cons_append]
  gi_wp2
  go_ret
  exact ⟨rfl, rfl⟩
end Go.Proofs.Ytegigjnlecpplaa
