/- The contract of the program's own (*copying).replaced: what stands for a part of an expression. No condition. The contract of the program's own (*copying).isLarge: true only where the result has more than 2097152 nodes. Condition: fewer than 2^40 nodes in each argument. The contract of the program's own (*copying).argsFor: memory for a copy, where nothing is shared. Condition: fewer than 2^40 arguments. The contract of the program's own (*copying).copyOf: a copy in memory of its own, with the variables replaced. Condition: fewer than 2^40 nodes in the result. The contract of the program's own (*copying).copyOf: a copy in memory of its own, with the variables replaced. Condition: fewer than 2^40 nodes in the result. The contract of the library's slices.Backward over a slice of bindings, for every round that keeps what lay below. No condition. The contract of the program's own firstValues: a map that holds the first value at each name. Condition: fewer than 2^40 bindings. The contracts of the program's own ApplyBindings, copyExpr and FindBinding. Condition: a result of at most 2097152 nodes. -/
import Derived.Test.YtegigjnlecpplaaZip
import Derived.Test.YtegigjnlecpplaaFirsts
import Derived.Deep.LoopGhost
import Derived.WalkSmall
import Derived.Deep.AppendLies
import Derived.Test.YtegigjnlecpplaaOwnPlace
import Derived.Test.YtegigjnlecpplaaFrame
import Derived.Test.YtegigjnlecpplaaBi
import Derived.Shelf.Abstract
import Derived.WalkKit
import Derived.OwnWalkIn
import Derived.TacticsInMore
import Derived.LoopNIn
import Derived.LoopIn
import Derived.Shelf.RegionOpen
import Derived.Test.YtegigjnlecpplaaMgBent
namespace Go.Proofs.Ytegigjnlecpplaa
open Go Go.RowKit

/-- Only where a piece ends as R says. -/
def onlyR9 (R : Act → World → Prop) : Exit → Act → World → Prop
  | .normal, a, W => R a W
  | _, _, _ => False
/-- The orders of a piece meet again. -/
theorem cut_r9 {P : Program} {c : Code} {K : Act → World → Prop} {Q : Exit → Act → World → Prop} {a : Act} {w : World} (R : Act → World → Prop) (h : c.wp P (onlyR9 R) a w) (hK : ∀ a W, R a W → K a W) : c.wp P (Exit.then K Q) a w :=
  wpIn_wide.1 (wpIn_mono (wpIn_wide.2 h : c.wpIn Fence.wide 0 P (onlyR9 R) a w) (fun e a W hq => by
    cases e with
    | normal => exact hK a W hq
    | exit id => exact hq.elim
    | goto t => exact hq.elim
    | ret => exact hq.elim
    | panic c => exact hq.elim
    | outgrown => exact hq.elim))
/-- The values of a copy: a map from names. -/
structure ValsIs (wo : World) (M : List (Value × Value)) (f : ByteArray → Option Ex) : Prop where
  keys : ∀ x ∈ M, StrK x.1
  some_ : ∀ s v, (Value.string s, v) ∈ M → ∃ e bs u, v = .agg #[.int .i64 e.kind, .string e.name, u] ∧ f s = some e ∧ ExIs wo v e bs
  none_ : ∀ s, (∀ x ∈ M, x.1 ≠ .string s) → f s = none
theorem zeroExV (w : World) : (zeroValue 26).run Try.prog w = .ok (.agg #[.int .i64 0, .string ⟨#[]⟩, .slice none 0 0]) w := by kernel_rfl
theorem box_cells9 (w : World) (x0 x1 x2 : Value) (o : Obj) : ((w.alloc (.cells #[x0, x1, x2] 26)).alloc o).cell? ⟨w.heap.size, 0, none⟩ = some x0 ∧ ((w.alloc (.cells #[x0, x1, x2] 26)).alloc o).cell? ⟨w.heap.size, 1, none⟩ = some x1 ∧ ((w.alloc (.cells #[x0, x1, x2] 26)).alloc o).cell? ⟨w.heap.size, 2, none⟩ = some x2 := by
  have h : ((w.alloc (.cells #[x0, x1, x2] 26)).alloc o).heap[w.heap.size]? = some (.cells #[x0, x1, x2] 26 (0, 0)) := (Below.heap_alloc _ _ _ (by simp)).trans (heap_alloc_new w _)
  simp [World.cell?, h]
theorem below_tri {n : Nat} {w W : World} (h : Below n w W) {B : Nat} (hB : n ≤ B) (o : Nat) (x0 x1 x2 : Value) : Below n w (tri W B o x0 x1 x2) :=
  ⟨h.os, h.tape, h.output, by rw [tri_size]; exact h.size, fun k hk => (tri_other _ _ _ _ _ _ k (by omega)).trans (h.block k hk)⟩
/-- What replaced gives. -/
def ReplPost (wo : World) (f : ByteArray → Option Ex) (e : Ex) (b : Bool) (w : World) (r : Ending) (w2 : World) : Prop :=
  ∃ A q c bs, r = .returned (.tuple #[.agg #[.int .i64 (replE f e b).kind, .string (replE f e b).name, .slice A q c], .int .i64 (lay (replB e b))]) ∧ ExIs wo (.agg #[.int .i64 (replE f e b).kind, .string (replE f e b).name, .slice A q c]) (replE f e b) bs ∧ Below w.heap.size w w2
theorem vals_look {wo : World} {f : ByteArray → Option Ex} {mb : Nat} {M : List (Value × Value)} {W : World} (hm : MapIs W mb M) (hv : ValsIs wo M f) (s : ByteArray) :
    ∃ v has, Hits M (.string s) (.agg #[.int .i64 0, .string ⟨#[]⟩, .slice none 0 0]) v has ∧ ∀ X, Below W.heap.size W X → (Instr.lookup 71 (.map (some mb)) (.string s) true).run Try.prog X = .ok (.tuple #[v, .bool has]) X := by
  have one : ∀ X, Below W.heap.size W X → ∃ v has, Hits M (.string s) (.agg #[.int .i64 0, .string ⟨#[]⟩, .slice none 0 0]) v has ∧ (Instr.lookup 71 (.map (some mb)) (.string s) true).run Try.prog X = .ok (.tuple #[v, .bool has]) X := fun X hX => by
    obtain ⟨v, has, h1, h2⟩ := (hm.on (hX.block _ hm.lt)).look (strT X) Try.underlying71 (zeroExV X) (key := .string s) ⟨_, rfl⟩ hv.keys
    exact ⟨v, has, h2, by simpa using h1 true⟩
  obtain ⟨v, has, h1, h2⟩ := one W (Below.refl _ _)
  obtain ⟨_, _, _, _, hn⟩ := id hm
  refine ⟨v, has, h1, fun X hX => ?_⟩
  obtain ⟨v', has', h3, h4⟩ := one X hX
  obtain ⟨rfl, rfl⟩ := Hits.uniq hn h1 h3
  exact h4
set_option maxRecDepth 100000 in
set_option maxHeartbeats 4000000 in
theorem own_replaced (wo : World) (f : ByteArray → Option Ex) (cb mb : Nat) (M : List (Value × Value)) (e : Ex) (b : Bool) (A : Option Addr) (n c : Nat) (bs : List Nat) (w : World) (hx : ExIs wo (.agg #[.int .i64 e.kind, .string e.name, .slice A n c]) e bs)
    (hc : w.cell? ⟨cb, 0, none⟩ = some (.map (some mb))) (hm : MapIs w mb M) (hv : ValsIs wo M f) :
    Calls Try.prog 79 #[.pointer (some ⟨cb, 0, none⟩), .agg #[.int .i64 e.kind, .string e.name, .slice A n c], .int .i64 (lay b)] w (ReplPost wo f e b w) := by
  have HX := Lib.hid hx
  have hcl : cb < w.heap.size := World.block_lt_of_cell? w _ hc
  have HB := Lib.hid (fun (o o2 : Obj) => ((Below.refl w.heap.size w).alloc (Nat.le_refl _) o).alloc (by simp) o2)
  clear hx
  by_cases hk : e.kind = 1
  · cases b with
    | true =>
      have HE := Lib.hid (show replE f e true = e by simp [replE])
      have HL := Lib.hid (show replB e true = true by simp [replB])
      have HP := Lib.hid (show ∀ (r : Ending) (w2 : World), r = .returned (.tuple #[.agg #[.int .i64 e.kind, .string e.name, .slice A n c], .int .i64 1]) → Below w.heap.size w w2 → ReplPost wo f e true w r w2 from fun r w2 hr hb => by
        unfold ReplPost
        rw [HE.out, HL.out]
        exact ⟨A, n, c, bs, hr, HX.out, hb⟩)
      clear hm hv HE HL HX
      generalize e.kind = K at *
      generalize e.name = S at *
      subst hk
      go_enter Try.func79, Try.ntmps79
      simp only [lay]
      go_wp2_with fail
      refine bodyPost_ret (v := .tuple #[.agg #[.int .i64 1, .string S, .slice A n c], .int .i64 1]) (by simp [results, Try.results79, go_sem]) rfl ?_
      exact HP.out _ _ rfl (HB.out _ _)
    | false =>
      obtain ⟨v, has, hit, hrun⟩ := vals_look hm hv e.name
      obtain ⟨K1, S1, A1, n1, c1, rfl, hpost⟩ : ∃ K1 S1 A1 n1 c1, v = .agg #[.int .i64 K1, .string S1, .slice A1 n1 c1] ∧ ∀ (r : Ending) (w2 : World), r = .returned (.tuple #[if has then .agg #[.int .i64 K1, .string S1, .slice A1 n1 c1] else .agg #[.int .i64 e.kind, .string e.name, .slice A n c], .int .i64 1]) → Below w.heap.size w w2 → ReplPost wo f e false w r w2 := by
        have HL : replB e false = true := by simp [replB, hk]
        rcases hit with ⟨h1, rfl⟩ | ⟨h1, rfl, rfl⟩
        · obtain ⟨e1, b1, u, rfl, hf, hi⟩ := hv.some_ _ _ h1
          obtain ⟨u', e0, h2, A1, c1, e2, h3⟩ := id hi
          simp only [Value.agg.injEq, Array.mk.injEq, List.cons.injEq, and_true, true_and] at e0
          subst e0; subst e2
          have HE : replE f e false = e1 := by simp [replE, hk, hf]
          refine ⟨_, _, _, _, _, rfl, fun r w2 hr hb => ?_⟩
          unfold ReplPost
          rw [HE, HL]
          exact ⟨A1, _, c1, b1, hr, hi, hb⟩
        · have hf := hv.none_ _ h1
          have HE : replE f e false = e := by simp [replE, hk, hf]
          refine ⟨_, _, _, _, _, rfl, fun r w2 hr hb => ?_⟩
          unfold ReplPost
          rw [HE, HL]
          exact ⟨A, n, c, bs, hr, HX.out, hb⟩
      have HP := Lib.hid hpost
      clear hpost hit hv HX
      have hmlt := hm.lt
      obtain ⟨K, hK⟩ : ∃ K, K = e.kind := ⟨_, rfl⟩
      obtain ⟨S, hS⟩ : ∃ S, S = e.name := ⟨_, rfl⟩
      rw [← hK, ← hS] at HP
      rw [← hS] at hrun
      rw [← hK, ← hS]
      rw [← hK] at hk
      clear hK hS hm
      subst hk
      obtain ⟨W0, hW0⟩ : ∃ W0, W0 = (w.alloc (.cells #[.int .i64 1, .string S, .slice A n c] 26)).alloc (.cells #[.int .i64 0, .string ⟨#[]⟩, .slice none 0 0] 26) := ⟨_, rfl⟩
      have hb0 : Below w.heap.size w W0 := by rw [hW0]; exact HB.out _ _
      have HS := Lib.hid (show ∀ X, Below W0.heap.size W0 X → X.cell? ⟨cb, 0, none⟩ = some (.map (some mb)) ∧ X.cell? ⟨w.heap.size, 1, none⟩ = some (.string S) ∧ (Instr.lookup 71 (.map (some mb)) (.string S) true).run Try.prog X = .ok (.tuple #[.agg #[.int .i64 K1, .string S1, .slice A1 n1 c1], .bool has]) X from fun X hX => by
        have h1 := hb0.trans (hX.mono hb0.size)
        refine ⟨(h1.cell hcl).trans hc, (hX.cell (p := ⟨w.heap.size, 1, none⟩) (by rw [hW0]; simp; omega)).trans ?_, hrun X h1⟩
        rw [hW0]
        exact (box_cells9 w _ _ _ _).2.1)
      have HW0 := Lib.hid hW0
      have HB0 := Lib.hid hb0
      clear hrun hW0 hb0
      go_enter Try.func79, Try.ntmps79
      simp only [lay]
      go_wp2_with fail
      rw [← HW0.out]
      refine cut_r9 (fun a W => a = { tmps := #[.pointer (some ⟨cb, 0, none⟩), .agg #[.int .i64 1, .string S, .slice A n c], .int .i64 0, undef, .pointer (some ⟨w.heap.size, 0, none⟩), undef, .pointer (some ⟨w.heap.size + 1, 0, none⟩), .int .i64 0, .pointer (some ⟨W0.heap.size, 0, none⟩), .bool has, .pointer (some ⟨w.heap.size, 0, none⟩), .int .i64 1, .bool false, .bool false, .int .i64 0, .bool false, .bool false, undef, undef, .tuple #[.agg #[.int .i64 K1, .string S1, .slice A1 n1 c1], .bool has], .pointer (some ⟨cb, 0, none⟩), .pointer (some ⟨cb, 0, none⟩), .pointer (some ⟨cb, 0, none⟩), .map (some mb), .pointer (some ⟨w.heap.size, 1, none⟩), .string S, .tuple #[.agg #[.int .i64 K1, .string S1, .slice A1 n1 c1], .bool has], .agg #[.int .i64 K1, .string S1, .slice A1 n1 c1], .bool has, undef, undef, undef], defers := [] } ∧ W = (W0.alloc (.cells #[.int .i64 K1, .string S1, .slice A1 n1 c1] 26)).drew) ?_ ?_
      · go_region_held3 (fun X => X.cell? ⟨cb, 0, none⟩ = some (.map (some mb)) ∧ X.cell? ⟨w.heap.size, 1, none⟩ = some (.string S) ∧ (Instr.lookup 71 (.map (some mb)) (.string S) true).run Try.prog X = .ok (.tuple #[.agg #[.int .i64 K1, .string S1, .slice A1 n1 c1], .bool has]) X)
          (first
          | exact HS.out _ ((Below.refl _ _).drew)
          | exact HS.out _ ((Below.refl _ _).drew.alloc (Nat.le_refl _) _))
          (fail)
        all_goals exact ⟨rfl, rfl⟩
      rintro _ _ ⟨rfl, rfl⟩
      obtain ⟨Wa, hWa⟩ : ∃ W, W = (W0.alloc (.cells #[.int .i64 K1, .string S1, .slice A1 n1 c1] 26)).drew := ⟨_, rfl⟩
      rw [← hWa]
      obtain ⟨hla, hva, hea, hra⟩ : Below w.heap.size w Wa ∧ Wa.heap[W0.heap.size]? = some (.cells #[.int .i64 K1, .string S1, .slice A1 n1 c1] 26 (0, 0)) ∧ Wa.heap[w.heap.size]? = some (.cells #[.int .i64 1, .string S, .slice A n c] 26 (0, 0)) ∧ Wa.heap[w.heap.size + 1]? = some (.cells #[.int .i64 0, .string ⟨#[]⟩, .slice none 0 0] 26 (0, 0)) := by
        have hs0 : W0.heap.size = w.heap.size + 1 + 1 := by rw [HW0.out]; simp
        have b1 : Below W0.heap.size W0 Wa := by rw [hWa]; exact ((Below.refl _ _).alloc (Nat.le_refl _) _).drew
        refine ⟨HB0.out.trans (b1.mono HB0.out.size), by rw [hWa]; exact heap_alloc_new W0 _, (b1.block _ (by omega)).trans ?_, (b1.block _ (by omega)).trans ?_⟩
        · rw [HW0.out]; exact (Below.heap_alloc _ _ _ (by simp)).trans (heap_alloc_new w _)
        · rw [HW0.out]
          have := heap_alloc_new (w.alloc (.cells #[.int .i64 1, .string S, .slice A n c] 26)) (.cells #[.int .i64 0, .string ⟨#[]⟩, .slice none 0 0] 26)
          rw [World.size_alloc] at this
          exact this
      have HLA := Lib.hid hla
      have v0 : Wa.cell? ⟨W0.heap.size, 0, none⟩ = some (.int .i64 K1) := by simp [World.cell?, hva]
      have v1 : Wa.cell? ⟨W0.heap.size, 1, none⟩ = some (.string S1) := by simp [World.cell?, hva]
      have v2 : Wa.cell? ⟨W0.heap.size, 2, none⟩ = some (.slice A1 n1 c1) := by simp [World.cell?, hva]
      have e0 : Wa.cell? ⟨w.heap.size, 0, none⟩ = some (.int .i64 1) := by simp [World.cell?, hea]
      have e1 : Wa.cell? ⟨w.heap.size, 1, none⟩ = some (.string S) := by simp [World.cell?, hea]
      have e2 : Wa.cell? ⟨w.heap.size, 2, none⟩ = some (.slice A n c) := by simp [World.cell?, hea]
      have r0 : Wa.cell? ⟨w.heap.size + 1, 0, none⟩ = some (.int .i64 0) := by simp [World.cell?, hra]
      have r1 : Wa.cell? ⟨w.heap.size + 1, 1, none⟩ = some (.string ⟨#[]⟩) := by simp [World.cell?, hra]
      have r2 : Wa.cell? ⟨w.heap.size + 1, 2, none⟩ = some (.slice none 0 0) := by simp [World.cell?, hra]
      have rf : ∀ o, Wa.frozen? ⟨w.heap.size + 1, o, none⟩ = false := fun o => by simp [World.frozen?, hra]
      have rl : w.heap.size + 1 < Wa.heap.size := (Array.getElem?_eq_some_iff.1 hra).1
      clear hla hva hea hra hWa
      cases has
      · go_wp2_with fail
        refine bodyPost_ret (v := .tuple #[.agg #[.int .i64 1, .string S, .slice A n c], .int .i64 1]) (by simp [results, Try.results79, go_sem, r0, r1, r2]) rfl ?_
        exact HP.out _ _ rfl (below_tri HLA.out (Nat.le_succ _) 0 _ _ _)
      · go_wp2_with fail
        refine bodyPost_ret (v := .tuple #[.agg #[.int .i64 K1, .string S1, .slice A1 n1 c1], .int .i64 1]) (by simp [results, Try.results79, go_sem, r0, r1, r2]) rfl ?_
        exact HP.out _ _ rfl (below_tri HLA.out (Nat.le_succ _) 0 _ _ _)
  · have HE := Lib.hid (show replE f e b = e by simp [replE, hk])
    have HL := Lib.hid (show replB e b = b by simp [replB, hk])
    have HP := Lib.hid (show ∀ (r : Ending) (w2 : World), r = .returned (.tuple #[.agg #[.int .i64 e.kind, .string e.name, .slice A n c], .int .i64 (lay b)]) → Below w.heap.size w w2 → ReplPost wo f e b w r w2 from fun r w2 hr hb => by
      unfold ReplPost
      rw [HE.out, HL.out]
      exact ⟨A, n, c, bs, hr, HX.out, hb⟩)
    clear hm hv HE HL HX
    generalize e.kind = K at *
    generalize e.name = S at *
    generalize lay b = B at *
    have hk2 : (K != 1) = true := by simp [hk]
    go_enter Try.func79, Try.ntmps79
    go_wp2_with fail
    refine bodyPost_ret (v := .tuple #[.agg #[.int .i64 K, .string S, .slice A n c], .int .i64 B]) (by simp [results, Try.results79, go_sem]) rfl ?_
    exact HP.out _ _ rfl (HB.out _ _)
end Go.Proofs.Ytegigjnlecpplaa

namespace Go.Proofs.Ytegigjnlecpplaa
open Go Go.RowKit

theorem Try.infoUn : (Try.prog.info? 117).map (fun i => (i.zero, i.size, i.bytes)) = some (some (.agg #[.pointer none, .pointer none, .int .i64 0]), 3, 24) := by kernel_rfl
theorem ValsIs.below {w W : World} {M : List (Value × Value)} {f : ByteArray → Option Ex} (h : ValsIs w M f) (hb : Below w.heap.size w W) : ValsIs W M f :=
  ⟨h.keys, fun s v hs => by obtain ⟨e, bs, u, h1, h2, h3⟩ := h.some_ s v hs; exact ⟨e, bs, u, h1, h2, h3.below hb⟩, h.none_⟩
section
variable {wo : World}
def lcells (x : Un wo) : List Value := [.pointer (some x.1.adr), .pointer none, .int .i64 (lay x.2)]
def lflat (xs : List (Un wo)) : List Value := xs.flatMap lcells
theorem lflat_len (xs : List (Un wo)) : (lflat xs).length = xs.length * 3 := by
  induction xs with
  | nil => rfl
  | cons p r ih => rw [lflat, List.flatMap_cons, List.length_append, ← lflat, ih]; simp [lcells]; omega
theorem lflat_one (xs : List (Un wo)) (x : Un wo) : lflat (xs ++ [x]) = lflat xs ++ lcells x := by simp [lflat]
def lweigh (f : ByteArray → Option Ex) (xs : List (Un wo)) : Nat := exSizes (xs.map (resU f))
theorem lweigh_app (f : ByteArray → Option Ex) (a b : List (Un wo)) : lweigh f (a ++ b) = lweigh f a + lweigh f b := by
  unfold lweigh
  rw [List.map_append, exSizes_append]
theorem lweigh_one (f : ByteArray → Option Ex) (x : Un wo) : lweigh f [x] = exSize (resU f x) := by simp [lweigh, exSizes]
/-- The last three cells of a list. -/
theorem top3 {W : World} {base n co : Nat} {AO : Option Addr} {xs : List Value} {v0 v1 v2 : Value} (h : W.ownsRow base 117 3 (.slice AO (n + 1) co) (n + 1) (xs ++ [v0, v1, v2])) :
    ∃ g, AO = some ⟨g, 0, none⟩ ∧ g < W.heap.size ∧ base ≤ g ∧ n + 1 ≤ co ∧ co ≤ maxLen ∧ W.cell? ⟨g, n * 3, none⟩ = some v0 ∧ W.cell? ⟨g, n * 3 + 1, none⟩ = some v1 ∧ W.cell? ⟨g, n * 3 + 2, none⟩ = some v2 ∧ W.ownsRow base 117 3 (.slice AO n co) n xs := by
  obtain ⟨g, cap, hv, h1, h2⟩ := h.form (by omega)
  cases hv
  have hx : xs.length = n * 3 := by have := h.1; simp at this; omega
  have hc : ∀ (j : Nat) (v : Value), [v0, v1, v2][j]? = some v → W.cell? ⟨g, n * 3 + j, none⟩ = some v := by
    intro j v hj
    have hj6 : j < 3 := by have := (List.getElem?_eq_some_iff.1 hj).1; simpa using this
    rw [h.cellAt (n * 3 + j) (by omega), List.getElem?_append_right (by omega), hx, Nat.add_sub_cancel_left]
    exact hj
  refine ⟨g, rfl, h2, h1, ?_, ?_, hc 0 _ rfl, hc 1 _ rfl, hc 2 _ rfl, ownsRow_pop (by rw [hx]) h⟩
  · rcases h.2 with ⟨h0, -⟩ | ⟨g', cap', cur, hv, -, -, hn, -⟩
    · cases h0
    · cases hv; exact hn
  · rcases h.2 with ⟨h0, -⟩ | ⟨g', cap', cur, hv, -, -, -, hm, -⟩
    · cases h0
    · cases hv; exact hm
end
theorem repl_small {f : ByteArray → Option Ex} {e : Ex} {N : Nat} (he : exSize e ≤ N) (hf : ∀ s e1, f s = some e1 → exSize e1 ≤ N) (b : Bool) : exSize (replE f e b) ≤ N := by
  unfold replE
  split
  · exact he
  · cases h : f e.name with
    | none => exact he
    | some e1 => exact hf _ _ h
/-- What replaced gives, told of what stands there. -/
def ReplP (wo : World) (re : Ex) (rb : Bool) (w : World) (r : Ending) (w2 : World) : Prop :=
  ∃ A q c bs, r = .returned (.tuple #[.agg #[.int .i64 re.kind, .string re.name, .slice A q c], .int .i64 (lay rb)]) ∧ ExIs wo (.agg #[.int .i64 re.kind, .string re.name, .slice A q c]) re bs ∧ Below w.heap.size w w2
theorem tri_box9 {W : World} {B : Nat} {T : TypeId} {y0 y1 y2 : Value} (h : W.heap[B]? = some (.cells #[y0, y1, y2] T (0, 0))) (x0 x1 x2 : Value) : (tri W B 0 x0 x1 x2).heap[B]? = some (.cells #[x0, x1, x2] T (0, 0)) := by
  simp [tri, World.setCell, Array.getElem?_modify, h]
/-- The parts of one that are put on the list. -/
structure Li (wo : World) (k0 j : Nat) (AO : Option Addr) (co : Nat) (its0 : List (Un wo)) (ks : List (Pt wo)) (b : Bool) (b8 : Nat) (bx : Obj) (W : World) : Prop where
  low : Below wo.heap.size wo W
  row : W.ownsRow wo.heap.size 117 3 (.slice AO (k0 + j) co) (k0 + j) (lflat (its0 ++ (ks.take j).map (fun p => (p, b))))
  box : W.heap[b8]? = some bx
theorem lflat_take {wo : World} (its0 : List (Un wo)) (ks : List (Pt wo)) (b : Bool) (j : Nat) (k : Pt wo) (h : ks[j]? = some k) : lflat (its0 ++ (ks.take (j + 1)).map (fun p => (p, b))) = lflat (its0 ++ (ks.take j).map (fun p => (p, b))) ++ [.pointer (some k.adr), .pointer none, .int .i64 (lay b)] := by
  obtain ⟨hj, hk⟩ := List.getElem?_eq_some_iff.1 h
  rw [List.take_succ_eq_append_getElem hj, hk, List.map_append, ← List.append_assoc, List.map_singleton, lflat_one]
  rfl
theorem un_leaf (p q : Option Addr) (n : Int) : ∀ u ∈ [Value.pointer p, Value.pointer q, Value.int .i64 n], u.oneCell' = true := by
  intro u hu
  simp at hu
  rcases hu with rfl | rfl | rfl <;> rfl
theorem Li.step {wo : World} {k0 j : Nat} {AO : Option Addr} {co : Nat} {its0 : List (Un wo)} {ks : List (Pt wo)} {b : Bool} {b8 : Nat} {cs : Array Value} {k : Pt wo} {W W2 : World} {o : Obj} {g2 cap2 : Nat} (h : Li wo k0 j AO co its0 ks b b8 (.cells cs 26 (0, 0)) W) (hk : ks[j]? = some k)
    (ho : W2.ownsRow wo.heap.size 117 3 (.slice (some ⟨g2, 0, none⟩) (k0 + j + 1) cap2) (k0 + j + 1) (lflat (its0 ++ (ks.take j).map (fun p => (p, b))) ++ [.pointer (some k.adr), .pointer none, .int .i64 (lay b)])) (hg : (W.alloc o).grownBy W2 (Value.ownBlock (.slice AO (k0 + j) co))) :
    Li wo k0 (j + 1) (some ⟨g2, 0, none⟩) cap2 its0 ks b b8 (.cells cs 26 (0, 0)) W2 := by
  have hz : (W.alloc o).heap.size = W.heap.size + 1 := by simp
  have hb8 := (Array.getElem?_eq_some_iff.1 h.box).1
  refine ⟨?_, by rw [lflat_take its0 ks b j k hk, ← Nat.add_assoc]; exact ho, ?_⟩
  · have hs := h.low.size
    refine (h.low.alloc hs o).trans ⟨hg.os, hg.tape, hg.output, hg.size, fun i hi => hg.block i (by omega) (fun e => ?_)⟩
    have := (h.row.lt i e.symm).1
    omega
  · refine (hg.block b8 (by omega) (fun e => ?_)).trans ((Below.heap_alloc W o b8 hb8).trans h.box)
    rcases h.row.2 with ⟨h0, -⟩ | ⟨g', cap', cur, hv, -, hgg, -⟩
    · rw [h0] at e; cases e
    · rw [hv] at e
      obtain rfl : b8 = g' := by simpa [Value.ownBlock] using e
      rw [h.box] at hgg
      simp at hgg
theorem zero_box9 {w W : World} {x0 x1 x2 : Value} (hb : Below ((w.alloc (.cells #[x0, x1, x2] 26)).drew).heap.size ((w.alloc (.cells #[x0, x1, x2] 26)).drew) W) :
    W.cell? ⟨w.heap.size, 0, none⟩ = some x0 ∧ W.cell? ⟨w.heap.size, 1, none⟩ = some x1 ∧ W.cell? ⟨w.heap.size, 2, none⟩ = some x2 ∧ (∀ o, W.frozen? ⟨w.heap.size, o, none⟩ = false) ∧ w.heap.size < W.heap.size ∧ Hid (W.heap[w.heap.size]? = some (.cells #[x0, x1, x2] 26 (0, 0))) := by
  have h : W.heap[w.heap.size]? = some (.cells #[x0, x1, x2] 26 (0, 0)) := (hb.block _ (by simp)).trans (heap_alloc_new w _)
  exact ⟨by simp [World.cell?, h], by simp [World.cell?, h], by simp [World.cell?, h], fun o => by simp [World.frozen?, h], (Array.getElem?_eq_some_iff.1 h).1, Lib.hid h⟩
/-- The parts that are still to be counted. -/
structure Lg (wo w : World) (f : ByteArray → Option Ex) (S N nodes k : Nat) (AO : Option Addr) (co : Nat) (its : List (Un wo)) (W : World) : Prop where
  low : Below wo.heap.size wo W
  row : W.ownsRow wo.heap.size 117 3 (.slice AO k co) k (lflat its)
  len : its.length = k
  sum : nodes + lweigh f its = S + k
  small : ∀ u ∈ its, exSize u.1.ex ≤ N
  few : k ≤ nodes
set_option maxRecDepth 100000 in
set_option maxHeartbeats 4000000 in
theorem own_large (f : ByteArray → Option Ex) (cb mb : Nat) (M : List (Value × Value)) (e : Ex) (v : Value) (bs : List Nat) (w : World) (hx : ExIs w v e bs)
    (hc : w.cell? ⟨cb, 0, none⟩ = some (.map (some mb))) (hm : MapIs w mb M) (hv : ValsIs w M f) (hN : exSize e ≤ 1099511627776) (hf : ∀ s e1, f s = some e1 → exSize e1 ≤ 1099511627776) :
    Calls Try.prog 52 #[.pointer (some ⟨cb, 0, none⟩), v] w (fun r w2 => ∃ b : Bool, r = .returned (.bool b) ∧ (b = true → 2097152 < exSize (subE f e)) ∧ Below w.heap.size w w2) := by
  obtain ⟨i0, hi, hz0, hz1, hz2⟩ := info_parts Try.infoUn
  have HI := Lib.hid (And.intro hi (And.intro hz0 (And.intro hz1 hz2)))
  clear hi hz0 hz1 hz2
  obtain ⟨u, rfl, hs, hu⟩ := id hx
  obtain ⟨A, c, rfl, hc1, hc2, -⟩ := id hu
  obtain ⟨m, hm0⟩ : ∃ m, m = e.args.length := ⟨_, rfl⟩
  rw [← hm0] at hx hc1 ⊢
  obtain ⟨wo, hwo⟩ : ∃ wo, wo = w.alloc (.cells #[.int .i64 e.kind, .string e.name, .slice A m c] 26) := ⟨_, rfl⟩
  have hbo : Below w.heap.size w wo := by rw [hwo]; exact (Below.refl _ w).alloc (Nat.le_refl _) _
  have hso : wo.heap.size = w.heap.size + 1 := by rw [hwo]; simp
  have hvo : ValsIs wo M f := hv.below hbo
  have hmo : MapIs wo mb M := hm.on (hbo.block _ hm.lt)
  have hat : ExAt wo w.heap.size 0 e bs := by
    have hnew : wo.heap[w.heap.size]? = some (.cells #[.int .i64 e.kind, .string e.name, .slice A m c] 26 (0, 0)) := by rw [hwo]; exact heap_alloc_new w _
    exact ExAt.mk (u := .slice A m c) (by simp [World.cell?, hnew]) (by simp [World.cell?, hnew]) (by simp [World.cell?, hnew]) (hx.below hbo)
  have hco : wo.cell? ⟨cb, 0, none⟩ = some (.map (some mb)) := (hbo.cell (World.block_lt_of_cell? w _ hc)).trans hc
  have HWO := Lib.hid hwo
  have HBO := Lib.hid hbo
  have HSO := Lib.hid hso
  have HVO := Lib.hid hvo
  have HMO := Lib.hid hmo
  have HAT := Lib.hid hat
  have HCO := Lib.hid hco
  have HN := Lib.hid hN
  have HF := Lib.hid hf
  clear hx hc hm hv hN hf hs hu hc1 hc2 hm0 hwo hbo hso hvo hmo hat hco
  go_enter Try.func52, Try.ntmps52
  go_wp2_with fail
  rw [← HWO.out]
  have HR0 := Lib.hid (show (wo.alloc (.cells #[.pointer (some ⟨w.heap.size, 0, none⟩), .pointer none, .int .i64 0] 117)).ownsRow wo.heap.size 117 3 (.slice (some ⟨w.heap.size + 1, 0, none⟩) 1 1) 1 [.pointer (some ⟨w.heap.size, 0, none⟩), .pointer none, .int .i64 0] by
    rw [← HSO.out]
    exact World.ownsRow_lit wo (base := wo.heap.size) (e := 117) (size := 3) #[.pointer (some ⟨w.heap.size, 0, none⟩), .pointer none, .int .i64 0] 1 (Nat.le_refl _) (by unfold maxLen; omega) rfl)
  go_loopg [5, 6] (exSize (subE f e)) (fun gk nn a wr => ∃ (nodes k : Nat) (AO : Option Addr) (co : Nat) (its : List (Un wo)), nn = .int .i64 (nodes : Int) ∧ a = .slice AO k co ∧ nodes ≤ 1099513724928 ∧ Hid (gk = lweigh f its) ∧ Hid (Lg wo w f (exSize (subE f e)) 1099511627776 nodes k AO co its wr))
  case atStart =>
    refine ⟨1, 1, some ⟨w.heap.size + 1, 0, none⟩, 1, [(⟨(w.heap.size, 0, e, bs), HAT.out, by rw [HSO.out]; omega⟩, false)], rfl, rfl, by omega, Lib.hid (by rw [lweigh_one]; rfl), Lib.hid ⟨?_, ?_, rfl, ?_, ?_, Nat.le_refl _⟩⟩
    · exact (Below.refl _ wo).alloc (Nat.le_refl _) _
    · exact HR0.out
    · rw [lweigh_one]
      show 1 + exSize (subE f e) = _
      omega
    · intro u hu
      rw [List.mem_singleton] at hu
      subst hu
      exact HN.out
  case round =>
    obtain ⟨nodes, k, AO, co, its, rfl, rfl, hnb, HG, HL⟩ := hrel
    by_cases hstop : k = 0 ∨ 2097152 < nodes
    · have hlow := HBO.out.trans (HL.out.low.mono HBO.out.size)
      have HEND := Lib.hid (show ∀ b : Bool, b = decide (2097152 < nodes) → ∃ b' : Bool, Ending.returned (.bool b) = .returned (.bool b') ∧ (b' = true → 2097152 < exSize (subE f e)) ∧ Below w.heap.size w wr from fun b hb => by
        refine ⟨b, rfl, fun ht => ?_, hlow⟩
        rw [hb] at ht
        have h1 := of_decide_eq_true ht
        have h2 := HL.out.sum
        have h3 : k ≤ lweigh f its := by
          have := sizes_len (its.map (resU f))
          rw [List.length_map, HL.out.len] at this
          exact this
        omega)
      clear hlow
      by_cases hk : k = 0
      · subst hk
        by_cases hn : 2097152 < nodes
        · have d2 : (2097152 : Int) < (nodes : Int) := by omega
          have HD := Lib.hid (show true = decide (2097152 < nodes) by simp [hn])
          clear hstop hn
          go_wp2_with fail
          go_ret
          exact HEND.out _ HD.out
        · have d2 : (nodes : Int) ≤ 2097152 := by omega
          clear hstop hn
          go_wp2_with fail
          go_ret
          exact HEND.out _ (by
            have h1 : ¬ (2097152 : Int) < (nodes : Int) := by omega
            have h2 : ¬ 2097152 < nodes := by omega
            simp [h1, h2])
      · have hn : 2097152 < nodes := by omega
        have d1 : 0 < (k : Int) := by omega
        have d2 : (2097152 : Int) < (nodes : Int) := by omega
        have HD := Lib.hid (show true = decide (2097152 < nodes) by simp [hn])
        clear hstop hn hk
        go_wp2_with fail
        go_ret
        exact HEND.out _ HD.out
    · obtain ⟨k0, rfl⟩ : ∃ k0, k = k0 + 1 := ⟨k - 1, by omega⟩
      have hnn : (nodes : Int) ≤ 2097152 := by omega
      have hk0 : (k0 : Int) ≤ 2097152 := by have := HL.out.few; omega
      obtain ⟨its0, x, hits⟩ : ∃ its0 x, its = its0 ++ [x] := by
        rcases List.eq_nil_or_concat its with h | ⟨a, b, h⟩
        · have := HL.out.len; rw [h] at this; simp at this
        · exact ⟨a, b, by rw [h, List.concat_eq_append]⟩
      subst hits
      have hrow := HL.out.row
      rw [lflat_one] at hrow
      obtain ⟨g, rfl, hg1, hg2, hco1, hco2, t0, t1, t2, hrow0⟩ := top3 hrow
      have HROW := Lib.hid hrow0
      obtain ⟨px, hpx⟩ : ∃ z, z = x.1.1.1 := ⟨_, rfl⟩
      obtain ⟨po, hpo⟩ : ∃ z, z = x.1.1.2.1 := ⟨_, rfl⟩
      obtain ⟨xb, hxb⟩ : ∃ z, z = x.2 := ⟨_, rfl⟩
      have hadr : x.1.adr = ⟨px, po, none⟩ := by rw [hpx, hpo]; rfl
      rw [hadr] at t0
      rw [← hxb] at t2
      obtain ⟨PA, pc, pbs, p0, p1, p2, pis⟩ := x.1.parts
      rw [← hpx, ← hpo] at p0 p1 p2
      have hpxl : px < wo.heap.size := by rw [hpx]; exact x.1.2.2
      obtain ⟨PE, hPE⟩ : ∃ z, z = x.1.ex := ⟨_, rfl⟩
      rw [← hPE] at p0 p1 p2 pis
      obtain ⟨pn, hpn⟩ : ∃ z, z = PE.args.length := ⟨_, rfl⟩
      rw [← hpn] at p2 pis
      have hres : resU f x = resE f PE xb := by rw [hPE, hxb]; rfl
      have HRES := Lib.hid hres
      have hlw := HL.out.low
      have q0 := (hlw.cell (p := ⟨px, po, none⟩) hpxl).trans p0
      have q1 := (hlw.cell (p := ⟨px, po + 1, none⟩) hpxl).trans p1
      have q2 := (hlw.cell (p := ⟨px, po + 2, none⟩) hpxl).trans p2
      have HPIS := Lib.hid pis
      have hsm := HL.out.small x (by simp)
      rw [← hPE] at hsm
      have HSM := Lib.hid hsm
      have HPX := Lib.hid hpxl
      clear hrow hrow0 hadr hpx hpo hxb hPE hpn hres hlw p0 p1 p2 pis hsm hpxl
      have hk1 : (0 : Int) ≤ (k0 : Int) := by omega
      have HSS := Lib.hid (show ∀ X, Below wr.heap.size wr X → X.cell? ⟨px, po, none⟩ = some (.int .i64 PE.kind) ∧ X.cell? ⟨px, po + 1, none⟩ = some (.string PE.name) ∧ X.cell? ⟨px, po + 2, none⟩ = some (.slice PA pn pc) from fun X hX => by
        have hpl : px < wr.heap.size := Nat.lt_of_lt_of_le HPX.out HL.out.low.size
        exact ⟨(hX.cell (p := ⟨px, po, none⟩) hpl).trans q0, (hX.cell (p := ⟨px, po + 1, none⟩) hpl).trans q1, (hX.cell (p := ⟨px, po + 2, none⟩) hpl).trans q2⟩)
      obtain ⟨RE, hRE⟩ : ∃ z, z = replE f PE xb := ⟨_, rfl⟩
      obtain ⟨RB, hRB⟩ : ∃ z, z = replB PE xb := ⟨_, rfl⟩
      have HRE := Lib.hid hRE
      have HRB := Lib.hid hRB
      have HCALL := Lib.hid (show ∀ X, Below wr.heap.size wr X → Calls Try.prog 79 #[.pointer (some ⟨cb, 0, none⟩), .agg #[.int .i64 PE.kind, .string PE.name, .slice PA pn pc], .int .i64 (lay xb)] X (ReplP wo RE RB X) from fun X hX => by
        rw [hRE, hRB]
        have hb : Below wo.heap.size wo X := HL.out.low.trans (hX.mono HL.out.low.size)
        exact own_replaced wo f cb mb M PE xb PA pn pc pbs X HPIS.out ((hb.cell (World.block_lt_of_cell? wo _ HCO.out)).trans HCO.out) (HMO.out.on (hb.block _ HMO.out.lt)) HVO.out)
      clear q0 q1 q2 hRE hRB
      go_wp2_with fail
      obtain ⟨W1, hW1⟩ : ∃ W1, W1 = wr.alloc (.cells #[.pointer (some ⟨px, po, none⟩), .pointer none, .int .i64 (lay xb)] 117) := ⟨_, rfl⟩
      rw [← hW1]
      have HB1 := Lib.hid (show Below wr.heap.size wr W1 by rw [hW1]; exact (Below.refl _ _).alloc (Nat.le_refl _) _)
      have HNX := Lib.hid (show W1.heap[wr.heap.size]? = some (.cells #[.pointer (some ⟨px, po, none⟩), .pointer none, .int .i64 (lay xb)] 117 (0, 0)) by rw [hW1]; exact heap_alloc_new wr _)
      have HS := Lib.hid (show ∀ X, Below W1.heap.size W1 X → X.cell? ⟨px, po, none⟩ = some (.int .i64 PE.kind) ∧ X.cell? ⟨px, po + 1, none⟩ = some (.string PE.name) ∧ X.cell? ⟨px, po + 2, none⟩ = some (.slice PA pn pc) ∧ X.cell? ⟨wr.heap.size, 0, none⟩ = some (.pointer (some ⟨px, po, none⟩)) ∧ X.cell? ⟨wr.heap.size, 2, none⟩ = some (.int .i64 (lay xb)) from fun X hX => by
        have hl := (Array.getElem?_eq_some_iff.1 HNX.out).1
        have h := HSS.out X (HB1.out.trans (hX.mono HB1.out.size))
        exact ⟨h.1, h.2.1, h.2.2, (hX.cell (p := ⟨wr.heap.size, 0, none⟩) hl).trans (by simp [World.cell?, HNX.out]), (hX.cell (p := ⟨wr.heap.size, 2, none⟩) hl).trans (by simp [World.cell?, HNX.out])⟩)
      clear hW1
      refine cut_r9 (fun a W => ∃ (b8 : Nat) (RA : Option Addr) (rq rc : Nat) (rbs : List Nat), a = { tmps := #[.pointer (some ⟨cb, 0, none⟩), .agg #[.int .i64 e.kind, .string e.name, .slice A m c], undef, .pointer (some ⟨w.heap.size, 0, none⟩), .bool false, .int .i64 (nodes : Int), .slice (some ⟨g, 0, none⟩) k0 co, .pointer (some ⟨wr.heap.size, 0, none⟩), .pointer (some ⟨b8, 0, none⟩), .int .i64 (lay RB), u10, .agg #[.pointer (some ⟨w.heap.size, 0, none⟩), .pointer none, .int .i64 0], .slice (some ⟨w.heap.size + 1, 0, none⟩) 1 1, .slice (some ⟨g, 0, none⟩) (k0 + 1) co, .int .i64 ((k0 : Int) + 1), .bool true, .bool true, .int .i64 (nodes : Int), .bool true, .bool true, .slice (some ⟨g, 0, none⟩) (k0 + 1) co, .slice (some ⟨g, 0, none⟩) (k0 + 1) co, .int .i64 ((k0 : Int) + 1), .int .i64 (k0 : Int), .pointer (some ⟨g, k0 * 3, none⟩), .agg #[.pointer (some ⟨px, po, none⟩), .pointer none, .int .i64 (lay xb)], .slice (some ⟨g, 0, none⟩) (k0 + 1) co, .slice (some ⟨g, 0, none⟩) (k0 + 1) co, .int .i64 ((k0 : Int) + 1), .int .i64 (k0 : Int), .slice (some ⟨g, 0, none⟩) k0 co, .tuple #[.agg #[.int .i64 RE.kind, .string RE.name, .slice RA rq rc], .int .i64 (lay RB)], .pointer (some ⟨cb, 0, none⟩), .pointer (some ⟨wr.heap.size, 0, none⟩), .pointer (some ⟨px, po, none⟩), .pointer (some ⟨px, po, none⟩), .agg #[.int .i64 PE.kind, .string PE.name, .slice PA pn pc], .pointer (some ⟨wr.heap.size, 2, none⟩), .int .i64 (lay xb), .tuple #[.agg #[.int .i64 RE.kind, .string RE.name, .slice RA rq rc], .int .i64 (lay RB)], .agg #[.int .i64 RE.kind, .string RE.name, .slice RA rq rc], .int .i64 (lay RB), u42, u43, u44, u45, u46, u47, u48, u49, u50, u51, u52, u53, u54, u55, u56, u57, u58, u59, u60, u61, u62, undef, undef], defers := [] } ∧ Below wr.heap.size wr W ∧ W.heap[b8]? = some (.cells #[.int .i64 RE.kind, .string RE.name, .slice RA rq rc] 26 (0, 0)) ∧ ExIs wo (.agg #[.int .i64 RE.kind, .string RE.name, .slice RA rq rc]) RE rbs) ?_ ?_
      · go_region_held3 (fun X => X.cell? ⟨px, po, none⟩ = some (.int .i64 PE.kind) ∧ X.cell? ⟨px, po + 1, none⟩ = some (.string PE.name) ∧ X.cell? ⟨px, po + 2, none⟩ = some (.slice PA pn pc) ∧ X.cell? ⟨wr.heap.size, 0, none⟩ = some (.pointer (some ⟨px, po, none⟩)) ∧ X.cell? ⟨wr.heap.size, 2, none⟩ = some (.int .i64 (lay xb)))
          (first
          | exact HS.out _ ((Below.refl _ _).drew)
          | exact HS.out _ (((Below.refl _ _).alloc (Nat.le_refl _) _).drew)
          | exact HS.out _ HB2.out
          | exact HS.out _ (HB2.out.alloc HB2.out.size _)
          | exact HS.out _ (below_tri HB2.out (Nat.le_refl _) 0 _ _ _))
          (first
          | (go_at_call 79; refine (HCALL.out _ (HB1.out.trans ((Below.refl W1.heap.size W1).drew.mono HB1.out.size))).mono ?_; rintro r w2 ⟨RA, rq, rc, rbs, rfl, hri, hb2⟩; have HB2 := Lib.hid ((Below.refl W1.heap.size W1).drew.trans hb2); have HRI := Lib.hid hri; clear hb2 hri)
          | (go_at_call 79; refine (HCALL.out _ (HB1.out.trans ((((Below.refl W1.heap.size W1).alloc (Nat.le_refl _) _).drew).mono HB1.out.size))).mono ?_; rintro r w2 ⟨RA, rq, rc, rbs, rfl, hri, hb2⟩; have HB2 := Lib.hid ((((Below.refl W1.heap.size W1).alloc (Nat.le_refl _) _).drew).trans (hb2.mono (by simp))); have HRI := Lib.hid hri; obtain ⟨r0, r1, r2, rf, rl, HZB⟩ := zero_box9 hb2; clear hb2 hri))
        · exact ⟨_, _, _, _, _, rfl, (HB1.out.trans (HB2.out.mono HB1.out.size)).alloc (Nat.le_trans HB1.out.size HB2.out.size) _, heap_alloc_new _ _, HRI.out⟩
        · exact ⟨_, _, _, _, _, rfl, below_tri (HB1.out.trans (HB2.out.mono HB1.out.size)) HB1.out.size 0 _ _ _, tri_box9 HZB.out _ _ _, HRI.out⟩
      rintro _ W2 ⟨b8, RA, rq, rc, rbs, rfl, hb2, hbx, hri⟩
      obtain ⟨u', e1, -, hsl⟩ := hri
      simp only [Value.agg.injEq, Array.mk.injEq, List.cons.injEq, and_true, true_and] at e1
      subst e1
      obtain ⟨hrq, hkids⟩ := hsl.pts
      obtain ⟨ks, hks, hka⟩ : ∃ ks : List (Pt wo), ks.map Pt.ex = RE.args ∧ ∀ (i : Nat) (k : Pt wo), ks[i]? = some k → ∃ g o, RA = some ⟨g, o, none⟩ ∧ k.adr = ⟨g, o + i * 3, none⟩ := by
        rcases hkids with h0 | ⟨g, o, rfl, -, ks, e1, e2⟩
        · exact ⟨[], by rw [h0]; rfl, fun i k h => by simp at h⟩
        · exact ⟨ks, e1, fun i k h => ⟨g, o, rfl, e2 i k h⟩⟩
      have hkl : ks.length = rq := by rw [hrq, ← hks, List.length_map]
      have hrqb : rq ≤ 1099511627776 := by
        have h1 : exSize RE ≤ 1099511627776 := by rw [HRE.out]; exact repl_small HSM.out HF.out xb
        have h2 : exSize RE = exSizes RE.args + 1 := by cases RE; rfl
        have h3 := sizes_len RE.args
        omega
      have hsum : lweigh f (ks.map (fun p => (p, RB))) + 1 = exSize (resU f x) := by
        rw [HRES.out, res_size f PE xb, ← HRE.out, ← HRB.out, ← hks, List.map_map, lweigh, List.map_map]
        rfl
      have hsmall : ∀ u ∈ ks.map (fun p => ((p, RB) : Un wo)), exSize u.1.ex ≤ 1099511627776 := by
        intro u hu
        obtain ⟨p, hp, rfl⟩ := List.mem_map.1 hu
        have h1 : exSize RE ≤ 1099511627776 := by rw [HRE.out]; exact repl_small HSM.out HF.out xb
        have h2 : exSize p.ex < exSize RE := exSize_args (by rw [← hks]; exact List.mem_map_of_mem hp)
        show exSize p.ex ≤ _
        omega
      have HKA := Lib.hid hka
      have HKL := Lib.hid hkl
      have HSUM := Lib.hid hsum
      have HSML := Lib.hid hsmall
      have HLI := Lib.hid (show Li wo k0 0 (some ⟨g, 0, none⟩) co its0 ks RB b8 (.cells #[.int .i64 RE.kind, .string RE.name, .slice RA rq rc] 26 (0, 0)) W2 from ⟨HL.out.low.trans (hb2.mono HL.out.low.size), by
        have := HROW.out.kept (row := none) ⟨hb2.os, hb2.tape, hb2.output, hb2.size, fun k hk _ => hb2.block k hk⟩ (by simp [Value.ownBlock])
        simpa using this, hbx⟩)
      have HB2 := Lib.hid hb2
      have b2' : W2.cell? ⟨b8, 2, none⟩ = some (.slice RA rq rc) := by simp [World.cell?, hbx]
      have hbl : b8 < W2.heap.size := (Array.getElem?_eq_some_iff.1 hbx).1
      have hrq2 : (rq : Int) ≤ 1099511627776 := by omega
      clear hsl hrq hkids hks hka hkl hsum hsmall hb2 hbx hrqb
      go_wp2_with fail
      go_loopw [6, 50] (fun a i wr2 => ∃ (j : Nat) (AO2 : Option Addr) (co2 : Nat), j ≤ rq ∧ i = .int .i64 (j : Int) ∧ a = .slice AO2 (k0 + j) co2 ∧ Hid (Li wo k0 j AO2 co2 its0 ks RB b8 (.cells #[.int .i64 RE.kind, .string RE.name, .slice RA rq rc] 26 (0, 0)) wr2)) (fun _ i _ => rq - (intOf i).toNat)
      case atStart => exact ⟨0, _, _, Nat.zero_le _, rfl, rfl, HLI⟩
      case round =>
        clear b2' hbl
        obtain ⟨j, AO2, co2, hj, rfl, rfl, HLJ⟩ := hrel
        have hbx := HLJ.out.box
        have b2' : wr.cell? ⟨b8, 2, none⟩ = some (.slice RA rq rc) := by simp [World.cell?, hbx]
        have hbl : b8 < wr.heap.size := (Array.getElem?_eq_some_iff.1 hbx).1
        clear hbx
        by_cases hlt : j < rq
        · obtain ⟨kp, hkp⟩ : ∃ kp, ks[j]? = some kp := ⟨_, List.getElem?_eq_getElem (by rw [HKL.out]; exact hlt)⟩
          obtain ⟨ga, oa, rfl, hadr⟩ := HKA.out j kp hkp
          have hj0 : (0 : Int) ≤ (j : Int) := by omega
          have hj1 : (j : Int) < (rq : Int) := by omega
          have HKP := Lib.hid hkp
          have HADR := Lib.hid hadr
          have CM := Lib.hid (show k0 + j + 1 ≤ maxLen by unfold maxLen; omega)
          have CB := Lib.hid (show (k0 + j + 1) * 24 ≤ 140737488355328 by omega)
          have HR := Lib.hid (HLJ.out.row.alloc (.cells #[.pointer (some ⟨ga, oa + j * 3, none⟩), .pointer none, .int .i64 (lay RB)] 117))
          have CS := Lib.hid (show wo.heap.size ≤ (wr.alloc (.cells #[.pointer (some ⟨ga, oa + j * 3, none⟩), .pointer none, .int .i64 (lay RB)] 117)).heap.size by have := HLJ.out.low.size; simp; omega)
          clear hkp hadr
          go_wp2_with (at_builtin; (refine wpList_append_own _ rfl (.tmp 53) (.tmp 60) 118 rfl wo.heap.size 117 i0 (.agg #[.pointer none, .pointer none, .int .i64 0]) 3 24 Try.underlying118 HI.out.1 HI.out.2.1 HI.out.2.2.1 HI.out.2.2.2 rfl (by decide) (.slice AO2 (k0 + j) co2) (k0 + j) _ rfl HR.out ⟨wr.heap.size, 0, none⟩ 1 1 [.pointer (some ⟨ga, oa + j * 3, none⟩), .pointer none, .int .i64 (lay RB)] rfl rfl (World.news_of_block (heap_alloc_new wr _)) (un_leaf _ _ _) CM.out CB.out CS.out ?_); intro v2 w3 ho3 hg3 _; have HAP := Lib.hid (And.intro ho3 hg3); clear ho3 hg3)
          obtain ⟨g3, cap3, rfl, -, -⟩ := HAP.out.1.form (by omega)
          have HLN := Lib.hid (show Li wo k0 (j + 1) (some ⟨g3, 0, none⟩) cap3 its0 ks RB b8 (.cells #[.int .i64 RE.kind, .string RE.name, .slice (some ⟨ga, oa, none⟩) rq rc] 26 (0, 0)) w3 from HLJ.out.step HKP.out (by rw [HADR.out]; exact HAP.out.1) HAP.out.2)
          go_roundw
          case rel => exact ⟨j + 1, _, _, by omega, by go_num, by rw [← Nat.add_assoc], HLN⟩
          case measure => simp [intOf]; omega
        · obtain rfl : j = rq := by omega
          have HT := Lib.hid (show ks.take j = ks from List.take_of_length_le (by rw [HKL.out]; exact Nat.le_refl _))
          go_wp2_with fail
          go_roundg (lweigh f (its0 ++ ks.map (fun p => ((p, RB) : Un wo))))
          case measure =>
            rw [HG.out, lweigh_app, lweigh_app, lweigh_one]
            have := HSUM.out
            omega
          case rel =>
            refine ⟨nodes + j, k0 + j, _, _, its0 ++ ks.map (fun p => ((p, RB) : Un wo)), by go_num, rfl, by omega, Lib.hid rfl, Lib.hid ⟨HLJ.out.low, ?_, ?_, ?_, ?_, ?_⟩⟩
            · have h := HLJ.out.row
              rw [HT.out] at h
              exact h
            · have h := HL.out.len
              rw [List.length_append, List.length_singleton] at h
              rw [List.length_append, List.length_map, HKL.out]
              omega
            · have h := HL.out.sum
              rw [lweigh_app, lweigh_one] at h
              rw [lweigh_app]
              have := HSUM.out
              omega
            · intro u hu
              rcases List.mem_append.1 hu with h | h
              · exact HL.out.small u (List.mem_append_left _ h)
              · exact HSML.out u h
            · have := HL.out.few
              omega
end Go.Proofs.Ytegigjnlecpplaa

namespace Go.Proofs.Ytegigjnlecpplaa
open Go Go.RowKit

/-- The box of a copy: its values, how many nodes it made, what is shared, the copies of that. -/
def CBox (w : World) (cb : Nat) (mb : Nat) (N : Int) (sh : Option Nat) : Prop := w.heap[cb]? = some (.cells #[.map (some mb), .int .i64 N, .map sh, .map none, .map none] 77 (0, 0))
theorem CBox.cells {w : World} {cb mb : Nat} {N : Int} {sh : Option Nat} (h : CBox w cb mb N sh) : w.cell? ⟨cb, 0, none⟩ = some (.map (some mb)) ∧ w.cell? ⟨cb, 1, none⟩ = some (.int .i64 N) ∧ w.cell? ⟨cb, 2, none⟩ = some (.map sh) ∧ w.cell? ⟨cb, 3, none⟩ = some (.map none) ∧ w.cell? ⟨cb, 4, none⟩ = some (.map none) ∧ (∀ o, w.frozen? ⟨cb, o, none⟩ = false) ∧ cb < w.heap.size := by
  unfold CBox at h
  exact ⟨by simp [World.cell?, h], by simp [World.cell?, h], by simp [World.cell?, h], by simp [World.cell?, h], by simp [World.cell?, h], fun o => by simp [World.frozen?, h], (Array.getElem?_eq_some_iff.1 h).1⟩
theorem CBox.set1 {w : World} {cb mb : Nat} {N : Int} {sh : Option Nat} (h : CBox w cb mb N sh) (N2 : Int) : CBox (w.setCell ⟨cb, 1, none⟩ (.int .i64 N2)) cb mb N2 sh := by
  unfold CBox at h ⊢
  simp [World.setCell, Array.getElem?_modify, h]
theorem CBox.set4 {w : World} {cb mb : Nat} {N : Int} {sh : Option Nat} (h : CBox w cb mb N sh) : CBox (w.setCell ⟨cb, 4, none⟩ (.map none)) cb mb N sh := by
  unfold CBox at h ⊢
  simp [World.setCell, Array.getElem?_modify, h]
theorem checkPlace (em : Bool) (a : Addr) (n : Int) (w : World) : (Instr.checkKey em 10000 109 (.agg #[.pointer (some a), .int .i64 n])).run Try.prog w = .ok () w := by
  have u := run_underlying (w := w) Try.underlying109
  have up := run_underlying (w := w) Try.underlying104
  have ui := run_underlying (w := w) Try.underlying3
  have p0 : ∀ x y : Value, (part 104 #[x, y] 0).run Try.prog w = .ok x w := fun x y => by kernel_rfl
  have p1 : ∀ x y : Value, (part 3 #[x, y] 1).run Try.prog w = .ok y w := fun x y => by kernel_rfl
  have c1 : (Instr.checkKey em 9999 104 (.pointer (some a))).run Try.prog w = .ok () w := by rw [show 9999 = 9998 + 1 from rfl, Instr.checkKey]; simp [up]
  have c2 : (Instr.checkKey em 9999 3 (.int .i64 n)).run Try.prog w = .ok () w := by rw [show 9999 = 9998 + 1 from rfl, Instr.checkKey]; simp [ui]
  rw [show 10000 = 9999 + 1 from rfl, Instr.checkKey]
  simp [u, p0, p1, c1, c2]
theorem find_none (key : Value) (w : World) : (Instr.findKey 109 key []).run Try.prog w = .ok none w := by
  rw [Go.run_findKey_eq (P := Try.prog) w (k := 109) (by kernel_rfl) key []]
  simp [Instr.findAsking]
theorem nil_copies (a : Addr) (n : Int) (w : World) : (Instr.lookup 74 (.map none) (.agg #[.pointer (some a), .int .i64 n]) true).run Try.prog w = .ok (.tuple #[.slice none 0 0, .bool false]) w := by
  have h := checkPlace true a n w
  simp [Instr.lookup, run_underlying Try.underlying74, h, find_none, Result.andThen]
theorem nil_shared (a : Addr) (n : Int) (w : World) : (Instr.lookup 73 (.map none) (.agg #[.pointer (some a), .int .i64 n]) false).run Try.prog w = .ok (.bool false) w := by
  have h := checkPlace true a n w
  simp [Instr.lookup, run_underlying Try.underlying73, h, find_none, Result.andThen]
/-- What argsFor gives: a new row, and one more number of nodes. -/
def ArgsPost9 (cb mb : Nat) (N : Int) (sh : Option Nat) (n : Nat) (w : World) (r : Ending) (w2 : World) : Prop :=
  ∃ b2, r = .returned (.tuple #[.slice (some ⟨b2, 0, none⟩) n n, .bool true]) ∧ w.heap.size ≤ b2 ∧ TyN w2 b2 (n * 3) ∧ CBox w2 cb mb (N + n) sh ∧ Fr [cb] w w2
theorem row_tyn {w : World} {base g n : Nat} {ys : List Value} (h : w.ownsRow base 26 3 (.slice (some ⟨g, 0, none⟩) n n) n ys) : TyN w g (n * 3) := by
  rcases h.2 with ⟨h0, -⟩ | ⟨g', cap', cur, hv, -, hgg, -, -, hs, -⟩
  · cases h0
  · simp only [Value.slice.injEq, Option.some.injEq, Addr.mk.injEq, and_true, true_and] at hv
    obtain ⟨rfl, rfl⟩ := hv
    exact ⟨cur, hgg, hs⟩
set_option maxRecDepth 100000 in
set_option maxHeartbeats 4000000 in
theorem own_argsFor (cb mb : Nat) (N : Int) (sh : Option Nat) (g o n c : Nat) (b : Bool) (w : World) (hc : CBox w cb mb N sh) (hn : 0 < n) (hn2 : n ≤ 1099511627776) (hN : 0 ≤ N) (hN2 : N + n ≤ 2199023255552)
    (hsh : ∀ X, Fr [cb] w X → (Instr.lookup 73 (.map sh) (.agg #[.pointer (some ⟨g, o, none⟩), .int .i64 (n : Int)]) false).run Try.prog X = .ok (.bool false) X) :
    Calls Try.prog 82 #[.pointer (some ⟨cb, 0, none⟩), .slice (some ⟨g, o, none⟩) n c, .int .i64 (lay b)] w (ArgsPost9 cb mb N sh n w) := by
  have HCB := Lib.hid hc
  have HCP := Lib.hid (fun W => own_place g o n c W hn (by omega))
  have HNC := nil_copies ⟨g, o, none⟩ (n : Int)
  have HSH := Lib.hid hsh
  clear hc hsh
  have hn3 : (n : Int) ≤ 1099511627776 := by omega
  have hn0 : 0 < (n : Int) := by omega
  obtain ⟨i0, hi, hz0, hz1, hz2⟩ := info_parts Try.infoEx
  have C2 := Lib.hid (show i0.bytes * n ≤ 281474976710656 by rw [hz2]; omega)
  have C3 := Lib.hid (show n ≤ maxLen by unfold maxLen; omega)
  have HI := Lib.hid (And.intro hi (And.intro hz0 (And.intro hz1 hz2)))
  clear hi hz0 hz1 hz2
  obtain ⟨B, hB⟩ : ∃ B, B = lay b := ⟨_, rfl⟩
  rw [← hB]
  have hB0 : 0 ≤ B := by rw [hB]; cases b <;> simp [lay]
  have hB1 : B < 2 := by rw [hB]; cases b <;> simp [lay]
  have HB := Lib.hid hB
  clear hB
  go_enter Try.func82, Try.ntmps82
  go_wp2_with (go_at_call 76; refine (HCP.out _).mono ?_; rintro r w1 ⟨rfl, hb1⟩; have HB1 := Lib.hid hb1; clear hb1)
  obtain ⟨W1, hW1⟩ : ∃ W1, W1 = w1.alloc (.cells #[.pointer (some ⟨g, o, none⟩), .int .i64 (n : Int)] 109) := ⟨_, rfl⟩
  rw [← hW1]
  have HBW := Lib.hid (show Below w.heap.size w W1 by rw [hW1]; exact HB1.out.alloc HB1.out.size _)
  have HPB := Lib.hid (show W1.heap[w1.heap.size]? = some (.cells #[.pointer (some ⟨g, o, none⟩), .int .i64 (n : Int)] 109 (0, 0)) by rw [hW1]; exact heap_alloc_new w1 _)
  clear hW1
  obtain rfl | rfl : B = 0 ∨ B = 1 := by omega
  all_goals
    have HS := Lib.hid (show ∀ X, Below W1.heap.size W1 X → X.cell? ⟨cb, 3, none⟩ = some (.map none) ∧ X.cell? ⟨cb, 4, none⟩ = some (.map none) ∧ X.cell? ⟨w1.heap.size, 0, none⟩ = some (.pointer (some ⟨g, o, none⟩)) ∧ X.cell? ⟨w1.heap.size, 1, none⟩ = some (.int .i64 (n : Int)) from fun X hX => by
      have h1 := HBW.out.trans (hX.mono HBW.out.size)
      obtain ⟨-, -, -, c3, c4, -, cl⟩ := HCB.out.cells
      have hl := (Array.getElem?_eq_some_iff.1 HPB.out).1
      exact ⟨(h1.cell (p := ⟨cb, 3, none⟩) cl).trans c3, (h1.cell (p := ⟨cb, 4, none⟩) cl).trans c4, (hX.cell (p := ⟨w1.heap.size, 0, none⟩) hl).trans (by simp [World.cell?, HPB.out]), (hX.cell (p := ⟨w1.heap.size, 1, none⟩) hl).trans (by simp [World.cell?, HPB.out])⟩)
    go_region_held3 (fun X => X.cell? ⟨cb, 3, none⟩ = some (.map none) ∧ X.cell? ⟨cb, 4, none⟩ = some (.map none) ∧ X.cell? ⟨w1.heap.size, 0, none⟩ = some (.pointer (some ⟨g, o, none⟩)) ∧ X.cell? ⟨w1.heap.size, 1, none⟩ = some (.int .i64 (n : Int)))
      (first
      | exact HS.out _ ((Below.refl _ _).drew))
      (fail)
    obtain ⟨Wd, hWd⟩ : ∃ Wd, Wd = W1.drew := ⟨_, rfl⟩
    rw [← hWd]
    have HSZ := Lib.hid (show Wd.heap.size = W1.heap.size by rw [hWd]; rfl)
    have HBD := Lib.hid (show Below W1.heap.size W1 Wd by rw [hWd]; exact (Below.refl _ _).drew)
    have HCD := Lib.hid (show CBox Wd cb mb N sh by
      have h1 := HBW.out.trans (HBD.out.mono HBW.out.size)
      exact (h1.block cb HCB.out.cells.2.2.2.2.2.2).trans HCB.out)
    clear hWd
    go_wp2_with (at_make; go_loud (refine wpList_make_full _ rfl _ _ 24 rfl w.heap.size 26 i0 (.agg #[.int .i64 0, .string ⟨#[]⟩, .slice none 0 0]) 3 Try.underlying24 HI.out.1 HI.out.2.1 HI.out.2.2.1 .i64 .i64 _ _ n rfl rfl rfl rfl C2.out C3.out (Nat.le_trans HBW.out.size HBD.out.size) ?_); go_loud (intro w3 hown3 hg3); have HMK := Lib.hid (And.intro hown3 hg3); have HC3 := Lib.hid (show CBox w3 cb mb N sh from (hg3.block cb (Array.getElem?_eq_some_iff.1 HCD.out).1 (by simp)).trans HCD.out); obtain ⟨k0, k1, k2, k3, k4, kf, kl⟩ := HC3.out.cells; clear hown3 hg3)
    obtain ⟨X0, hX0⟩ : ∃ X0, X0 = w3.setCell ⟨cb, 1, none⟩ (.int .i64 (N + (n : Int))) := ⟨_, rfl⟩
    rw [← hX0]
    have HX0 := Lib.hid hX0
    have HFX := Lib.hid (show Fr [cb] w X0 by
      have h1 := HBW.out.trans (HBD.out.mono HBW.out.size)
      have h2 := HMK.out.2
      have h3 : Below w.heap.size w w3 := h1.trans ⟨h2.os, h2.tape, h2.output, h2.size, fun k hk => h2.block k (Nat.lt_of_lt_of_le hk h1.size) (by simp)⟩
      rw [hX0]
      exact (Fr.of_below (S := [cb]) h3).trans (T := [cb]) (Fr.set _ _ _ (by simp)) (fun x h => Or.inl h))
    have HCX := Lib.hid (show CBox X0 cb mb (N + (n : Int)) sh by rw [hX0]; exact HC3.out.set1 _)
    have HPX := Lib.hid (show X0.heap[w1.heap.size]? = some (.cells #[.pointer (some ⟨g, o, none⟩), .int .i64 (n : Int)] 109 (0, 0)) by
      have hcl : cb < w.heap.size := HCB.out.cells.2.2.2.2.2.2
      have hl := (Array.getElem?_eq_some_iff.1 HPB.out).1
      have hb1 := HB1.out.size
      rw [hX0]
      refine (Below.heap_setCell _ _ _ _ (by simp; omega)).trans ?_
      exact (HMK.out.2.block _ (by rw [HSZ.out]; exact hl) (by simp)).trans ((HBD.out.block _ hl).trans HPB.out))
    have HS2 := Lib.hid (show X0.drew.cell? ⟨cb, 2, none⟩ = some (.map sh) ∧ X0.drew.cell? ⟨w1.heap.size, 0, none⟩ = some (.pointer (some ⟨g, o, none⟩)) ∧ X0.drew.cell? ⟨w1.heap.size, 1, none⟩ = some (.int .i64 (n : Int)) ∧ (Instr.lookup 73 (.map sh) (.agg #[.pointer (some ⟨g, o, none⟩), .int .i64 (n : Int)]) false).run Try.prog X0.drew = .ok (.bool false) X0.drew from by
      have hp : X0.drew.heap[w1.heap.size]? = _ := HPX.out
      refine ⟨HCX.out.cells.2.2.1, by simp [World.cell?, hp], by simp [World.cell?, hp], HSH.out _ ⟨HFX.out.os, HFX.out.tape, HFX.out.output, HFX.out.size, HFX.out.block⟩⟩)
    clear hX0 k0 k1 k2 k3 k4 kf kl HNC
    go_region_held3 (fun X => X.cell? ⟨cb, 2, none⟩ = some (.map sh) ∧ X.cell? ⟨w1.heap.size, 0, none⟩ = some (.pointer (some ⟨g, o, none⟩)) ∧ X.cell? ⟨w1.heap.size, 1, none⟩ = some (.int .i64 (n : Int)) ∧ (Instr.lookup 73 (.map sh) (.agg #[.pointer (some ⟨g, o, none⟩), .int .i64 (n : Int)]) false).run Try.prog X = .ok (.bool false) X)
      (first
      | exact HS2.out)
      (fail)
    go_wp2_with fail
    refine bodyPost_ret (v := .tuple #[.slice (some ⟨Wd.heap.size, 0, none⟩) n n, .bool true]) (by simp [results, Try.results82, go_sem]) rfl ?_
    refine ⟨Wd.heap.size, rfl, by rw [HSZ.out]; exact HBW.out.size, ?_, HCX.out, ⟨HFX.out.os, HFX.out.tape, HFX.out.output, HFX.out.size, HFX.out.block⟩⟩
    have hcl : cb < w.heap.size := HCB.out.cells.2.2.2.2.2.2
    have h := row_tyn HMK.out.1
    obtain ⟨cs, h1, h2⟩ := h
    refine ⟨cs, ?_, h2⟩
    show X0.heap[Wd.heap.size]? = _
    rw [HX0.out]
    exact (Below.heap_setCell _ _ _ _ (by have := HBW.out.size; have := HSZ.out; simp; omega)).trans h1
end Go.Proofs.Ytegigjnlecpplaa

namespace Go.Proofs.Ytegigjnlecpplaa
open Go Go.RowKit

section
variable {wo : World}
/-- A copy under way, with the list of what is open. -/
structure Cy (wo : World) (f : ByteArray → Option Ex) (cb mb : Nat) (sh : Option Nat) (b0 : Nat) (R : Ex) (S nodes k : Nat) (AO : Option Addr) (co : Nat) (Ls : List (Lev wo)) (W : World) : Prop where
  fr : Fr [cb] wo W
  box : CBox W cb mb (nodes : Int) sh
  row : W.ownsRow wo.heap.size 117 3 (.slice AO k co) k (uflat (opens Ls))
  len : (opens Ls).length = k
  zip : Zip W f wo.heap.size Ls
  bot : Bot b0 R Ls
  sum : nodes + 1 + uweigh f (opens Ls) = S + k
  le : uweigh f (opens Ls) ≤ S
theorem not_ty {W : World} {cb : Nat} {cs : Array Value} {t : TypeId} (h : W.heap[cb]? = some (.cells cs t (0, 0))) (ht : t ≠ 26) : ¬ TyE W cb := by
  rintro ⟨cs', h'⟩
  rw [h] at h'
  simp only [Option.some.injEq, Obj.cells.injEq] at h'
  exact ht h'.2.1
theorem CBox.notTy {W : World} {cb mb : Nat} {N : Int} {sh : Option Nat} (h : CBox W cb mb N sh) : ¬ TyE W cb := not_ty h (by decide)
theorem EF.of_fr {W W2 : World} {cb : Nat} (h : Fr [cb] W W2) (hn : ¬ TyE W cb) : EF [] W W2 := EF.one hn h.size (fun k hk hne => h.block k hk (by simpa using hne)) []
theorem row_type {W : World} {base k co : Nat} {AO : Option Addr} {t : TypeId} {size n : Nat} {xs : List Value} (h : W.ownsRow base t size (.slice AO k co) n xs) {b : Nat} (hb : Value.ownBlock (.slice AO k co) = some b) : ∃ cs, W.heap[b]? = some (.cells cs t (0, 0)) := by
  rcases h.2 with ⟨h0, -⟩ | ⟨g', cap', cur, hv, -, hgg, -⟩
  · rw [h0] at hb; cases hb
  · rw [hv] at hb
    obtain rfl : g' = b := by simpa [Value.ownBlock] using hb
    exact ⟨cur, hgg⟩
theorem row_not {W : World} {base k co b : Nat} {AO : Option Addr} {t : TypeId} {size n : Nat} {xs : List Value} (h : W.ownsRow base t size (.slice AO k co) n xs) (ht : t ≠ 26) (hb : TyE W b) : Value.ownBlock (.slice AO k co) ≠ some b := fun e => by
  obtain ⟨cs, hc⟩ := row_type h e
  exact not_ty hc ht hb
theorem row_tri {W : World} {base k co b n size : Nat} {AO : Option Addr} {t : TypeId} {xs : List Value} (h : W.ownsRow base t size (.slice AO k co) n xs) (ht : t ≠ 26) (hb : TyE W b) (o : Nat) (x0 x1 x2 : Value) : (tri W b o x0 x1 x2).ownsRow base t size (.slice AO k co) n xs :=
  h.kept (row := some b) ⟨rfl, rfl, rfl, by rw [tri_size]; exact Nat.le_refl _, fun i _ hne => tri_other _ _ _ _ _ _ i (fun e => hne (by rw [e]))⟩ (Or.inr (row_not h ht hb))
theorem row_fr {W W2 : World} {base k co cb n size : Nat} {AO : Option Addr} {t : TypeId} {xs : List Value} (h : W.ownsRow base t size (.slice AO k co) n xs) (hf : Fr [cb] W W2) (hc : cb < base) : W2.ownsRow base t size (.slice AO k co) n xs :=
  h.kept (row := some cb) ⟨hf.os, hf.tape, hf.output, hf.size, fun i hi hne => hf.block i hi (by simpa using fun e => hne (by rw [e]))⟩ (by
    cases hv : Value.ownBlock (.slice AO k co) with
    | none => exact Or.inl rfl
    | some g =>
      refine Or.inr (fun e => ?_)
      have := (h.lt g hv).1
      have e2 : g = cb := by simpa using e
      omega)
theorem fr_tri {W : World} {b cb : Nat} (h : Fr [cb] wo W) (hb : wo.heap.size ≤ b) (o : Nat) (x0 x1 x2 : Value) : Fr [cb] wo (tri W b o x0 x1 x2) :=
  ⟨h.os, h.tape, h.output, by rw [tri_size]; exact h.size, fun i hi hne => (tri_other _ _ _ _ _ _ i (by omega)).trans (h.block i hi hne)⟩
theorem box_tri {W : World} {b cb mb : Nat} {N : Int} {sh : Option Nat} (h : CBox W cb mb N sh) (hb : cb ≠ b) (o : Nat) (x0 x1 x2 : Value) : CBox (tri W b o x0 x1 x2) cb mb N sh := (tri_other _ _ _ _ _ _ cb hb).trans h
theorem pt_ne (x : Pt wo) {cb mb : Nat} {N : Int} {sh : Option Nat} (h : CBox wo cb mb N sh) : x.1.1 ≠ cb := fun e => by
  obtain ⟨A, c, bs, p0, p1, p2, -⟩ := x.parts
  rw [e] at p0 p1
  unfold CBox at h
  have h0 : x.1.2.1 = 0 ∨ x.1.2.1 = 1 ∨ x.1.2.1 = 2 ∨ x.1.2.1 = 3 ∨ x.1.2.1 = 4 ∨ 5 ≤ x.1.2.1 := by omega
  rcases h0 with h0 | h0 | h0 | h0 | h0 | h0
  · rw [h0] at p0; simp [World.cell?, h] at p0
  · rw [h0] at p1; simp [World.cell?, h] at p1
  · rw [h0] at p0; simp [World.cell?, h] at p0
  · rw [h0] at p0; simp [World.cell?, h] at p0
  · rw [h0] at p0; simp [World.cell?, h] at p0
  · have hn : (#[Value.map (some mb), .int .i64 N, .map sh, .map none, .map none] : Array Value)[x.1.2.1]? = none := Array.getElem?_eq_none (by simpa using h0)
    simp only [World.cell?, h] at p0
    simp [hn] at p0
theorem bot_its {b0 b : Nat} {R : Ex} {l : List Ex} {i1 i2 : List (Un wo)} {more : List (Lev wo)} (h : Bot b0 R (⟨b, l, i1⟩ :: more)) : Bot b0 R (⟨b, l, i2⟩ :: more) := by
  cases more with
  | nil => exact h
  | cons L r => exact h
theorem zip_ty {W : World} {f : ByteArray → Option Ex} {n0 b : Nat} {l : List Ex} {its : List (Un wo)} {x : Un wo} {more : List (Lev wo)} (h : Zip W f n0 (⟨b, l, its ++ [x]⟩ :: more)) : TyN W b (l.length * 3) ∧ its.length < l.length ∧ n0 ≤ b := by
  obtain ⟨⟨t, bs, h1, h2⟩, -⟩ := h
  simp only at h1 h2
  exact ⟨h2.2.2.1, by rw [h1]; simp, h2.1⟩
/-- The cells of the place that is written. -/
theorem mid_cells {wr w4 : World} {cb mb b n tp : Nat} {N : Int} {sh : Option Nat} (hf : Fr [cb] wr w4) (hc : CBox wr cb mb N sh) (ht : TyN wr b (n * 3)) (hp : tp < n) :
    ∃ y0 y1 y2, w4.cell? ⟨b, tp * 3, none⟩ = some y0 ∧ w4.cell? ⟨b, tp * 3 + 1, none⟩ = some y1 ∧ w4.cell? ⟨b, tp * 3 + 2, none⟩ = some y2 ∧ (∀ o, w4.frozen? ⟨b, o, none⟩ = false) ∧ b < w4.heap.size := by
  have h4 := (EF.of_fr hf hc.notTy).tyn (by simp) ht
  obtain ⟨y0, h0⟩ := h4.cell (i := tp * 3) (by omega)
  obtain ⟨y1, h1⟩ := h4.cell (i := tp * 3 + 1) (by omega)
  obtain ⟨y2, h2⟩ := h4.cell (i := tp * 3 + 2) (by omega)
  exact ⟨y0, y1, y2, h0, h1, h2, fun o => h4.ty.free o, h4.ty.lt⟩
theorem cy_leaf {f : ByteArray → Option Ex} {cb mb b0 S nodes k0 co b : Nat} {sh : Option Nat} {R : Ex} {AO : Option Addr} {Ls more : List (Lev wo)} {l : List Ex} {its : List (Un wo)} {x : Un wo} {wr w4 : World} {K : Int} {s : ByteArray} {c0 : Nat} {A0 : Option Addr}
    (h : Cy wo f cb mb sh b0 R S nodes (k0 + 1) A0 c0 Ls wr) (hz : Zip wr f wo.heap.size (⟨b, l, its ++ [x]⟩ :: more)) (hb : Bot b0 R (⟨b, l, its ++ [x]⟩ :: more)) (ho : opens Ls = opens (⟨b, l, its⟩ :: more) ++ [(b, its.length, x)])
    (hr : wr.ownsRow wo.heap.size 117 3 (.slice AO k0 co) k0 (uflat (opens (⟨b, l, its⟩ :: more)))) (hf : Fr [cb] wr w4) (hc4 : CBox w4 cb mb (nodes : Int) sh) (hcl : cb < wo.heap.size) (hx : resU f x = .mk K s []) (hs : s.size ≤ 9223372036854775807) :
    Cy wo f cb mb sh b0 R S nodes k0 AO co (⟨b, l, its⟩ :: more) (tri w4 b (its.length * 3) (.int .i64 K) (.string s) (.slice none 0 0)) := by
  obtain ⟨ht, -, hnb⟩ := zip_ty hz
  have he := EF.of_fr hf h.box.notTy
  have hw : uweigh f (opens Ls) = uweigh f (opens (⟨b, l, its⟩ :: more)) + 1 := by
    rw [ho, uweigh_app]
    show _ + (exSize (resU f x) + 0) = _
    rw [hx]
    simp [exSize, exSizes]
  have hlen := h.len
  rw [ho, List.length_append, List.length_singleton] at hlen
  have hsum := h.sum
  have hle := h.le
  refine ⟨fr_tri (h.fr.trans hf (fun x hx => Or.inl hx)) hnb _ _ _ _, box_tri hc4 (by omega) _ _ _ _, row_tri (row_fr hr hf hcl) (by decide) (he.ty (by simp) ht.ty) _ _ _ _, by omega, zip_leaf (zip_ef he hz) hx hs, bot_its hb, by omega, by omega⟩
/-- The parts of one that are put on the list. -/
structure Lj (wo : World) (f : ByteArray → Option Ex) (cb mb : Nat) (sh : Option Nat) (N : Int) (k0 j : Nat) (AO : Option Addr) (co : Nat) (rest : List (Lev wo)) (T : Lev wo) (b8 : Nat) (cs : Array Value) (W : World) : Prop where
  fr : Fr [cb] wo W
  box : CBox W cb mb N sh
  zip : Zip W f wo.heap.size (T :: rest)
  bx : W.heap[b8]? = some (.cells cs 26 (0, 0))
  row : W.ownsRow wo.heap.size 117 3 (.slice AO (k0 + j) co) (k0 + j) (uflat (opens rest ++ (openOf T).take j))
theorem cy_push {f : ByteArray → Option Ex} {cb mb b0 S nodes k0 co b b2 b8 : Nat} {sh : Option Nat} {R : Ex} {AO : Option Addr} {Ls more : List (Lev wo)} {l : List Ex} {its us : List (Un wo)} {x : Un wo} {wr w4 : World} {K : Int} {s : ByteArray} {cs : Array Value} {c0 : Nat} {A0 : Option Addr}
    (h : Cy wo f cb mb sh b0 R S nodes (k0 + 1) A0 c0 Ls wr) (hz : Zip wr f wo.heap.size (⟨b, l, its ++ [x]⟩ :: more))
    (hr : wr.ownsRow wo.heap.size 117 3 (.slice AO k0 co) k0 (uflat (opens (⟨b, l, its⟩ :: more)))) (hf : Fr [cb] wr w4) (hc4 : CBox w4 cb mb ((nodes : Int) + us.length) sh) (hcl : cb < wo.heap.size) (hx : resU f x = .mk K s (us.map (resU f))) (hs : s.size ≤ 9223372036854775807)
    (hb2 : wr.heap.size ≤ b2) (hT2 : TyN w4 b2 (us.length * 3)) (hul : us.length ≤ 9223372036854775807) (hb8 : w4.heap[b8]? = some (.cells cs 26 (0, 0))) (h8 : wr.heap.size ≤ b8) :
    Lj wo f cb mb sh ((nodes : Int) + us.length) k0 0 AO co (⟨b, l, its⟩ :: more) ⟨b2, us.map (resU f), us⟩ b8 cs (tri w4 b (its.length * 3) (.int .i64 K) (.string s) (.slice (some ⟨b2, 0, none⟩) us.length us.length)) := by
  obtain ⟨ht, -, hnb⟩ := zip_ty hz
  have he := EF.of_fr hf h.box.notTy
  have hbl := ht.ty.lt
  refine ⟨fr_tri (h.fr.trans hf (fun x hx => Or.inl hx)) hnb _ _ _ _, box_tri hc4 (by omega) _ _ _ _, zip_push hz hx hs he hb2 hT2 hul, (tri_other _ _ _ _ _ _ _ (by omega)).trans hb8, ?_⟩
  have := row_tri (row_fr hr hf hcl) (by decide) (he.ty (by simp) ht.ty) (its.length * 3) (.int .i64 K) (.string s) (.slice (some ⟨b2, 0, none⟩) us.length us.length)
  simpa using this
theorem openOf_get (b : Nat) (l : List Ex) (us : List (Un wo)) {j : Nat} {u : Un wo} (h : us[j]? = some u) : (openOf ⟨b, l, us⟩).take (j + 1) = (openOf ⟨b, l, us⟩).take j ++ [(b, j, u)] := by
  have hj : j < (openOf ⟨b, l, us⟩).length := by rw [openOf_len]; exact (List.getElem?_eq_some_iff.1 h).1
  rw [List.take_succ_eq_append_getElem hj]
  congr 2
  obtain ⟨h1, h2⟩ := List.getElem?_eq_some_iff.1 h
  simp [openOf, h2]
theorem Lj.step {f : ByteArray → Option Ex} {cb mb k0 j co b8 b2 g2 cap2 : Nat} {sh : Option Nat} {N : Int} {AO : Option Addr} {rest : List (Lev wo)} {l : List Ex} {us : List (Un wo)} {u : Un wo} {cs : Array Value} {W W0 W2 : World}
    (h : Lj wo f cb mb sh N k0 j AO co rest ⟨b2, l, us⟩ b8 cs W) (hu : us[j]? = some u) (hcl : cb < wo.heap.size) (h0 : Below W.heap.size W W0)
    (ho : W2.ownsRow wo.heap.size 117 3 (.slice (some ⟨g2, 0, none⟩) (k0 + j + 1) cap2) (k0 + j + 1) (uflat (opens rest ++ (openOf ⟨b2, l, us⟩).take j) ++ ucells (b2, j, u))) (hg : W0.grownBy W2 (Value.ownBlock (.slice AO (k0 + j) co))) :
    Lj wo f cb mb sh N k0 (j + 1) (some ⟨g2, 0, none⟩) cap2 rest ⟨b2, l, us⟩ b8 cs W2 := by
  have hk : ∀ i, i < W.heap.size → Value.ownBlock (.slice AO (k0 + j) co) ≠ some i → W2.heap[i]? = W.heap[i]? := fun i hi hne => (hg.block i (Nat.lt_of_lt_of_le hi h0.size) (fun e => hne e.symm)).trans (h0.block i hi)
  have hlo : ∀ i, i < wo.heap.size → Value.ownBlock (.slice AO (k0 + j) co) ≠ some i := fun i hi e => by have := (h.row.lt i e).1; omega
  have hsz : W.heap.size ≤ W2.heap.size := Nat.le_trans h0.size hg.size
  have hs := h.fr.size
  have hef : EF [] W W2 := ⟨hsz, fun y _ ht => hk y ht.lt (row_not h.row (by decide) ht)⟩
  refine ⟨⟨hg.os.trans (h0.os.trans h.fr.os), hg.tape.trans (h0.tape.trans h.fr.tape), hg.output.trans (h0.output.trans h.fr.output), Nat.le_trans hs hsz, fun i hi hne => (hk i (by omega) (hlo i hi)).trans (h.fr.block i hi hne)⟩, (hk cb (by omega) (hlo cb hcl)).trans h.box, zip_ef hef h.zip, ?_, ?_⟩
  · exact (hef.block b8 (by simp) ⟨_, h.bx⟩).trans h.bx
  · rw [openOf_get b2 l us hu, ← List.append_assoc, uflat_one, ← Nat.add_assoc]
    exact ho
theorem cy_next {f : ByteArray → Option Ex} {cb mb b0 S nodes k0 co b b2 b8 : Nat} {sh : Option Nat} {R : Ex} {AO : Option Addr} {Ls more : List (Lev wo)} {l : List Ex} {its us : List (Un wo)} {x : Un wo} {wr W : World} {K : Int} {s : ByteArray} {cs : Array Value} {c0 : Nat} {A0 : Option Addr}
    (h : Cy wo f cb mb sh b0 R S nodes (k0 + 1) A0 c0 Ls wr) (hb : Bot b0 R (⟨b, l, its ++ [x]⟩ :: more)) (ho : opens Ls = opens (⟨b, l, its⟩ :: more) ++ [(b, its.length, x)]) (hx : resU f x = .mk K s (us.map (resU f)))
    (hl : Lj wo f cb mb sh ((nodes : Int) + us.length) k0 us.length AO co (⟨b, l, its⟩ :: more) ⟨b2, us.map (resU f), us⟩ b8 cs W) :
    Cy wo f cb mb sh b0 R S (nodes + us.length) (k0 + us.length) AO co (⟨b2, us.map (resU f), us⟩ :: ⟨b, l, its⟩ :: more) W ∧ uweigh f (opens Ls) = uweigh f (opens (⟨b2, us.map (resU f), us⟩ :: ⟨b, l, its⟩ :: more)) + 1 := by
  have hlen := h.len
  rw [ho, List.length_append, List.length_singleton] at hlen
  have ht : (openOf ⟨b2, us.map (resU f), us⟩).take us.length = openOf ⟨b2, us.map (resU f), us⟩ := List.take_of_length_le (by rw [openOf_len]; exact Nat.le_refl _)
  have hn : opens (⟨b2, us.map (resU f), us⟩ :: ⟨b, l, its⟩ :: more) = opens (⟨b, l, its⟩ :: more) ++ openOf ⟨b2, us.map (resU f), us⟩ := by rw [opens]
  have hw : uweigh f (opens Ls) = uweigh f (opens (⟨b2, us.map (resU f), us⟩ :: ⟨b, l, its⟩ :: more)) + 1 := by
    rw [ho, uweigh_app, hn, uweigh_app, openOf_weigh]
    show _ + (exSize (resU f x) + 0) = _
    rw [hx, exSize]
    show _ + (exSizes (us.map (resU f)) + 1 + 0) = _ + exSizes (us.map (resU f)) + 1
    omega
  have hsum := h.sum
  have hle := h.le
  have hr := hl.row
  rw [ht, ← hn] at hr
  refine ⟨⟨hl.fr, by have := hl.box; rw [show ((nodes + us.length : Nat) : Int) = (nodes : Int) + us.length by omega]; exact this, hr, by rw [hn, List.length_append, openOf_len]; show _ + us.length = _; omega, hl.zip, (show Bot b0 R (⟨b, l, its⟩ :: more) from bot_its hb), by omega, by omega⟩, hw⟩
end
set_option maxHeartbeats 2000000 in
theorem own_argsNone (cb : Nat) (A : Option Addr) (c : Nat) (b : Bool) (w : World) : Calls Try.prog 82 #[.pointer (some ⟨cb, 0, none⟩), .slice A 0 c, .int .i64 (lay b)] w (fun r w2 => r = .returned (.tuple #[.slice none 0 0, .bool false]) ∧ Below w.heap.size w w2) := by
  have HB := Lib.hid (Below.refl w.heap.size w)
  go_enter Try.func82, Try.ntmps82
  go_wp2_with fail
  refine bodyPost_ret (v := .tuple #[.slice none 0 0, .bool false]) (by simp [results, Try.results82, go_sem]) rfl ?_
  exact ⟨rfl, HB.out⟩
end Go.Proofs.Ytegigjnlecpplaa

namespace Go.Proofs.Ytegigjnlecpplaa
open Go Go.RowKit

/-- What copyOf gives. -/
def CopyPost9 (cb : Nat) (R : Ex) (w : World) (r : Ending) (w2 : World) : Prop := ∃ v bs, r = .returned v ∧ ExIs w2 v R bs ∧ Mine w2 w.heap.size bs ∧ Fr [cb] w w2
set_option maxRecDepth 100000 in
set_option maxHeartbeats 8000000 in
theorem own_copyOf (f : ByteArray → Option Ex) (cb mb : Nat) (M : List (Value × Value)) (sh : Option Nat) (e : Ex) (v : Value) (bs : List Nat) (w : World) (hx : ExIs w v e bs)
    (hc : CBox w cb mb 0 sh) (hm : MapIs w mb M) (hv : ValsIs w M f) (hS : exSize (subE f e) ≤ 1099511627776)
    (hsh : ∀ (g o n : Nat) (X : World), Fr [cb] w X → (Instr.lookup 73 (.map sh) (.agg #[.pointer (some ⟨g, o, none⟩), .int .i64 (n : Int)]) false).run Try.prog X = .ok (.bool false) X) :
    Calls Try.prog 54 #[.pointer (some ⟨cb, 0, none⟩), v] w (CopyPost9 cb (subE f e) w) := by
  obtain ⟨i0, hi, hz0, hz1, hz2⟩ := info_parts Try.infoUn
  have HI := Lib.hid (And.intro hi (And.intro hz0 (And.intro hz1 hz2)))
  clear hi hz0 hz1 hz2
  obtain ⟨u, rfl, hs, hu⟩ := id hx
  obtain ⟨A, c, rfl, hc1, hc2, -⟩ := id hu
  obtain ⟨m, hm0⟩ : ∃ m, m = e.args.length := ⟨_, rfl⟩
  rw [← hm0] at hx hc1 ⊢
  obtain ⟨wo, hwo⟩ : ∃ wo, wo = (w.alloc (.cells #[.int .i64 e.kind, .string e.name, .slice A m c] 26)).alloc (.cells #[.int .i64 0, .string ⟨#[]⟩, .slice none 0 0] 26) := ⟨_, rfl⟩
  have hbo : Below w.heap.size w wo := by rw [hwo]; exact ((Below.refl _ w).alloc (Nat.le_refl _) _).alloc (by simp) _
  have hso : wo.heap.size = w.heap.size + 1 + 1 := by rw [hwo]; simp
  have hnew : wo.heap[w.heap.size]? = some (.cells #[.int .i64 e.kind, .string e.name, .slice A m c] 26 (0, 0)) := by rw [hwo]; exact (Below.heap_alloc _ _ _ (by simp)).trans (heap_alloc_new w _)
  have hrb : wo.heap[w.heap.size + 1]? = some (.cells #[.int .i64 0, .string ⟨#[]⟩, .slice none 0 0] 26 (0, 0)) := by
    have := heap_alloc_new (w.alloc (.cells #[.int .i64 e.kind, .string e.name, .slice A m c] 26)) (.cells #[.int .i64 0, .string ⟨#[]⟩, .slice none 0 0] 26)
    rw [World.size_alloc] at this
    rw [hwo]; exact this
  have hat : ExAt wo w.heap.size 0 e bs := ExAt.mk (u := .slice A m c) (by simp [World.cell?, hnew]) (by simp [World.cell?, hnew]) (by simp [World.cell?, hnew]) (hx.below hbo)
  have hcl := hc.cells.2.2.2.2.2.2
  have hmne : mb ≠ cb := fun h => by
    obtain ⟨es, clock, h1, -⟩ := id hm
    rw [h, show w.heap[cb]? = _ from hc] at h1
    simp at h1
  have HWO := Lib.hid hwo
  have HBO := Lib.hid hbo
  have HSO := Lib.hid hso
  have HVO := Lib.hid (hv.below hbo)
  have HMO := Lib.hid (hm.on (hbo.block _ hm.lt))
  have HAT := Lib.hid hat
  have HCO := Lib.hid (show CBox wo cb mb 0 sh from (hbo.block _ hcl).trans hc)
  have HRB := Lib.hid hrb
  have HSB := Lib.hid hS
  have HSH := Lib.hid hsh
  have HCL := Lib.hid hcl
  have HNE := Lib.hid hmne
  clear hx hc hm hv hS hsh hs hu hc1 hc2 hm0 hwo hbo hso hnew hrb hat hcl hmne
  go_enter Try.func54, Try.ntmps54
  go_wp2_with fail
  rw [← HWO.out]
  have HR0 := Lib.hid (show ((wo.alloc (.cells #[.int .i64 0, .string ⟨#[]⟩, .slice none 0 0] 26)).alloc (.cells #[.pointer (some ⟨w.heap.size, 0, none⟩), .pointer (some ⟨w.heap.size + 1 + 1, 0, none⟩), .int .i64 0] 117)).ownsRow wo.heap.size 117 3 (.slice (some ⟨w.heap.size + 1 + 1 + 1, 0, none⟩) 1 1) 1 [.pointer (some ⟨w.heap.size, 0, none⟩), .pointer (some ⟨w.heap.size + 1 + 1, 0, none⟩), .int .i64 0] by
    rw [← HSO.out]
    have := World.ownsRow_lit (wo.alloc (.cells #[.int .i64 0, .string ⟨#[]⟩, .slice none 0 0] 26)) (base := wo.heap.size) (e := 117) (size := 3) #[.pointer (some ⟨w.heap.size, 0, none⟩), .pointer (some ⟨wo.heap.size, 0, none⟩), .int .i64 0] 1 (by simp) (by unfold maxLen; omega) rfl
    rw [World.size_alloc] at this
    exact this)
  have HST := Lib.hid (show ∃ Ls, Cy wo f cb mb sh (w.heap.size + 1 + 1) (subE f e) (exSize (subE f e)) 0 1 (some ⟨w.heap.size + 1 + 1 + 1, 0, none⟩) 1 Ls ((wo.alloc (.cells #[.int .i64 0, .string ⟨#[]⟩, .slice none 0 0] 26)).alloc (.cells #[.pointer (some ⟨w.heap.size, 0, none⟩), .pointer (some ⟨w.heap.size + 1 + 1, 0, none⟩), .int .i64 0] 117)) ∧ uweigh f (opens Ls) = exSize (subE f e) from by
    have hb2 : Below wo.heap.size wo ((wo.alloc (.cells #[.int .i64 0, .string ⟨#[]⟩, .slice none 0 0] 26)).alloc (.cells #[.pointer (some ⟨w.heap.size, 0, none⟩), .pointer (some ⟨w.heap.size + 1 + 1, 0, none⟩), .int .i64 0] 117)) := ((Below.refl _ wo).alloc (Nat.le_refl _) _).alloc (by simp) _
    have hty : TyN ((wo.alloc (.cells #[.int .i64 0, .string ⟨#[]⟩, .slice none 0 0] 26)).alloc (.cells #[.pointer (some ⟨w.heap.size, 0, none⟩), .pointer (some ⟨w.heap.size + 1 + 1, 0, none⟩), .int .i64 0] 117)) wo.heap.size 3 := ⟨_, (Below.heap_alloc _ _ _ (by simp)).trans (heap_alloc_new wo _), rfl⟩
    rw [HSO.out] at hty
    obtain ⟨z1, z2⟩ := zip_start (w := (wo.alloc (.cells #[.int .i64 0, .string ⟨#[]⟩, .slice none 0 0] 26)).alloc (.cells #[.pointer (some ⟨w.heap.size, 0, none⟩), .pointer (some ⟨w.heap.size + 1 + 1, 0, none⟩), .int .i64 0] 117)) f (n0 := wo.heap.size) (b0 := w.heap.size + 1 + 1) ((⟨(w.heap.size, 0, e, bs), HAT.out, by have := HSO.out; show w.heap.size < wo.heap.size; omega⟩, false) : Un wo) (Nat.le_of_eq HSO.out) hty
    refine ⟨_, ⟨Fr.of_below hb2, (hb2.block _ (Array.getElem?_eq_some_iff.1 HCO.out).1).trans HCO.out, ?_, rfl, z1, z2, ?_, ?_⟩, ?_⟩
    · exact HR0.out
    · show 0 + 1 + (exSize (subE f e) + 0) = _
      omega
    · show exSize (subE f e) + 0 ≤ _
      omega
    · rfl)
  clear HR0
  obtain ⟨Wi, hWi⟩ : ∃ Wi, Wi = (wo.alloc (.cells #[.int .i64 0, .string ⟨#[]⟩, .slice none 0 0] 26)).alloc (.cells #[.pointer (some ⟨w.heap.size, 0, none⟩), .pointer (some ⟨w.heap.size + 1 + 1, 0, none⟩), .int .i64 0] 117) := ⟨_, rfl⟩
  rw [← hWi]
  rw [← hWi] at HST
  clear hWi
  go_loopg [6] (exSize (subE f e)) (fun gk a wr => ∃ (nodes k : Nat) (AO : Option Addr) (co : Nat) (Ls : List (Lev wo)), a = .slice AO k co ∧ nodes ≤ 1099511627776 ∧ k ≤ 1099511627776 ∧ Hid (gk = uweigh f (opens Ls)) ∧ Hid (Cy wo f cb mb sh (w.heap.size + 1 + 1) (subE f e) (exSize (subE f e)) nodes k AO co Ls wr))
  case atStart =>
    obtain ⟨Ls, h1, h2⟩ := HST.out
    exact ⟨0, 1, _, _, Ls, rfl, by omega, by omega, Lib.hid h2.symm, Lib.hid h1⟩
  case round =>
    clear HST
    obtain ⟨nodes, k, AO, co, Ls, rfl, hnb, hkb, HG, HL⟩ := hrel
    by_cases hk : k = 0
    · rcases zip_norm Ls HL.out.zip HL.out.bot with ⟨-, T, hz, hb, hl, ht⟩ | ⟨b, l, its, x, more, -, -, hop⟩
      rotate_left
      · have := HL.out.len
        rw [hop, List.length_append, List.length_singleton] at this
        omega
      subst hk
      obtain ⟨rs, hra, hrn, hrr, hrt, -⟩ := zip_end hz hb hl ht
      clear hz hb hl ht
      obtain ⟨ru, r0, r1, r2, hri⟩ := hra.is
      obtain ⟨ru', e1, -, RA, rc, e2, -⟩ := id hri
      simp only [Value.agg.injEq, Array.mk.injEq, List.cons.injEq, and_true, true_and] at e1
      subst e1; subst e2
      have hso := HSO.out
      have hos := HL.out.fr.size
      have hcl := HCL.out
      have hbr := (HL.out.fr.block (w.heap.size + 1) (by omega) (by simp; omega)).trans HRB.out
      have z0 : wr.cell? ⟨w.heap.size + 1, 0, none⟩ = some (.int .i64 0) := by simp [World.cell?, hbr]
      have z1 : wr.cell? ⟨w.heap.size + 1, 1, none⟩ = some (.string ⟨#[]⟩) := by simp [World.cell?, hbr]
      have z2 : wr.cell? ⟨w.heap.size + 1, 2, none⟩ = some (.slice none 0 0) := by simp [World.cell?, hbr]
      have zf : ∀ o, wr.frozen? ⟨w.heap.size + 1, o, none⟩ = false := fun o => by simp [World.frozen?, hbr]
      have zl : w.heap.size + 1 < wr.heap.size := (Array.getElem?_eq_some_iff.1 hbr).1
      have hb0 := hrt.lt
      simp only [Nat.zero_add] at r0 r1 r2
      obtain ⟨R, hR⟩ : ∃ R, R = subE f e := ⟨_, rfl⟩
      have HRR := Lib.hid hR
      rw [← hR] at r0 r1 r2 hri
      obtain ⟨RN, hRN⟩ : ∃ n, n = R.args.length := ⟨_, rfl⟩
      rw [← hRN] at r2 hri
      have HEND := Lib.hid (show CopyPost9 cb R w (.returned (.agg #[.int .i64 R.kind, .string R.name, .slice RA RN rc])) (tri wr (w.heap.size + 1) 0 (.int .i64 R.kind) (.string R.name) (.slice RA RN rc)) from by
        have hk : Keeps wr (tri wr (w.heap.size + 1) 0 (.int .i64 R.kind) (.string R.name) (.slice RA RN rc)) rs := ⟨by rw [tri_size]; exact Nat.le_refl _, fun x hx _ => tri_other _ _ _ _ _ _ x (by have := (hrr x hx).1; omega)⟩
        refine ⟨_, rs, rfl, hri.keeps hk, ?_, ?_⟩
        · exact (show Mine wr w.heap.size rs from ⟨hrn, fun x hx => ⟨by have := (hrr x hx).1; omega, (hrr x hx).2.lt⟩, fun x hx => (hrr x hx).2.free⟩).keeps hk
        · exact ((Fr.of_below (S := [cb]) HBO.out).trans HL.out.fr (fun x h => Or.inl h)).trans (T := [w.heap.size + 1]) ⟨rfl, rfl, rfl, by rw [tri_size]; exact Nat.le_refl _, fun i _ hne => tri_other _ _ _ _ _ _ i (by simpa using hne)⟩ (fun x hx => Or.inr (by simp at hx; omega)))
      clear hra hrn hrr hrt hri hbr hR hRN hso hos hcl
      go_wp2_with fail
      refine bodyPost_ret (v := .agg #[.int .i64 R.kind, .string R.name, .slice RA RN rc]) (by simp [results, Try.results54, go_sem, z0, z1, z2]) rfl ?_
      rw [← HRR.out]
      exact HEND.out
    · rcases zip_norm Ls HL.out.zip HL.out.bot with ⟨h, -⟩ | ⟨b, l, its, x, more, hzip, hbot, hop⟩
      · have := HL.out.len
        rw [h] at this
        exact absurd this.symm hk
      obtain ⟨k0, rfl⟩ : ∃ k0, k = k0 + 1 := ⟨k - 1, by omega⟩
      have hk0 : (k0 : Int) ≤ 1099511627776 := by omega
      have hnb2 : (nodes : Int) ≤ 1099511627776 := by omega
      have hrow := HL.out.row
      rw [hop, uflat_one] at hrow
      obtain ⟨g, rfl, hg1, hg2, hco1, hco2, t0, t1, t2, hrow0⟩ := top3 hrow
      have HROW := Lib.hid hrow0
      have HZIP := Lib.hid hzip
      have HBOT := Lib.hid hbot
      have HOP := Lib.hid hop
      obtain ⟨px, hpx⟩ : ∃ z, z = x.1.1.1 := ⟨_, rfl⟩
      obtain ⟨po, hpo⟩ : ∃ z, z = x.1.1.2.1 := ⟨_, rfl⟩
      obtain ⟨xb, hxb⟩ : ∃ z, z = x.2 := ⟨_, rfl⟩
      obtain ⟨tp, htp⟩ : ∃ z, z = its.length := ⟨_, rfl⟩
      have hadr : x.1.adr = ⟨px, po, none⟩ := by rw [hpx, hpo]; rfl
      simp only at t0 t1 t2
      rw [hadr] at t0
      rw [← htp] at t1
      rw [← hxb] at t2
      have HTP := Lib.hid htp
      obtain ⟨PA, pc, pbs, p0, p1, p2, pis⟩ := x.1.parts
      rw [← hpx, ← hpo] at p0 p1 p2
      have hpxl : px < wo.heap.size := by rw [hpx]; exact x.1.2.2
      have hpne : px ≠ cb := by rw [hpx]; exact pt_ne x.1 HCO.out
      obtain ⟨PE, hPE⟩ : ∃ z, z = x.1.ex := ⟨_, rfl⟩
      rw [← hPE] at p0 p1 p2 pis
      obtain ⟨pn, hpn⟩ : ∃ z, z = PE.args.length := ⟨_, rfl⟩
      rw [← hpn] at p2 pis
      have HRES := Lib.hid (show resU f x = resE f PE xb by rw [hPE, hxb]; rfl)
      have hblk := HL.out.fr.block px hpxl (by simpa using hpne)
      have q0 := (World.cell?_of_block (w := wo) (w' := wr) (a := ⟨px, po, none⟩) hblk).trans p0
      have q1 := (World.cell?_of_block (w := wo) (w' := wr) (a := ⟨px, po + 1, none⟩) hblk).trans p1
      have q2 := (World.cell?_of_block (w := wo) (w' := wr) (a := ⟨px, po + 2, none⟩) hblk).trans p2
      have HPIS := Lib.hid pis
      have HPX := Lib.hid hpxl
      clear hrow hrow0 hadr hpx hpo hxb hPE hpn p0 p1 p2 pis hpxl hpne hblk htp hzip hbot hop
      have hk1 : (0 : Int) ≤ (k0 : Int) := by omega
      have HSS := Lib.hid (show ∀ X, Below wr.heap.size wr X → X.cell? ⟨px, po, none⟩ = some (.int .i64 PE.kind) ∧ X.cell? ⟨px, po + 1, none⟩ = some (.string PE.name) ∧ X.cell? ⟨px, po + 2, none⟩ = some (.slice PA pn pc) from fun X hX => by
        have hpl : px < wr.heap.size := Nat.lt_of_lt_of_le HPX.out HL.out.fr.size
        exact ⟨(hX.cell (p := ⟨px, po, none⟩) hpl).trans q0, (hX.cell (p := ⟨px, po + 1, none⟩) hpl).trans q1, (hX.cell (p := ⟨px, po + 2, none⟩) hpl).trans q2⟩)
      obtain ⟨RE, hRE⟩ : ∃ z, z = replE f PE xb := ⟨_, rfl⟩
      obtain ⟨RB, hRB⟩ : ∃ z, z = replB PE xb := ⟨_, rfl⟩
      have HRE := Lib.hid hRE
      have HRB := Lib.hid hRB
      have HCALL := Lib.hid (show ∀ X, Below wr.heap.size wr X → Calls Try.prog 79 #[.pointer (some ⟨cb, 0, none⟩), .agg #[.int .i64 PE.kind, .string PE.name, .slice PA pn pc], .int .i64 (lay xb)] X (ReplP wo RE RB X) from fun X hX => by
        rw [hRE, hRB]
        have hcb : CBox X cb mb (nodes : Int) sh := (hX.block _ (Array.getElem?_eq_some_iff.1 HL.out.box).1).trans HL.out.box
        have hml := HMO.out.lt
        have hmm : MapIs X mb M := HMO.out.on ((hX.block _ (Nat.lt_of_lt_of_le hml HL.out.fr.size)).trans (HL.out.fr.block mb hml (by simpa using HNE.out)))
        exact own_replaced wo f cb mb M PE xb PA pn pc pbs X HPIS.out hcb.cells.1 hmm HVO.out)
      clear q0 q1 q2 hRE hRB
      go_wp2_with fail
      obtain ⟨W1, hW1⟩ : ∃ W1, W1 = wr.alloc (.cells #[.pointer (some ⟨px, po, none⟩), .pointer (some ⟨b, tp * 3, none⟩), .int .i64 (lay xb)] 117) := ⟨_, rfl⟩
      rw [← hW1]
      have HB1 := Lib.hid (show Below wr.heap.size wr W1 by rw [hW1]; exact (Below.refl _ _).alloc (Nat.le_refl _) _)
      have HNX := Lib.hid (show W1.heap[wr.heap.size]? = some (.cells #[.pointer (some ⟨px, po, none⟩), .pointer (some ⟨b, tp * 3, none⟩), .int .i64 (lay xb)] 117 (0, 0)) by rw [hW1]; exact heap_alloc_new wr _)
      have HS := Lib.hid (show ∀ X, Below W1.heap.size W1 X → X.cell? ⟨px, po, none⟩ = some (.int .i64 PE.kind) ∧ X.cell? ⟨px, po + 1, none⟩ = some (.string PE.name) ∧ X.cell? ⟨px, po + 2, none⟩ = some (.slice PA pn pc) ∧ X.cell? ⟨wr.heap.size, 0, none⟩ = some (.pointer (some ⟨px, po, none⟩)) ∧ X.cell? ⟨wr.heap.size, 2, none⟩ = some (.int .i64 (lay xb)) from fun X hX => by
        have hl := (Array.getElem?_eq_some_iff.1 HNX.out).1
        have h := HSS.out X (HB1.out.trans (hX.mono HB1.out.size))
        exact ⟨h.1, h.2.1, h.2.2, (hX.cell (p := ⟨wr.heap.size, 0, none⟩) hl).trans (by simp [World.cell?, HNX.out]), (hX.cell (p := ⟨wr.heap.size, 2, none⟩) hl).trans (by simp [World.cell?, HNX.out])⟩)
      clear hW1
      refine cut_r9 (fun a W => ∃ (b8 : Nat) (RA : Option Addr) (rq rc : Nat) (rbs : List Nat), a = { tmps := #[.pointer (some ⟨cb, 0, none⟩), .agg #[.int .i64 e.kind, .string e.name, .slice A m c], undef, .pointer (some ⟨w.heap.size, 0, none⟩), .pointer (some ⟨w.heap.size + 1, 0, none⟩), .pointer (some ⟨w.heap.size + 1 + 1, 0, none⟩), .slice (some ⟨g, 0, none⟩) k0 co, .pointer (some ⟨wr.heap.size, 0, none⟩), .pointer (some ⟨b8, 0, none⟩), .int .i64 (lay RB), u10, u11, u12, .agg #[.pointer (some ⟨w.heap.size, 0, none⟩), .pointer (some ⟨w.heap.size + 1 + 1, 0, none⟩), .int .i64 0], .slice (some ⟨w.heap.size + 1 + 1 + 1, 0, none⟩) 1 1, .slice (some ⟨g, 0, none⟩) (k0 + 1) co, .int .i64 ((k0 : Int) + 1), .bool true, .slice (some ⟨g, 0, none⟩) (k0 + 1) co, .slice (some ⟨g, 0, none⟩) (k0 + 1) co, .int .i64 ((k0 : Int) + 1), .int .i64 (k0 : Int), .pointer (some ⟨g, k0 * 3, none⟩), .agg #[.pointer (some ⟨px, po, none⟩), .pointer (some ⟨b, tp * 3, none⟩), .int .i64 (lay xb)], .slice (some ⟨g, 0, none⟩) (k0 + 1) co, .slice (some ⟨g, 0, none⟩) (k0 + 1) co, .int .i64 ((k0 : Int) + 1), .int .i64 (k0 : Int), .slice (some ⟨g, 0, none⟩) k0 co, .tuple #[.agg #[.int .i64 RE.kind, .string RE.name, .slice RA rq rc], .int .i64 (lay RB)], .pointer (some ⟨cb, 0, none⟩), .pointer (some ⟨wr.heap.size, 0, none⟩), .pointer (some ⟨px, po, none⟩), .pointer (some ⟨px, po, none⟩), .agg #[.int .i64 PE.kind, .string PE.name, .slice PA pn pc], .pointer (some ⟨wr.heap.size, 2, none⟩), .int .i64 (lay xb), .tuple #[.agg #[.int .i64 RE.kind, .string RE.name, .slice RA rq rc], .int .i64 (lay RB)], .agg #[.int .i64 RE.kind, .string RE.name, .slice RA rq rc], .int .i64 (lay RB), u40, u41, u42, u43, u44, u45, u46, u47, u48, u49, u50, u51, u52, u53, u54, u55, u56, u57, u58, u59, u60, u61, u62, u63, u64, u65, u66, u67, u68, u69, u70, u71, u72, u73, u74, u75, u76, u77, u78, u79, u80, u81, u82, u83, u84, u85, u86, u87, u88, u89, u90, undef], defers := [] } ∧ Below wr.heap.size wr W ∧ W.heap[b8]? = some (.cells #[.int .i64 RE.kind, .string RE.name, .slice RA rq rc] 26 (0, 0)) ∧ ExIs wo (.agg #[.int .i64 RE.kind, .string RE.name, .slice RA rq rc]) RE rbs ∧ wr.heap.size ≤ b8 ∧ W.heap[wr.heap.size]? = some (.cells #[.pointer (some ⟨px, po, none⟩), .pointer (some ⟨b, tp * 3, none⟩), .int .i64 (lay xb)] 117 (0, 0))) ?_ ?_
      · go_region_held3 (fun X => X.cell? ⟨px, po, none⟩ = some (.int .i64 PE.kind) ∧ X.cell? ⟨px, po + 1, none⟩ = some (.string PE.name) ∧ X.cell? ⟨px, po + 2, none⟩ = some (.slice PA pn pc) ∧ X.cell? ⟨wr.heap.size, 0, none⟩ = some (.pointer (some ⟨px, po, none⟩)) ∧ X.cell? ⟨wr.heap.size, 2, none⟩ = some (.int .i64 (lay xb)))
          (first
          | exact HS.out _ ((Below.refl _ _).drew)
          | exact HS.out _ (((Below.refl _ _).alloc (Nat.le_refl _) _).drew)
          | exact HS.out _ HB2.out
          | exact HS.out _ (HB2.out.alloc HB2.out.size _)
          | exact HS.out _ (below_tri HB2.out (Nat.le_refl _) 0 _ _ _))
          (first
          | (go_at_call 79; refine (HCALL.out _ (HB1.out.trans ((Below.refl W1.heap.size W1).drew.mono HB1.out.size))).mono ?_; rintro r w2 ⟨RA, rq, rc, rbs, rfl, hri, hb2⟩; have HB2 := Lib.hid ((Below.refl W1.heap.size W1).drew.trans hb2); have HRI := Lib.hid hri; clear hb2 hri)
          | (go_at_call 79; refine (HCALL.out _ (HB1.out.trans ((((Below.refl W1.heap.size W1).alloc (Nat.le_refl _) _).drew).mono HB1.out.size))).mono ?_; rintro r w2 ⟨RA, rq, rc, rbs, rfl, hri, hb2⟩; have HB2 := Lib.hid ((((Below.refl W1.heap.size W1).alloc (Nat.le_refl _) _).drew).trans (hb2.mono (by simp))); have HRI := Lib.hid hri; obtain ⟨r0, r1, r2, rf, rl, HZB⟩ := zero_box9 hb2; clear hb2 hri))
        · exact ⟨_, _, _, _, _, rfl, (HB1.out.trans (HB2.out.mono HB1.out.size)).alloc (Nat.le_trans HB1.out.size HB2.out.size) _, heap_alloc_new _ _, HRI.out, Nat.le_trans HB1.out.size HB2.out.size, (Below.heap_alloc _ _ _ (Nat.lt_of_lt_of_le (Array.getElem?_eq_some_iff.1 HNX.out).1 HB2.out.size)).trans ((HB2.out.block _ (Array.getElem?_eq_some_iff.1 HNX.out).1).trans HNX.out)⟩
        · exact ⟨_, _, _, _, _, rfl, below_tri (HB1.out.trans (HB2.out.mono HB1.out.size)) HB1.out.size 0 _ _ _, tri_box9 HZB.out _ _ _, HRI.out, HB1.out.size, (tri_other _ _ _ _ _ _ _ (by have := (Array.getElem?_eq_some_iff.1 HNX.out).1; omega)).trans ((HB2.out.block _ (Array.getElem?_eq_some_iff.1 HNX.out).1).trans HNX.out)⟩
      rintro _ W2 ⟨b8, RA, rq, rc, rbs, rfl, hb2, hbx, hri, hb8, hnx⟩
      have HLW := Lib.hid (show lay RB = lay xb ∨ (lay RB ≠ lay xb) by omega)
      obtain ⟨LB, hLB⟩ : ∃ z, z = lay RB := ⟨_, rfl⟩
      obtain ⟨LX, hLX⟩ : ∃ z, z = lay xb := ⟨_, rfl⟩
      obtain ⟨u', e1, hsz, hsl⟩ := hri
      simp only [Value.agg.injEq, Array.mk.injEq, List.cons.injEq, and_true, true_and] at e1
      subst e1
      obtain ⟨hrq, hkids⟩ := hsl.pts
      obtain ⟨ks, hks, hka⟩ : ∃ ks : List (Pt wo), ks.map Pt.ex = RE.args ∧ ∀ (i : Nat) (k : Pt wo), ks[i]? = some k → ∃ g o, RA = some ⟨g, o, none⟩ ∧ k.adr = ⟨g, o + i * 3, none⟩ := by
        rcases hkids with h0 | ⟨g, o, rfl, -, ks, e1, e2⟩
        · exact ⟨[], by rw [h0]; rfl, fun i k h => by simp at h⟩
        · exact ⟨ks, e1, fun i k h => ⟨g, o, rfl, e2 i k h⟩⟩
      have hkl : ks.length = rq := by rw [hrq, ← hks, List.length_map]
      obtain ⟨us, hus⟩ : ∃ us : List (Un wo), us = ks.map (fun p => (p, RB)) := ⟨_, rfl⟩
      have hul : us.length = rq := by rw [hus, List.length_map, hkl]
      have hres : resU f x = .mk RE.kind RE.name (us.map (resU f)) := by
        rw [HRES.out, res_is f PE xb, ← HRE.out, ← HRB.out, ← hks, hus, List.map_map, List.map_map]
        rfl
      have hua : ∀ (i : Nat) (u : Un wo), us[i]? = some u → ∃ g o, RA = some ⟨g, o, none⟩ ∧ u.1.adr = ⟨g, o + i * 3, none⟩ ∧ u.2 = RB := fun i u hu => by
        rw [hus, List.getElem?_map] at hu
        cases hk : ks[i]? with
        | none => rw [hk] at hu; cases hu
        | some p =>
          rw [hk] at hu
          simp only [Option.map_some, Option.some.injEq] at hu
          obtain ⟨g, o, h1, h2⟩ := hka i p hk
          rw [← hu]
          exact ⟨g, o, h1, h2, rfl⟩
      obtain ⟨hopw, hopr⟩ : uweigh f (opens Ls) = uweigh f (opens ((⟨b, l, its⟩ : Lev wo) :: more)) + exSize (resU f x) ∧ (opens ((⟨b, l, its⟩ : Lev wo) :: more)).length = k0 := by
        refine ⟨by rw [HOP.out, uweigh_app]; show _ + (exSize (resU f x) + 0) = _; omega, ?_⟩
        have := HL.out.len
        rw [HOP.out, List.length_append, List.length_singleton] at this
        omega
      have hrqb : nodes + rq ≤ 1099511627776 ∧ k0 + rq ≤ 1099511627776 ∧ k0 ≤ uweigh f (opens ((⟨b, l, its⟩ : Lev wo) :: more)) := by
        have h1 := HL.out.sum
        have h2 := HL.out.le
        have h3 := uweigh_len f (opens ((⟨b, l, its⟩ : Lev wo) :: more))
        have h4 : exSize (resU f x) = exSizes (us.map (resU f)) + 1 := by rw [hres, exSize]
        have h5 := sizes_len (us.map (resU f))
        rw [List.length_map, hul] at h5
        have h6 := HSB.out
        rw [hopr] at h3
        rw [hopw] at h1 h2
        refine ⟨?_, ?_, h3⟩ <;> omega
      have HUA := Lib.hid hua
      have HUL := Lib.hid hul
      have HRS := Lib.hid hres
      have HSZ := Lib.hid hsz
      have HOW := Lib.hid hopw
      have HRQ := Lib.hid hrqb
      have hrq2 : (rq : Int) ≤ 1099511627776 := by omega
      have hnr2 : (nodes : Int) + (rq : Int) ≤ 1099511627776 := by omega
      have hcl := HCL.out
      have hcl2 : cb < wo.heap.size := Nat.lt_of_lt_of_le HCL.out HBO.out.size
      have HC2 := Lib.hid (show CBox W2 cb mb (nodes : Int) sh from (hb2.block _ (Array.getElem?_eq_some_iff.1 HL.out.box).1).trans HL.out.box)
      have HWW := Lib.hid (show ∀ W3, (W3 = W2 ∨ W3 = W2.setCell ⟨cb, 4, none⟩ (.map none)) → Fr [cb] wr W3 ∧ CBox W3 cb mb (nodes : Int) sh ∧ W3.heap[b8]? = some (.cells #[.int .i64 RE.kind, .string RE.name, .slice RA rq rc] 26 (0, 0)) ∧ W3.heap[wr.heap.size]? = some (.cells #[.pointer (some ⟨px, po, none⟩), .pointer (some ⟨b, tp * 3, none⟩), .int .i64 (lay xb)] 117 (0, 0)) from fun W3 hW => by
        have hs := HL.out.fr.size
        rcases hW with rfl | rfl
        · exact ⟨Fr.of_below hb2, HC2.out, hbx, hnx⟩
        · exact ⟨(Fr.of_below (S := [cb]) hb2).trans (T := [cb]) (Fr.set _ _ _ (by simp)) (fun x h => Or.inl h), HC2.out.set4, (Below.heap_setCell _ _ _ _ (by simp; omega)).trans hbx, (Below.heap_setCell _ _ _ _ (by simp; omega)).trans hnx⟩)
      obtain ⟨-, c1, -, -, c4, cf, cl2⟩ := HC2.out.cells
      have n1 : W2.cell? ⟨wr.heap.size, 1, none⟩ = some (.pointer (some ⟨b, tp * 3, none⟩)) := by simp [World.cell?, hnx]
      have n2 : W2.cell? ⟨wr.heap.size, 2, none⟩ = some (.int .i64 LX) := by simp [World.cell?, hnx, hLX]
      have x2 : W2.cell? ⟨b8, 2, none⟩ = some (.slice RA rq rc) := by simp [World.cell?, hbx]
      have hb8l : b8 < W2.heap.size := (Array.getElem?_eq_some_iff.1 hbx).1
      have hnl : wr.heap.size < W2.heap.size := (Array.getElem?_eq_some_iff.1 hnx).1
      have hcb8 : cb ≠ b8 := by have := HL.out.fr.size; omega
      have hcbn : cb ≠ wr.heap.size := by have := HL.out.fr.size; omega
      have HLXB := Lib.hid (And.intro hLB hLX)
      rw [← hLB]
      clear HLW hsl hrq hkids hks hka hkl hus hul hres hua hopw hopr hrqb hsz hb2 hbx hnx hLB hLX
      obtain ⟨NZ, hNZ⟩ : ∃ z, z = (nodes : Int) := ⟨_, rfl⟩
      rw [← hNZ] at c1
      have hcase : LB = LX ∨ (LB ≠ LX ∧ NZ < 8388608) ∨ (LB ≠ LX ∧ 8388608 ≤ NZ) := by omega
      clear hNZ
      by_cases hr0 : rq = 0
      · subst hr0
        have HARG := Lib.hid (show ∀ W3, (W3 = W2 ∨ W3 = W2.setCell ⟨cb, 4, none⟩ (.map none)) → Calls Try.prog 82 #[.pointer (some ⟨cb, 0, none⟩), .slice RA 0 rc, .int .i64 LB] W3 (fun r w4 => r = .returned (.tuple #[.slice none 0 0, .bool false]) ∧ Hid (Fr [cb] wr w4 ∧ CBox w4 cb mb (nodes : Int) sh ∧ w4.heap[b8]? = some (.cells #[.int .i64 RE.kind, .string RE.name, .slice RA 0 rc] 26 (0, 0)) ∧ w4.heap[wr.heap.size]? = some (.cells #[.pointer (some ⟨px, po, none⟩), .pointer (some ⟨b, tp * 3, none⟩), .int .i64 (lay xb)] 117 (0, 0))) ∧ ∃ y0 y1 y2, w4.cell? ⟨b, tp * 3, none⟩ = some y0 ∧ w4.cell? ⟨b, tp * 3 + 1, none⟩ = some y1 ∧ w4.cell? ⟨b, tp * 3 + 2, none⟩ = some y2 ∧ (∀ o, w4.frozen? ⟨b, o, none⟩ = false) ∧ b < w4.heap.size ∧ w4.cell? ⟨b8, 0, none⟩ = some (.int .i64 RE.kind) ∧ w4.cell? ⟨b8, 1, none⟩ = some (.string RE.name) ∧ w4.cell? ⟨wr.heap.size, 1, none⟩ = some (.pointer (some ⟨b, tp * 3, none⟩)) ∧ b8 < w4.heap.size ∧ wr.heap.size < w4.heap.size) from fun W3 hW => by
          rw [HLXB.out.1]
          obtain ⟨f1, f2, f3, f4⟩ := HWW.out W3 hW
          refine (own_argsNone cb RA rc RB W3).mono ?_
          rintro r w4 ⟨rfl, h4⟩
          have g1 : Fr [cb] wr w4 := f1.trans (Fr.of_below (S := [cb]) h4) (fun x h => Or.inl h)
          have g3 := (h4.block _ (Array.getElem?_eq_some_iff.1 f3).1).trans f3
          have g4 := (h4.block _ (Array.getElem?_eq_some_iff.1 f4).1).trans f4
          obtain ⟨ht, hp, -⟩ := zip_ty HZIP.out
          rw [← HTP.out] at hp
          obtain ⟨y0, y1, y2, s0, s1, s2, sf, sl⟩ := mid_cells g1 HL.out.box ht hp
          exact ⟨rfl, Lib.hid ⟨g1, (h4.block _ (Array.getElem?_eq_some_iff.1 f2).1).trans f2, g3, g4⟩, y0, y1, y2, s0, s1, s2, sf, sl, by simp [World.cell?, g3], by simp [World.cell?, g3], by simp [World.cell?, g4], (Array.getElem?_eq_some_iff.1 g3).1, (Array.getElem?_eq_some_iff.1 g4).1⟩)
        rcases hcase with hc | ⟨hc, hn8⟩ | ⟨hc, hn8⟩
        all_goals
          first
          | (have hne : (LB != LX) = true := by simp [hc])
          | (have hne : (LB != LX) = false := by simp [hc])
          clear hc
          go_wp2_with (go_at_call 82; refine (HARG.out _ (by first | exact Or.inl rfl | exact Or.inr rfl)).mono ?_; rintro r w4 ⟨rfl, HM4, y0, y1, y2, s0, s1, s2, sf, sl, z0, z1, z2, zl, zm⟩)
          go_roundg (uweigh f (opens ((⟨b, l, its⟩ : Lev wo) :: more)))
          case measure =>
            have h1 := HG.out
            have h2 := HOW.out
            have h3 := exSize_pos (resU f x)
            omega
          case rel =>
            refine ⟨nodes, k0, _, _, _, rfl, hnb, by omega, Lib.hid rfl, Lib.hid ?_⟩
            rw [HTP.out]
            exact cy_leaf HL.out HZIP.out HBOT.out HOP.out HROW.out HM4.out.1 HM4.out.2.1 hcl2 (by rw [HRS.out, List.eq_nil_of_length_eq_zero HUL.out]; rfl) HSZ.out
      · obtain ⟨ux, hux⟩ : ∃ u, us[0]? = some u := ⟨_, List.getElem?_eq_getElem (by rw [HUL.out]; omega)⟩
        obtain ⟨ga, oa, rfl, -, -⟩ := HUA.out 0 ux hux
        clear hux
        have hr1 : 0 < rq := by omega
        have HARG := Lib.hid (show ∀ W3, (W3 = W2 ∨ W3 = W2.setCell ⟨cb, 4, none⟩ (.map none)) → Calls Try.prog 82 #[.pointer (some ⟨cb, 0, none⟩), .slice (some ⟨ga, oa, none⟩) rq rc, .int .i64 LB] W3 (fun r w4 => ∃ b2, r = .returned (.tuple #[.slice (some ⟨b2, 0, none⟩) rq rq, .bool true]) ∧ Hid (Fr [cb] wr w4 ∧ CBox w4 cb mb ((nodes : Int) + us.length) sh ∧ w4.heap[b8]? = some (.cells #[.int .i64 RE.kind, .string RE.name, .slice (some ⟨ga, oa, none⟩) rq rc] 26 (0, 0)) ∧ wr.heap.size ≤ b2 ∧ TyN w4 b2 (us.length * 3)) ∧ ∃ y0 y1 y2, w4.cell? ⟨b, tp * 3, none⟩ = some y0 ∧ w4.cell? ⟨b, tp * 3 + 1, none⟩ = some y1 ∧ w4.cell? ⟨b, tp * 3 + 2, none⟩ = some y2 ∧ (∀ o, w4.frozen? ⟨b, o, none⟩ = false) ∧ b < w4.heap.size ∧ w4.cell? ⟨b8, 0, none⟩ = some (.int .i64 RE.kind) ∧ w4.cell? ⟨b8, 1, none⟩ = some (.string RE.name) ∧ w4.cell? ⟨wr.heap.size, 1, none⟩ = some (.pointer (some ⟨b, tp * 3, none⟩)) ∧ b8 < w4.heap.size ∧ wr.heap.size < w4.heap.size) from fun W3 hW => by
          rw [HLXB.out.1]
          obtain ⟨f1, f2, f3, f4⟩ := HWW.out W3 hW
          have hsz3 := HL.out.fr.size
          refine (own_argsFor cb mb (nodes : Int) sh ga oa rq rc RB W3 f2 hr1 (by omega) (by omega) (by omega) (fun X hX => HSH.out ga oa rq X ((((Fr.of_below (S := [cb]) HBO.out).trans HL.out.fr (fun x h => Or.inl h)).trans f1 (fun x h => Or.inl h)).trans hX (fun x h => Or.inl h)))).mono ?_
          rintro r w4 ⟨b2, rfl, h4, h5, h6, h7⟩
          have g1 : Fr [cb] wr w4 := f1.trans h7 (fun x h => Or.inl h)
          have g3 := (h7.block b8 (Array.getElem?_eq_some_iff.1 f3).1 (by simp; omega)).trans f3
          have g4 := (h7.block wr.heap.size (Array.getElem?_eq_some_iff.1 f4).1 (by simp; omega)).trans f4
          obtain ⟨ht, hp, -⟩ := zip_ty HZIP.out
          rw [← HTP.out] at hp
          obtain ⟨y0, y1, y2, s0, s1, s2, sf, sl⟩ := mid_cells g1 HL.out.box ht hp
          exact ⟨b2, rfl, Lib.hid ⟨g1, by rw [HUL.out]; exact h6, g3, Nat.le_trans f1.size h4, by rw [HUL.out]; exact h5⟩, y0, y1, y2, s0, s1, s2, sf, sl, by simp [World.cell?, g3], by simp [World.cell?, g3], by simp [World.cell?, g4], (Array.getElem?_eq_some_iff.1 g3).1, (Array.getElem?_eq_some_iff.1 g4).1⟩)
        rcases hcase with hc | ⟨hc, hn8⟩ | ⟨hc, hn8⟩
        all_goals
          first
          | (have hne : (LB != LX) = true := by simp [hc])
          | (have hne : (LB != LX) = false := by simp [hc])
          clear hc
          go_wp2_with (go_at_call 82; refine (HARG.out _ (by first | exact Or.inl rfl | exact Or.inr rfl)).mono ?_; rintro r w4 ⟨b2, rfl, HM4, y0, y1, y2, s0, s1, s2, sf, sl, z0, z1, z2, zl, zm⟩)
          have HLJ0 := Lib.hid (show Lj wo f cb mb sh ((nodes : Int) + us.length) k0 0 (some ⟨g, 0, none⟩) co (⟨b, l, its⟩ :: more) ⟨b2, us.map (resU f), us⟩ b8 #[.int .i64 RE.kind, .string RE.name, .slice (some ⟨ga, oa, none⟩) rq rc] (tri w4 b (tp * 3) (.int .i64 RE.kind) (.string RE.name) (.slice (some ⟨b2, 0, none⟩) rq rq)) from by
            have h := cy_push HL.out HZIP.out HROW.out HM4.out.1 HM4.out.2.1 hcl2 HRS.out HSZ.out HM4.out.2.2.2.1 HM4.out.2.2.2.2 (by rw [HUL.out]; omega) HM4.out.2.2.1 hb8
            rw [HUL.out, ← HTP.out] at h
            rw [HUL.out]
            exact h)
          clear n1 n2 x2 c1 c4 cf hne hb8l hnl s0 s1 s2 sf sl z0 z1 z2 zl zm t0 t1 t2
          go_loopw [6, 75] (fun a i wr2 => ∃ (j : Nat) (AO2 : Option Addr) (co2 : Nat), j ≤ rq ∧ i = .int .i64 (j : Int) ∧ a = .slice AO2 (k0 + j) co2 ∧ Hid (Lj wo f cb mb sh ((nodes : Int) + us.length) k0 j AO2 co2 (⟨b, l, its⟩ :: more) ⟨b2, us.map (resU f), us⟩ b8 #[.int .i64 RE.kind, .string RE.name, .slice (some ⟨ga, oa, none⟩) rq rc] wr2)) (fun _ i _ => rq - (intOf i).toNat)
          case atStart => exact ⟨0, _, _, Nat.zero_le _, rfl, rfl, HLJ0⟩
          case round =>
            clear HLJ0
            obtain ⟨j, AO2, co2, hj, rfl, rfl, HLJ⟩ := hrel
            have hbx := HLJ.out.bx
            have b2' : wr.cell? ⟨b8, 2, none⟩ = some (.slice (some ⟨ga, oa, none⟩) rq rc) := by simp [World.cell?, hbx]
            have hbl : b8 < wr.heap.size := (Array.getElem?_eq_some_iff.1 hbx).1
            clear hbx
            by_cases hlt : j < rq
            · obtain ⟨uj, huj⟩ : ∃ u, us[j]? = some u := ⟨_, List.getElem?_eq_getElem (by rw [HUL.out]; exact hlt)⟩
              obtain ⟨ga', oa', e9, hadr, hlay⟩ := HUA.out j uj huj
              cases e9
              have hj0 : (0 : Int) ≤ (j : Int) := by omega
              have hj1 : (j : Int) < (rq : Int) := by omega
              have HUJ := Lib.hid huj
              have HUC := Lib.hid (show ucells (b2, j, uj) = [.pointer (some ⟨ga, oa + j * 3, none⟩), .pointer (some ⟨b2, j * 3, none⟩), .int .i64 LB] by unfold ucells; rw [hadr, hlay, ← HLXB.out.1])
              clear huj hadr hlay
              have CM := Lib.hid (show k0 + j + 1 ≤ maxLen by have := HRQ.out; unfold maxLen; omega)
              have CB := Lib.hid (show (k0 + j + 1) * 24 ≤ 140737488355328 by have := HRQ.out; omega)
              have HSJ := Lib.hid (show ∀ X, Below wr.heap.size wr X → X.cell? ⟨b8, 2, none⟩ = some (.slice (some ⟨ga, oa, none⟩) rq rc) from fun X hX => (hX.cell (p := ⟨b8, 2, none⟩) hbl).trans b2')
              have HRJ := Lib.hid (show (wr.drew.alloc (.cells #[.pointer (some ⟨ga, oa + j * 3, none⟩), .pointer (some ⟨b2, j * 3, none⟩), .int .i64 LB] 117)).ownsRow wo.heap.size 117 3 (.slice AO2 (k0 + j) co2) (k0 + j) _ from World.ownsRow.alloc (w := wr.drew) HLJ.out.row _)
              have CS := Lib.hid (show wo.heap.size ≤ (wr.drew.alloc (.cells #[.pointer (some ⟨ga, oa + j * 3, none⟩), .pointer (some ⟨b2, j * 3, none⟩), .int .i64 LB] 117)).heap.size by have := HLJ.out.fr.size; simp; omega)
              go_wp2_with fail
              go_region_held3 (fun X => X.cell? ⟨b8, 2, none⟩ = some (.slice (some ⟨ga, oa, none⟩) rq rc))
                (first
                | exact HSJ.out _ ((Below.refl _ _).drew)
                | exact HSJ.out _ ((Below.refl _ _).drew.alloc (Nat.le_refl _) _)
                | exact HX5.out)
                (first
                | (refine step_append_lies _ (by rfl) _ _ _ (by rfl) wo.heap.size 117 i0 _ 3 24 Try.underlying118 HI.out.1 HI.out.2.1 HI.out.2.2.1 HI.out.2.2.2 rfl (by decide) (.slice AO2 (k0 + j) co2) (k0 + j) _ (by rfl) HRJ.out ⟨wr.heap.size, 0, none⟩ 1 1 [.pointer (some ⟨ga, oa + j * 3, none⟩), .pointer (some ⟨b2, j * 3, none⟩), .int .i64 LB] (by rfl) (by rfl) (World.news_of_block (heap_alloc_new wr.drew _)) (un_leaf _ _ _) (by decide) CM.out CB.out CS.out (wr.heap.size + 1) (by simp) ?_; intro g9 cap9 w5 ho9 hg9 hat9 hlt9; have HLN := Lib.hid (show Lj wo f cb mb sh ((nodes : Int) + us.length) k0 (j + 1) (some ⟨g9, 0, none⟩) cap9 (⟨b, l, its⟩ :: more) ⟨b2, us.map (resU f), us⟩ b8 #[.int .i64 RE.kind, .string RE.name, .slice (some ⟨ga, oa, none⟩) rq rc] w5 from HLJ.out.step HUJ.out hcl2 ((Below.refl _ _).drew.alloc (Nat.le_refl _) _) (by rw [HUC.out]; exact ho9) hg9); have HX5 := Lib.hid (show w5.cell? ⟨b8, 2, none⟩ = some (.slice (some ⟨ga, oa, none⟩) rq rc) by simp [World.cell?, HLN.out.bx]); clear ho9 hg9 hat9 hlt9))
              go_wp2_with fail
              go_roundw
              case rel => exact ⟨j + 1, _, _, by omega, by go_num, by rw [← Nat.add_assoc], HLN⟩
              case measure => simp [intOf]; omega
            · obtain rfl : j = rq := by omega
              have HCN := Lib.hid (cy_next HL.out HBOT.out HOP.out HRS.out (by rw [HUL.out]; have h := HLJ.out; rw [HUL.out] at h; exact h))
              go_wp2_with fail
              go_roundg (uweigh f (opens ((⟨b2, us.map (resU f), us⟩ : Lev wo) :: ⟨b, l, its⟩ :: more)))
              case measure =>
                have h1 := HG.out
                have h2 := HCN.out.2
                omega
              case rel =>
                refine ⟨nodes + j, k0 + j, _, _, _, rfl, by have := HRQ.out; omega, by have := HRQ.out; omega, Lib.hid rfl, Lib.hid ?_⟩
                have h := HCN.out.1
                rw [HUL.out] at h
                exact h
end Go.Proofs.Ytegigjnlecpplaa

namespace Go.Proofs.Ytegigjnlecpplaa
open Go Go.RowKit Go.Shelf
attribute [local go_sem] Oper.semAt_some

/-- What a range over a slice of bindings hands out: the index, the binding, its value's arguments, its blocks. -/
abbrev Bw (wo : World) : Type := { x : Nat × Bi × Value × List Nat // BiIs wo (.agg #[.string x.2.1.name, .int .i64 x.2.1.val.kind, .string x.2.1.val.name, x.2.2.1]) x.2.1 x.2.2.2 }
def Bw.num {wo : World} (x : Bw wo) : Nat := x.1.1
def Bw.bi {wo : World} (x : Bw wo) : Bi := x.1.2.1
def Bw.val {wo : World} (x : Bw wo) : Value := .agg #[.string x.1.2.1.name, .int .i64 x.1.2.1.val.kind, .string x.1.2.1.val.name, x.1.2.2.1]
/-- The bindings with their numbers, from k on. -/
def bnumd : Nat → List Bi → List (Nat × Bi)
  | _, [] => []
  | k, r :: l => (k, r) :: bnumd (k + 1) l
theorem bnumd_get : ∀ (l : List Bi) (k j : Nat) (r : Bi), l[j]? = some r → (bnumd k l)[j]? = some (k + j, r) := by
  intro l
  induction l with
  | nil => intro k j r h; simp at h
  | cons x t ih =>
    intro k j r h
    cases j with
    | zero => simp at h; rw [h]; rfl
    | succ j => rw [bnumd, List.getElem?_cons_succ, ih (k + 1) j r (by simpa using h)]; congr 2; omega
theorem bnumd_len : ∀ (l : List Bi) (k : Nat), (bnumd k l).length = l.length := by
  intro l
  induction l with
  | nil => intro k; rfl
  | cons x t ih => intro k; rw [bnumd, List.length_cons, List.length_cons, ih]
def Bw.pair {wo : World} (x : Bw wo) : Nat × Bi := (x.num, x.bi)
theorem bmap_push {wo : World} (L : List Bi) (k : Nat) (pre : List (Bw wo)) (x : Bw wo) (h : pre.map Bw.pair = ((bnumd 0 L).drop (k + 1)).reverse) (hx : L[k]? = some x.bi) (hk : x.num = k) : (pre ++ [x]).map Bw.pair = ((bnumd 0 L).drop k).reverse := by
  have hg := bnumd_get L 0 k x.bi hx
  have hl : k < (bnumd 0 L).length := (List.getElem?_eq_some_iff.1 hg).1
  rw [List.drop_eq_getElem_cons hl, List.reverse_cons, List.map_append, h, (List.getElem?_eq_some_iff.1 hg).2, List.map_cons, List.map_nil, Bw.pair, hk, Nat.zero_add]

set_option maxRecDepth 100000 in
set_option maxHeartbeats 2000000 in
theorem bback_in (F : Fence) (n : Nat) (hF : F.fn 90) (hro : F.round = none) (hn : 1 ≤ n) (l Bs : Nat) (wo : World) (A : Option Addr) (m c : Nat) (L : List Bi) (bs : List Nat) (hsl : BlIs wo (.slice A m c) L bs)
    (J Jx : List (Bw wo) → List Nat → World → Prop)
    (hY : ∀ pre x M W1, J pre M W1 → (∀ k ∈ M, k < W1.heap.size) → pre.length < L.length → YieldAt F (n - 1) Try.prog l #[.int .i64 (x.1.1 : Int), x.val] W1 fun e W2 =>
      (e = .returned (.bool true) ∧ J (pre ++ [x]) M W2 ∧ Kept wo.heap.size M W1 W2) ∨ (e = .returned (.bool false) ∧ Jx (pre ++ [x]) M W2 ∧ Kept wo.heap.size M W1 W2))
    (W : World) (hBs : W.cell? ⟨Bs, 0, none⟩ = some (.slice A m c)) (hW : Below wo.heap.size wo W) (h0 : J [] [Bs] W) :
    CallsIn F n Try.prog 90 #[.func (.yield l) #[] #[], .pointer (some ⟨Bs, 0, none⟩)] W fun e W2 => (∃ v, e = .returned v) ∧
      ((∃ (xs : List (Bw wo)) (M : List Nat), xs.map Bw.pair = (bnumd 0 L).reverse ∧ J xs M W2) ∨ (∃ (pre : List (Bw wo)) (M : List Nat), True ∧ Jx pre M W2)) := by
  obtain ⟨hm, hmc, hc⟩ := hsl.len
  have hm3 : (m : Int) ≤ 9223372036854775807 := by omega
  have HS := Lib.hid hsl
  have HM := Lib.hid hm
  have HY := Lib.hid hY
  have HW := Lib.hid hW
  clear hsl hm hY hW
  refine callsIn_of_wp Try.func90 rfl hF ?_ hro
  simp only [Try.ntmps90, List.size_toArray, List.length_cons, List.length_nil, Nat.reduceAdd, Nat.reduceSub, Array.replicate_succ, Array.replicate_zero, List.push_toArray, List.append_toArray, List.nil_append, List.cons_append]
  gi_wp2
  gi_loopw [3] (fun i wr => ∃ (z : Int), i = .int .i64 z ∧ -1 ≤ z ∧ z < m ∧ Hid (∃ (k : Nat) (pre : List (Bw wo)), z = (k : Int) - 1 ∧ J pre [Bs] wr ∧ pre.map Bw.pair = ((bnumd 0 L).drop k).reverse) ∧ wr.cell? ⟨Bs, 0, none⟩ = some (.slice A m c) ∧ Hid (Below wo.heap.size wo wr))
    (fun i _ => (intOf i + 1).toNat)
  case atStart =>
    exact ⟨(m : Int) - 1, rfl, by omega, by omega, Lib.hid ⟨m, [], rfl, h0, by rw [HM.out, ← bnumd_len L 0]; simp⟩, hBs, HW⟩
  case round =>
    obtain ⟨z, rfl, hz0, hz1, HJ, hbx, HB⟩ := hrel
    by_cases hlt : 0 ≤ z
    · obtain ⟨k1, pre, hk, hJs, hpre⟩ := HJ.out
      obtain ⟨k, rfl⟩ : ∃ k, k1 = k + 1 := ⟨k1 - 1, by omega⟩
      obtain rfl : z = (k : Int) := by omega
      have hkL : k < L.length := by rw [← HM.out]; omega
      obtain ⟨g, o, e1, u, b1', hra⟩ := HS.out.get k hkL
      obtain ⟨rfl, hbl', hget, hmem, hcs, his⟩ := hra
      have hcw := hcs.of (w' := wr) (fun mm _ _ => HB.out.cell (p := ⟨g, mm, none⟩) hbl')
      obtain ⟨c0, c1, c2, c3⟩ := hcw
      clear hcs
      have hlen : pre.length < L.length := by
        have h : (pre.map Bw.pair).length = ((bnumd 0 L).drop (k + 1)).reverse.length := by rw [hpre]
        simp [bnumd_len] at h
        omega
      obtain ⟨fn, tmps, assign, body, hy, hR⟩ := HY.out pre ⟨(k, e1, u, b1'), his⟩ [Bs] wr hJs (by
        intro k hk
        rw [List.mem_singleton] at hk
        subst hk
        obtain ⟨o, ho, -⟩ := cells_of_cell hbx
        exact (Array.getElem?_eq_some_iff.1 ho).1) hlen
      dsimp only [Bw.val] at hy
      have HPX := Lib.hid (bmap_push L k pre ⟨(k, e1, u, b1'), his⟩ hpre hget rfl)
      have HR := Lib.hid hR
      clear hR hJs hpre hget hmem hk HJ hkL
      gi_wp2
      refine HR.out.mono ?_
      rintro e W3 (⟨rfl, hJ3, hk3, hkm3⟩ | ⟨rfl, hJx3, -⟩)
      · have HJ3 := Lib.hid hJ3
        have HB3 := Lib.hid (HB.out.trans hk3)
        have hbx3 : W3.cell? ⟨Bs, 0, none⟩ = some (.slice (some ⟨g, o, none⟩) m c) := (World.cell?_of_block (w := wr) (hkm3 Bs (by simp))).trans hbx
        clear hJ3 hk3 hkm3
        gi_wp2
        go_roundw
        case rel => exact ⟨(k : Int) - 1, by first | rfl | go_num, by omega, by omega, Lib.hid ⟨k, _, rfl, HJ3.out, HPX.out⟩, hbx3, HB3⟩
        case measure => first | (simp [intOf]; done) | (simp [intOf]; omega)
      · have HJ3 := Lib.hid hJx3
        clear hJx3
        gi_wp2
        refine bodyPost_ret (results_none rfl _ _ _) rfl ?_
        exact ⟨⟨_, rfl⟩, .inr ⟨_, _, trivial, HJ3.out⟩⟩
    · obtain rfl : z = -1 := by omega
      gi_wp2
      go_end0
      obtain ⟨k1, pre, hk, hJs, hpre⟩ := HJ.out
      obtain rfl : k1 = 0 := by omega
      exact ⟨⟨_, rfl⟩, .inl ⟨pre, by simpa using hpre, _, hJs⟩⟩

set_option maxHeartbeats 1000000 in
theorem bbackward_in (F : Fence) (n : Nat) (hF : F.fn 78) (hro : F.round = none) (A : Option Addr) (m c : Nat) (w : World) :
    CallsIn F n Try.prog 78 #[.slice A m c] w fun e w2 => e = .returned (.func (.func 90) #[] #[.pointer (some ⟨w.heap.size, 0, none⟩)]) ∧ w2 = w.alloc (.cells #[.slice A m c] 29) := by
  refine callsIn_of_wp Try.func78 rfl hF ?_ hro
  simp only [Try.ntmps78, List.size_toArray, List.length_cons, List.length_nil, Nat.reduceAdd, Nat.reduceSub, Array.replicate_succ, Array.replicate_zero, List.push_toArray, List.append_toArray, List.nil_append, List.cons_append]
  gi_wp2
  go_ret
  exact ⟨rfl, rfl⟩
end Go.Proofs.Ytegigjnlecpplaa

namespace Go.Proofs.Ytegigjnlecpplaa
open Go Go.RowKit Go.Shelf
attribute [local go_sem] Oper.semAt_some

theorem binds_stops (F : Fence) (n : Nat) (hro : F.round = none) (hF : ∀ k, F.fn k) (hn : 1 ≤ n) (wo : World) (A : Option Addr) (m c : Nat) (L : List Bi) (bs : List Nat) (hsl : BlIs wo (.slice A m c) L bs) (b : Nat) (w : World) (hb : w.cell? ⟨b, 0, none⟩ = some (.slice A m c)) (hW : Below wo.heap.size wo w) :
    SeqF F n Try.prog 90 #[.pointer (some ⟨b, 0, none⟩)] (fun x : Bw wo => #[.int .i64 (x.1.1 : Int), x.val]) wo.heap.size (fun xs => xs.map Bw.pair = (bnumd 0 L).reverse) (fun _ => True) L.length [b] w := by
  intro l J Jx W hwW hJ hJx hY h0
  exact bback_in F n (hF _) hro hn l b wo A m c L bs hsl J Jx hY W ((hwW.cell (p := ⟨b, 0, none⟩) (World.block_lt_of_cell? w _ hb)).trans hb) (hW.trans (hwW.mono hW.size)) h0

theorem run_makeVals (n : Int) (w : World) : (Instr.makeMap 71 (some (.int .i64 n))).run Try.prog w = .ok (.map (some w.heap.size)) (w.alloc (.map #[] 0)) := by
  simp [Instr.makeMap, run_underlying Try.underlying71, asInt, asIntOf, Result.andThen]
section
variable {wo : World}
def bname (x : Bw wo) : Value := .string x.bi.name
def bval (x : Bw wo) : Value := .agg #[.int .i64 x.1.2.1.val.kind, .string x.1.2.1.val.name, x.1.2.2.1]
/-- The map under way: its box, its block. -/
def MapB (B mb : Nat) (bt : TypeId) (K : Value → Prop) (key val : Bw wo → Value) (pre : List (Bw wo)) (Fp : List Nat) (W : World) : Prop :=
  Fp = [B, mb] ∧ B ≠ mb ∧ Boxed W B bt (.map (some mb)) ∧ ∃ M, MapIs W mb M ∧ (∀ x ∈ M, K x.1) ∧ Firsts key val pre.reverse M
theorem mapb_foot (B mb : Nat) (bt : TypeId) (K : Value → Prop) (key val : Bw wo → Value) (pre : List (Bw wo)) : Foot (MapB B mb bt K key val pre) := by
  rintro Fp X Y ⟨rfl, hne, h1, M, h2, h3⟩ _ hk
  exact ⟨rfl, hne, box_on h1 (hk B (by simp)), M, h2.on (hk mb (by simp)), h3⟩
/-- The rule of a round lies in a box of its own. -/
def Binded (I : List (Bw wo) → List Nat → World → Prop) (tm : Nat → Bw wo → Array Value) (ks : List (Bw wo)) (x : Bw wo) (a : Act) (Fp : List Nat) (X : World) : Prop := ∃ nb Fp0, Fp = nb :: Fp0 ∧ X.heap[nb]? = some (.cells #[.string x.1.2.1.name, .int .i64 x.1.2.1.val.kind, .string x.1.2.1.val.name, x.1.2.2.1] 69 (0, 0)) ∧ nb ∉ Fp0 ∧ I ks Fp0 X ∧ a = { tmps := tm nb x, defers := [] }
theorem binded_foot {I : List (Bw wo) → List Nat → World → Prop} (hI : ∀ ks, Foot (I ks)) (tm : Nat → Bw wo → Array Value) (ks : List (Bw wo)) (x : Bw wo) (a : Act) : Foot (Binded I tm ks x a) := by
  rintro Fp X Y ⟨nb, Fp0, rfl, h1, h2, h3, h4⟩ hs hk
  exact ⟨nb, Fp0, rfl, (hk nb (by simp)).trans h1, h2, hI ks Fp0 X Y h3 hs (fun k h => hk k (by simp [h])), h4⟩
theorem Bw.slice (x : Bw wo) : ∃ A c, x.1.2.2.1 = .slice A x.bi.val.args.length c ∧ (c : Int) ≤ 9223372036854775807 := by
  obtain ⟨u, e, -, ⟨u', e3, -, A3, c3, e4, -, k3, -⟩⟩ := x.2
  simp only [Value.agg.injEq, Array.mk.injEq, List.cons.injEq, and_true, true_and] at e e3
  rw [e, e3, e4]
  exact ⟨A3, c3, rfl, by omega⟩
theorem binded_new {I : List (Bw wo) → List Nat → World → Prop} (hI : ∀ ks, Foot (I ks)) {tm : Nat → Bw wo → Array Value} {ks : List (Bw wo)} {x : Bw wo} {Fp : List Nat} {X : World} (h : I ks Fp X) (hFp : ∀ k ∈ Fp, k < X.heap.size) {u : Value} (hu : x.1.2.2.1 = u) {a : Act} (ha : a = { tmps := tm X.heap.size x, defers := [] }) :
    Fr Fp X (X.alloc (.cells #[.string x.1.2.1.name, .int .i64 x.1.2.1.val.kind, .string x.1.2.1.val.name, u] 69)) ∧ (∀ k ∈ X.heap.size :: Fp, (k ∈ Fp ∨ X.heap.size ≤ k) ∧ k < (X.alloc (.cells #[.string x.1.2.1.name, .int .i64 x.1.2.1.val.kind, .string x.1.2.1.val.name, u] 69)).heap.size) ∧ Binded I tm ks x a (X.heap.size :: Fp) (X.alloc (.cells #[.string x.1.2.1.name, .int .i64 x.1.2.1.val.kind, .string x.1.2.1.val.name, u] 69)) := by
  subst hu
  refine ⟨Fr.alloc _ _, fun k hk => ?_, X.heap.size, Fp, rfl, World.alloc_heap_new X _, fun hm => by have := hFp _ hm; omega, hI ks Fp X _ h (by simp) (fun k hk => Below.heap_alloc X _ k (hFp k hk)), ha⟩
  rcases List.mem_cons.1 hk with rfl | hk
  · exact ⟨Or.inr (Nat.le_refl _), by simp⟩
  · exact ⟨Or.inl hk, by have := hFp k hk; simp; omega⟩
theorem bmap_step {B mb nb : Nat} {bt : TypeId} {K : Value → Prop} {key val : Bw wo → Value} {pre : List (Bw wo)} {x : Bw wo} {M L2 : List (Value × Value)} {X W5 : World} (hne : B ≠ mb) (hB : Boxed X B bt (.map (some mb))) (hmi : MapIs X mb M) (hK : ∀ x ∈ M, K x.1) (hF : Firsts key val pre.reverse M) (hk : K (key x))
    (h2 : MapIs W5 mb L2) (hp : Put M (key x) (val x) L2) (hg : X.grownBy W5 (some mb)) :
    ∃ Fp2, Fr [nb, B, mb] X W5 ∧ (∀ k ∈ Fp2, (k ∈ [nb, B, mb] ∨ X.heap.size ≤ k) ∧ k < W5.heap.size) ∧ MapB B mb bt K key val (pre ++ [x]) Fp2 W5 := by
  refine ⟨[B, mb], Fr.grown hg (fun k e => by cases e; simp), fun k hk => ?_, rfl, hne, box_on hB (hg.block B hB.lt (fun e => hne (Option.some.inj e))), L2, h2, hp.nodup_keys hK hk, ?_⟩
  · simp at hk
    rcases hk with rfl | rfl
    · exact ⟨Or.inl (by simp), Nat.lt_of_lt_of_le hB.lt hg.size⟩
    · exact ⟨Or.inl (by simp), h2.lt⟩
  · obtain ⟨es, clock, -, -, hn⟩ := hmi
    rw [List.reverse_append]
    exact hF.cons hn hp
end
/-- Where the loop begins: the map and its box. -/
theorem start_vals (w W0 : World) (bt st : TypeId) (sl : Value) (h : W0 = ((w.alloc (.map #[] 0)).alloc (.cells #[.map (some w.heap.size)] bt)).alloc (.cells #[sl] st)) :
    W0.heap.size = w.heap.size + 3 ∧ Below w.heap.size w W0 ∧ Boxed W0 (w.heap.size + 1) bt (.map (some w.heap.size)) ∧ MapIs W0 w.heap.size [] ∧ W0.cell? ⟨w.heap.size + 1 + 1, 0, none⟩ = some sl := by
  subst h
  have b1 := MapIs.made w
  have b2 := Boxed.new (w.alloc (.map #[] 0)) bt (.map (some w.heap.size))
  have b3 := Boxed.new ((w.alloc (.map #[] 0)).alloc (.cells #[.map (some w.heap.size)] bt)) st sl
  simp only [World.size_alloc] at b2 b3
  refine ⟨by simp, (((Below.refl _ w).alloc (Nat.le_refl _) _).alloc (by simp) _).alloc (by simp; omega) _, b2.alloc _, ?_, b3.cell⟩
  exact b1.on ((Below.heap_alloc _ _ _ (by simp; omega)).trans (Below.heap_alloc _ _ _ (by simp)))
/-- What firstValues hands back. -/
def ValsPost (l : List Bi) (w : World) (e : Ending) (w2 : World) : Prop :=
  ∃ (mb : Nat) (M : List (Value × Value)) (xs : List (Bw w)), e = .returned (.map (some mb)) ∧ MapIs w2 mb M ∧ (∀ x ∈ M, StrK x.1) ∧ xs.map Bw.pair = bnumd 0 l ∧ Firsts bname bval xs M ∧ w.heap.size ≤ mb ∧ Below w.heap.size w w2

set_option maxRecDepth 100000 in
set_option maxHeartbeats 2000000 in
theorem vals_in (F : Fence) (n : Nat) (hFw : F = Fence.wide) (hro : F.round = none) (hF : ∀ k, F.fn k) (hn : 9 ≤ n) (l : List Bi) (v : Value) (bs : List Nat) (w : World) (hv : BlIs w v l bs) (hb : l.length ≤ 1099511627776) :
    CallsIn F n Try.prog 51 #[v] w (ValsPost l w) := by
  obtain ⟨A, c, rfl, hc1, hc2, -⟩ := id hv
  have HU := Lib.hid hv
  have h1 : 1 ≤ n := by omega
  have HFW := Lib.hid hFw
  obtain ⟨m, hm⟩ : ∃ m, m = l.length := ⟨_, rfl⟩
  rw [← hm] at HU hc1 hb ⊢
  have HM := Lib.hid hm
  have hm2 : (m : Int) ≤ 1099511627776 := by omega
  have hmk := run_makeVals
  clear hv hFw hm
  refine callsIn_of_wp_marks Try.func51 rfl (hF _) ?_ hro
  simp only [Try.ntmps51, List.size_toArray, List.length_cons, List.length_nil, Nat.reduceAdd, Nat.reduceSub, Array.replicate_succ, Array.replicate_zero, List.push_toArray, List.append_toArray, List.nil_append, List.cons_append]
  gi_wp2_with (gi_at_call 78; refine (bbackward_in F (n - 1) (hF _) hro _ _ _ _).mono ?_; rintro r w4 ⟨rfl, rfl⟩)
  obtain ⟨W0, hW0⟩ : ∃ W0, W0 = ((w.alloc (.map #[] 0)).alloc (.cells #[.map (some w.heap.size)] 71)).alloc (.cells #[.slice A m c] 29) := ⟨_, rfl⟩
  rw [← hW0]
  have HX := Lib.hid (start_vals w W0 _ _ _ hW0)
  clear hW0 hmk
  have hx1 := HX.out.1
  refine wpIn_rangeFunc_frame hro h1 (gf := 90) (lb := #[.pointer (some ⟨w.heap.size + 1 + 1, 0, none⟩)]) rfl (hF _) (enters_of Try.func90 (by kernel_rfl) rfl)
    (binds_stops F (n - 1) hro hF (by omega) w A m c l bs HU.out (w.heap.size + 1 + 1) W0 HX.out.2.2.2.2 HX.out.2.1) (Below.refl _ _) (by omega) (by simp; omega) (fun _ => rfl)
    (MapB (w.heap.size + 1) w.heap.size 71 StrK bname bval) (fun _ _ _ _ => False) (mapb_foot (w.heap.size + 1) w.heap.size 71 StrK bname bval) (fun _ _ _ _ _ h _ _ => h) [w.heap.size + 1, w.heap.size] (fun k hk => by simp at hk; rcases hk with rfl | rfl <;> simp <;> omega) ⟨rfl, by omega, HX.out.2.2.1, [], HX.out.2.2.2.1, (fun x hx => by cases hx), firsts_nil⟩
    (Binded (MapB (w.heap.size + 1) w.heap.size 71 StrK bname bval) (fun nb x => #[.slice A m c, undef, .map none, .pointer (some ⟨w.heap.size + 1, 0, none⟩), undef, .pointer (some ⟨nb, 0, none⟩), .slice A m c, .int .i64 (m : Int), .map (some w.heap.size), .slice A m c, .func (.func 90) #[] #[.pointer (some ⟨w.heap.size + 1 + 1, 0, none⟩)], .int .i64 (x.1.1 : Int), x.val, undef, undef, undef, undef, undef, undef])) (binded_foot (mapb_foot (w.heap.size + 1) w.heap.size 71 StrK bname bval) _) ?assign ?body ?done ?stop
  case assign =>
    intro l2 pre x Fp X KX hI hFp hFr hK
    have HI := Lib.hid hI
    have HFP := Lib.hid hFp
    have HKX := Lib.hid hK
    obtain ⟨A1, d1, hv1, -⟩ := x.slice
    have hv : x.val = .agg #[.string x.1.2.1.name, .int .i64 x.1.2.1.val.kind, .string x.1.2.1.val.name, .slice A1 x.bi.val.args.length d1] := by rw [← hv1]; rfl
    have HV1 := Lib.hid hv1
    have HV := Lib.hid hv
    dsimp only
    rw [hv]
    clear hI hFp hFr hK hv hv1
    gi_wp2
    obtain ⟨q1, q2, q3⟩ := binded_new (mapb_foot (w.heap.size + 1) w.heap.size 71 StrK bname bval) (tm := (fun nb x => #[.slice A m c, undef, .map none, .pointer (some ⟨w.heap.size + 1, 0, none⟩), undef, .pointer (some ⟨nb, 0, none⟩), .slice A m c, .int .i64 (m : Int), .map (some w.heap.size), .slice A m c, .func (.func 90) #[] #[.pointer (some ⟨w.heap.size + 1 + 1, 0, none⟩)], .int .i64 (x.1.1 : Int), x.val, undef, undef, undef, undef, undef, undef])) HI.out (fun k hk => (HFP.out k hk).2) HV1.out rfl
    refine HKX.out _ _ _ q1 q2 ?_
    exact (by simpa only [HV.out] using q3)
  case body =>
    rintro l2 pre x _ Fp X ⟨nb, _, rfl, hnx, hnb, ⟨rfl, hne, hB, M, hmi, hKM, hFs⟩, rfl⟩ hFp hFr hlen
    have hn3 : 1 ≤ n - 1 - 1 := by omega
    have hn0 : X.cell? ⟨nb, 0, none⟩ = some (.string x.1.2.1.name) := by simp [World.cell?, hnx]
    have hn1 : X.cell? ⟨nb, 1, none⟩ = some (.int .i64 x.1.2.1.val.kind) := by simp [World.cell?, hnx]
    have hn2 : X.cell? ⟨nb, 2, none⟩ = some (.string x.1.2.1.val.name) := by simp [World.cell?, hnx]
    have hn4 : X.cell? ⟨nb, 3, none⟩ = some (x.1.2.2.1) := by simp [World.cell?, hnx]
    have hc := hB.cell
    have HB := Lib.hid hB
    have HMI := Lib.hid hmi
    have HKM := Lib.hid hKM
    have HFS := Lib.hid hFs
    have HNE := Lib.hid hne
    clear hB hmi hKM hFs hne hnx hFp hFr hnb
    gi_wp2_with (gi_at_mapUpdate; refine asc_put_in _ rfl _ _ _ 71 rfl 9 26 Try.underlying71 StrK (strT X) w.heap.size M rfl HMI.out _ _ rfl rfl ⟨_, rfl⟩ HKM.out ?_; intro W5 L2 hmi5 hput5 hgr5; have HM5 := Lib.hid hmi5; have HP5 := Lib.hid hput5; have HG5 := Lib.hid hgr5; clear hmi5 hput5 hgr5)
    exact bmap_step HNE.out HB.out HMI.out HKM.out HFS.out ⟨_, rfl⟩ HM5.out HP5.out HG5.out
  case done =>
    rintro D ks Fp X hD hDF hFl hS ⟨rfl, hne, hB, M, hmi, hKM, hFs⟩ hFr hK
    have hc := hB.cell
    have HMI := Lib.hid hmi
    have HKM := Lib.hid hKM
    have HFS := Lib.hid hFs
    have HS := Lib.hid (show ks.reverse.map Bw.pair = bnumd 0 l by rw [List.map_reverse, hS, List.reverse_reverse])
    have HK := Lib.hid hK
    have HFR := Lib.hid hFr
    clear hB hmi hKM hFs hne hK hFr hS hFl hDF
    gi_wp2
    refine ⟨by simp, .inl ⟨_, _, rfl, run_takeDeferred HK.out, ?_⟩⟩
    refine ⟨_, results_tmp rfl _ _ _, w.heap.size, M, ks.reverse, rfl, HMI.out.on (World.putObj_heap_other (by omega)), HKM.out, HS.out, HFS.out, Nat.le_refl _, ?_⟩
    exact (HX.out.2.1.trans (HFR.out.below (by simp; omega) (by omega))).trans ((Fr.put (S := [D]) X _ _ (by simp)).below (by simp; omega) (by have := HFR.out.size; omega))
  case stop =>
    rintro D c pre Fp X _ _ _ _ h _ _
    exact h.elim

theorem own_vals (l : List Bi) (v : Value) (bs : List Nat) (w : World) (hv : BlIs w v l bs) (hb : l.length ≤ 1099511627776) : Calls Try.prog 51 #[v] w (ValsPost l w) :=
  callsIn_wide.1 (vals_in Fence.wide 9 rfl rfl (fun _ => trivial) (Nat.le_refl _) l v bs w hv hb)
theorem vals_first {w : World} {s : ByteArray} : ∀ (xs : List (Bw w)) (k : Nat) (l : List Bi), xs.map Bw.pair = bnumd k l →
    (∀ p, FirstAt bname xs (.string s) p → valOf l s = some p.bi.val) ∧ ((∀ p ∈ xs, bname p ≠ .string s) → valOf l s = none) := by
  intro xs
  induction xs with
  | nil =>
    intro k l h
    cases l with
    | nil => exact ⟨fun p ⟨A, B, h, _⟩ => by simp at h, fun _ => rfl⟩
    | cons r t => simp [bnumd] at h
  | cons x t ih =>
    intro k l h
    cases l with
    | nil => simp [bnumd] at h
    | cons r u =>
      rw [List.map_cons, bnumd, List.cons.injEq, Bw.pair, Prod.mk.injEq] at h
      obtain ⟨⟨hn, hr⟩, ht⟩ := h
      obtain ⟨h1, h2⟩ := ih (k + 1) u ht
      have hq : bname x = .string s ↔ r.name = s := by simp [bname, hr]
      refine ⟨fun p hp => ?_, fun hp => ?_⟩
      · rcases firstAt_cons.1 hp with ⟨e, rfl⟩ | ⟨e, hf⟩
        · rw [valOf, if_pos (hq.1 e), hr]
        · rw [valOf, if_neg (fun h => e (hq.2 h))]
          exact h1 p hf
      · rw [valOf, if_neg (fun h => hp x (by simp) (hq.2 h))]
        exact h2 (fun p hp2 => hp p (by simp [hp2]))
theorem vals_is {w : World} {l : List Bi} {M : List (Value × Value)} {xs : List (Bw w)} (hK : ∀ x ∈ M, StrK x.1) (hx : xs.map Bw.pair = bnumd 0 l) (hF : Firsts bname bval xs M) : ValsIs w M (valOf l) := by
  refine ⟨hK, fun s v hv => ?_, fun s hs => ?_⟩
  · obtain ⟨p, hp, rfl⟩ := (hF.mem _ _).1 hv
    obtain ⟨u, e, -, hi⟩ := p.2
    simp only [Value.agg.injEq, Array.mk.injEq, List.cons.injEq, and_true, true_and] at e
    rw [← e] at hi
    exact ⟨p.bi.val, _, _, rfl, (vals_first xs 0 l hx).1 p hp, hi⟩
  · refine (vals_first xs 0 l hx).2 (fun p hp e => ?_)
    obtain ⟨y, hy, e2⟩ := (hF.keys (.string s)).2 ⟨p, hp, e⟩
    exact hs y hy e2
end Go.Proofs.Ytegigjnlecpplaa

namespace Go.Proofs.Ytegigjnlecpplaa
open Go Go.RowKit

/-- A result in memory of its own. -/
def Fresh (R : Ex) (w : World) (r : Ending) (w2 : World) : Prop := ∃ v bs, r = .returned v ∧ ExIs w2 v R bs ∧ Mine w2 w.heap.size bs ∧ Below w.heap.size w w2
/-- A result that is laid into a box below it. -/
theorem fresh_box {R : Ex} {w w5 : World} {A5 : Option Addr} {c5 q rb B : Nat} {b5 : List Nat} (hx : ExIs w5 (.agg #[.int .i64 R.kind, .string R.name, .slice A5 q c5]) R b5) (hm : Mine w5 B b5) (hb : Below w.heap.size w w5) (h1 : w.heap.size ≤ rb) (h2 : rb < B) :
    ExIs (tri w5 rb 0 (.int .i64 R.kind) (.string R.name) (.slice A5 q c5)) (.agg #[.int .i64 R.kind, .string R.name, .slice A5 q c5]) R b5 ∧ Mine (tri w5 rb 0 (.int .i64 R.kind) (.string R.name) (.slice A5 q c5)) w.heap.size b5 ∧ Below w.heap.size w (tri w5 rb 0 (.int .i64 R.kind) (.string R.name) (.slice A5 q c5)) := by
  have hk : Keeps w5 (tri w5 rb 0 (.int .i64 R.kind) (.string R.name) (.slice A5 q c5)) b5 := ⟨by rw [tri_size]; exact Nat.le_refl _, fun x hx _ => tri_other _ _ _ _ _ _ x (by have := (hm.range x hx).1; omega)⟩
  have hm6 : Mine w5 w.heap.size b5 := ⟨hm.nodup, fun x hx => ⟨by have := (hm.range x hx).1; omega, (hm.range x hx).2⟩, hm.free⟩
  exact ⟨hx.keeps hk, hm6.keeps hk, below_tri hb h1 _ _ _ _⟩
theorem box_zero {w5 : World} {rb : Nat} {x0 x1 x2 : Value} (hra : w5.heap[rb]? = some (.cells #[x0, x1, x2] 26 (0, 0))) : w5.cell? ⟨rb, 0, none⟩ = some x0 ∧ w5.cell? ⟨rb, 1, none⟩ = some x1 ∧ w5.cell? ⟨rb, 2, none⟩ = some x2 ∧ (∀ o, w5.frozen? ⟨rb, o, none⟩ = false) ∧ rb < w5.heap.size :=
  ⟨by simp [World.cell?, hra], by simp [World.cell?, hra], by simp [World.cell?, hra], fun o => by simp [World.frozen?, hra], (Array.getElem?_eq_some_iff.1 hra).1⟩
theorem two_boxes (w : World) (y0 y1 y2 : Value) : ∀ wa, wa = (w.alloc (.cells #[y0, y1, y2] 26)).alloc (.cells #[.int .i64 0, .string ⟨#[]⟩, .slice none 0 0] 26) → Below w.heap.size w wa ∧ wa.heap[w.heap.size + 1]? = some (.cells #[.int .i64 0, .string ⟨#[]⟩, .slice none 0 0] 26 (0, 0)) ∧ wa.heap.size = w.heap.size + 1 + 1 := by
  rintro wa rfl
  refine ⟨((Below.refl _ w).alloc (Nat.le_refl _) _).alloc (by simp) _, ?_, by simp⟩
  have := heap_alloc_new (w.alloc (.cells #[y0, y1, y2] 26)) (.cells #[.int .i64 0, .string ⟨#[]⟩, .slice none 0 0] 26)
  rw [World.size_alloc] at this
  exact this
set_option maxRecDepth 100000 in
set_option maxHeartbeats 4000000 in
theorem own_apply (e : Ex) (l : List Bi) (v v2 : Value) (bs b2 : List Nat) (w : World) (hx : ExIs w v e bs) (hl : BlIs w v2 l b2) (hS : exSize (subE (valOf l) e) ≤ 2097152) (he : exSize e ≤ 1099511627776) (hb : ∀ r ∈ l, exSize r.val ≤ 1099511627776) (hn : l.length ≤ 1099511627776) :
    Calls Try.prog 16 #[v, v2] w (Fresh (subE (valOf l) e) w) := by
  have hf : ∀ s e1, valOf l s = some e1 → exSize e1 ≤ 1099511627776 := by
    intro s e1 h
    clear hl hS hn
    induction l with
    | nil => cases h
    | cons r t ih =>
      rw [valOf] at h
      by_cases hr : r.name = s
      · rw [if_pos hr] at h
        cases h
        exact hb r (by simp)
      · rw [if_neg hr] at h
        exact ih (fun r hr => hb r (by simp [hr])) h
  obtain ⟨u, rfl, hs, hu⟩ := id hx
  obtain ⟨A, c, rfl, -⟩ := id hu
  obtain ⟨A2, c2, rfl, -⟩ := id hl
  obtain ⟨wa, hwa⟩ : ∃ wa, wa = (w.alloc (.cells #[.int .i64 e.kind, .string e.name, .slice A e.args.length c] 26)).alloc (.cells #[.int .i64 0, .string ⟨#[]⟩, .slice none 0 0] 26) := ⟨_, rfl⟩
  obtain ⟨hba, hea, hra, hsa⟩ : Below w.heap.size w wa ∧ wa.heap[w.heap.size]? = some (.cells #[.int .i64 e.kind, .string e.name, .slice A e.args.length c] 26 (0, 0)) ∧ wa.heap[w.heap.size + 1]? = some (.cells #[.int .i64 0, .string ⟨#[]⟩, .slice none 0 0] 26 (0, 0)) ∧ wa.heap.size = w.heap.size + 1 + 1 := by
    rw [hwa]
    refine ⟨((Below.refl _ w).alloc (Nat.le_refl _) _).alloc (by simp) _, (Below.heap_alloc _ _ _ (by simp)).trans (heap_alloc_new w _), ?_, by simp⟩
    have := heap_alloc_new (w.alloc (.cells #[.int .i64 e.kind, .string e.name, .slice A e.args.length c] 26)) (.cells #[.int .i64 0, .string ⟨#[]⟩, .slice none 0 0] 26)
    rw [World.size_alloc] at this
    exact this
  have HWA := Lib.hid hwa
  have HBA := Lib.hid hba
  have HEA := Lib.hid hea
  have HRA := Lib.hid hra
  have HSA := Lib.hid hsa
  have HC := Lib.hid (own_vals l _ b2 wa (hl.below hba) hn)
  have HX := Lib.hid (hx.below hba)
  have HS := Lib.hid hS
  have HE := Lib.hid he
  have HF := Lib.hid hf
  clear hx hl hS he hf hb hn hs hu hwa hba hea hra hsa
  generalize e.args.length = m at *
  generalize l.length = k at *
  go_enter Try.func16, Try.ntmps16
  go_wp2_with fail
  rw [← HWA.out]
  go_at_call 51
  refine HC.out.mono ?_
  rintro r w1 ⟨mb, M, xs, rfl, hm, hK, hxs, hF, -, hb1⟩
  have HV := Lib.hid ((vals_is hK hxs hF).below hb1)
  have HM := Lib.hid hm
  have HB1 := Lib.hid hb1
  clear hm hK hxs hF hb1
  have HBW := Lib.hid (HBA.out.trans (HB1.out.mono HBA.out.size))
  have h1s := HB1.out.size
  have hsa := HSA.out
  have he1 := (HB1.out.block _ (by omega : w.heap.size < wa.heap.size)).trans HEA.out
  have k0 : w1.cell? ⟨w.heap.size, 0, none⟩ = some (.int .i64 e.kind) := by simp [World.cell?, he1]
  have k1 : w1.cell? ⟨w.heap.size, 1, none⟩ = some (.string e.name) := by simp [World.cell?, he1]
  have k2 : w1.cell? ⟨w.heap.size, 2, none⟩ = some (.slice A m c) := by simp [World.cell?, he1]
  have kl : w.heap.size < w1.heap.size := by omega
  have HE1 := Lib.hid he1
  obtain ⟨wc, hwc⟩ : ∃ wc, wc = w1.alloc (.cells #[.map (some mb), .int .i64 0, .map none, .map none, .map none] 77) := ⟨_, rfl⟩
  have HBC := Lib.hid (show Below w1.heap.size w1 wc by rw [hwc]; exact (Below.refl _ _).alloc (Nat.le_refl _) _)
  have HCB := Lib.hid (show CBox wc w1.heap.size mb 0 none by rw [hwc]; exact heap_alloc_new w1 _)
  have HWC := Lib.hid hwc
  have HVC := Lib.hid (HV.out.below HBC.out)
  have HMC := Lib.hid (HM.out.on (HBC.out.block _ HM.out.lt))
  have HXC := Lib.hid (HX.out.below (HB1.out.trans (HBC.out.mono HB1.out.size)))
  clear he1 h1s hsa hwc
  go_wp2_with fail
  rw [← HWC.out]
  go_at_call 52
  refine (own_large (valOf l) w1.heap.size mb M e _ bs wc HXC.out HCB.out.cells.1 HMC.out HVC.out HE.out HF.out).mono ?_
  rintro r w3 ⟨bb, rfl, himp, hb3⟩
  obtain rfl : bb = false := by
    cases bb with
    | false => rfl
    | true => have := himp rfl; have := HS.out; omega
  have HB3 := Lib.hid hb3
  have hcl := HBC.out.size
  have hss := HB1.out.size
  have hsa := HSA.out
  have he3 := (hb3.block _ (by omega : w.heap.size < wc.heap.size)).trans ((HBC.out.block _ (by omega)).trans HE1.out)
  have k0 : w3.cell? ⟨w.heap.size, 0, none⟩ = some (.int .i64 e.kind) := by simp [World.cell?, he3]
  have k1 : w3.cell? ⟨w.heap.size, 1, none⟩ = some (.string e.name) := by simp [World.cell?, he3]
  have k2 : w3.cell? ⟨w.heap.size, 2, none⟩ = some (.slice A m c) := by simp [World.cell?, he3]
  have kl3 := hb3.size
  have HC3 := Lib.hid (show CBox w3 w1.heap.size mb 0 none from (hb3.block _ HCB.out.cells.2.2.2.2.2.2).trans HCB.out)
  have HV3 := Lib.hid (HVC.out.below hb3)
  have HM3 := Lib.hid (HMC.out.on (hb3.block _ HMC.out.lt))
  have HX3 := Lib.hid (HXC.out.below hb3)
  have HW3 := Lib.hid (HBW.out.trans ((HBC.out.trans (hb3.mono HBC.out.size)).mono HBW.out.size))
  clear himp hb3 he3 hcl hss hsa kl3
  go_wp2_with fail
  go_at_call 54
  refine (own_copyOf (valOf l) w1.heap.size mb M none e _ bs w3 HX3.out HC3.out HM3.out HV3.out (by have := HS.out; omega) (fun g o n X _ => nil_shared ⟨g, o, none⟩ (n : Int) X)).mono ?_
  rintro r w5 ⟨v5, b5, rfl, hx5, hm5, hf5⟩
  obtain ⟨R, hR⟩ : ∃ R, R = subE (valOf l) e := ⟨_, rfl⟩
  have HR := Lib.hid hR
  rw [← hR] at hx5
  obtain ⟨u5, rfl, hsz5, hu5⟩ := id hx5
  obtain ⟨A5, c5, rfl, -⟩ := id hu5
  have hcl := HBC.out.size
  have hss := HB1.out.size
  have hsa := HSA.out
  have h3s := HB3.out.size
  have hra := (hf5.block (w.heap.size + 1) (by omega) (by simp; omega)).trans ((HB3.out.block _ (by omega)).trans ((HBC.out.block _ (by omega)).trans ((HB1.out.block _ (by omega)).trans HRA.out)))
  have z0 : w5.cell? ⟨w.heap.size + 1, 0, none⟩ = some (.int .i64 0) := by simp [World.cell?, hra]
  have z1 : w5.cell? ⟨w.heap.size + 1, 1, none⟩ = some (.string ⟨#[]⟩) := by simp [World.cell?, hra]
  have z2 : w5.cell? ⟨w.heap.size + 1, 2, none⟩ = some (.slice none 0 0) := by simp [World.cell?, hra]
  have zf : ∀ o, w5.frozen? ⟨w.heap.size + 1, o, none⟩ = false := fun o => by simp [World.frozen?, hra]
  have zl : w.heap.size + 1 < w5.heap.size := (Array.getElem?_eq_some_iff.1 hra).1
  have HEND := Lib.hid (show Fresh R w (.returned (.agg #[.int .i64 R.kind, .string R.name, .slice A5 R.args.length c5])) (tri w5 (w.heap.size + 1) 0 (.int .i64 R.kind) (.string R.name) (.slice A5 R.args.length c5)) from by
    have hk : Keeps w5 (tri w5 (w.heap.size + 1) 0 (.int .i64 R.kind) (.string R.name) (.slice A5 R.args.length c5)) b5 := ⟨by rw [tri_size]; exact Nat.le_refl _, fun x hx _ => tri_other _ _ _ _ _ _ x (by have := (hm5.range x hx).1; omega)⟩
    have hm6 : Mine w5 w.heap.size b5 := ⟨hm5.nodup, fun x hx => ⟨by have := (hm5.range x hx).1; omega, (hm5.range x hx).2⟩, hm5.free⟩
    refine ⟨_, b5, rfl, hx5.keeps hk, hm6.keeps hk, below_tri (HW3.out.trans ⟨hf5.os, hf5.tape, hf5.output, hf5.size, fun i hi => hf5.block i (by omega) (by simp; omega)⟩) (by omega) _ _ _ _⟩)
  generalize R.args.length = q at *
  clear hR hx5 hu5 hsz5 hm5 hf5 hra hcl hss hsa h3s
  go_wp2_with fail
  refine bodyPost_ret (v := .agg #[.int .i64 R.kind, .string R.name, .slice A5 q c5]) (by simp [results, Try.results16, go_sem, z0, z1, z2]) rfl ?_
  rw [← HR.out]
  exact HEND.out
set_option maxHeartbeats 2000000 in
theorem own_copyx (e : Ex) (v : Value) (bs : List Nat) (w : World) (hx : ExIs w v e bs) (hS : exSize e ≤ 2097152) : Calls Try.prog 60 #[v] w (Fresh e w) := by
  obtain ⟨u, rfl, hs, hu⟩ := id hx
  obtain ⟨A, c, rfl, -⟩ := id hu
  have HA := Lib.hid (show ∀ W, Below w.heap.size w W → Calls Try.prog 16 #[.agg #[.int .i64 e.kind, .string e.name, .slice A e.args.length c], .slice none 0 0] W (Fresh e W) from fun W hW => by
    have h := own_apply e [] _ (.slice none 0 0) bs [] W (hx.below hW) ⟨none, 0, rfl, by decide, by decide, Or.inl ⟨rfl, rfl⟩⟩ (by rw [sub_nil]; exact hS) (by omega) (fun r hr => by cases hr) (by decide)
    rw [sub_nil] at h
    exact h)
  generalize e.args.length = q at *
  clear hx hS hs hu
  obtain ⟨wa, hwa⟩ : ∃ wa, wa = (w.alloc (.cells #[.int .i64 e.kind, .string e.name, .slice A q c] 26)).alloc (.cells #[.int .i64 0, .string ⟨#[]⟩, .slice none 0 0] 26) := ⟨_, rfl⟩
  have HWA := Lib.hid hwa
  have H2 := Lib.hid (two_boxes w _ _ _ wa hwa)
  clear hwa
  go_enter Try.func60, Try.ntmps60
  go_wp2_with fail
  rw [← HWA.out]
  refine (HA.out wa H2.out.1).mono ?_
  rintro r w5 ⟨v5, b5, rfl, hx5, hm5, hb5⟩
  obtain ⟨u5, rfl, hsz5, hu5⟩ := id hx5
  obtain ⟨A5, c5, rfl, -⟩ := id hu5
  obtain ⟨z0, z1, z2, zf, zl⟩ := box_zero ((hb5.block _ (by have := H2.out.2.2; omega)).trans H2.out.2.1)
  have HEND := Lib.hid (fresh_box (rb := w.heap.size + 1) hx5 hm5 (H2.out.1.trans (hb5.mono H2.out.1.size)) (by omega) (by have := H2.out.2.2; omega))
  generalize e.args.length = q5 at *
  clear hx5 hu5 hsz5 hm5 hb5
  go_wp2_with fail
  refine bodyPost_ret (v := .agg #[.int .i64 e.kind, .string e.name, .slice A5 q5 c5]) (by simp [results, Try.results60, go_sem, z0, z1, z2]) rfl ?_
  exact ⟨_, b5, rfl, HEND.out⟩
set_option maxHeartbeats 4000000 in
theorem own_findb (l : List Bi) (v : Value) (bs : List Nat) (s : ByteArray) (w : World) (hv : BlIs w v l bs) (hn : ∀ r ∈ l, exSize r.val ≤ 2097152) :
    Calls Try.prog 23 #[v, .string s] w (fun r w2 => ∃ v bs, r = .returned (.tuple #[v, .bool (valOf l s).isSome]) ∧ ExIs w2 v ((valOf l s).getD zeroX) bs ∧ Mine w2 w.heap.size bs ∧ Below w.heap.size w w2) := by
  obtain ⟨A, c, rfl, hc1, hc2, -⟩ := id hv
  have HU := Lib.hid hv
  obtain ⟨m, hm⟩ : ∃ m, m = l.length := ⟨_, rfl⟩
  rw [← hm] at hc1 HU ⊢
  have HM := Lib.hid hm
  have HN := Lib.hid hn
  have HF := Lib.hid (show valOf l s = valOf (l.drop 0) s from rfl)
  have hm2 : (m : Int) ≤ 9223372036854775807 := by omega
  clear hv hm hn
  go_enter Try.func23, Try.ntmps23
  go_wp2_with fail
  obtain ⟨W0, hW0⟩ : ∃ W0, W0 = w.alloc (.cells #[.int .i64 0, .string ⟨#[]⟩, .slice none 0 0] 26) := ⟨_, rfl⟩
  rw [← hW0]
  have HW0 := Lib.hid (show Below w.heap.size w W0 ∧ W0.heap[w.heap.size]? = some (.cells #[.int .i64 0, .string ⟨#[]⟩, .slice none 0 0] 26 (0, 0)) by
    rw [hW0]
    exact ⟨(Below.refl _ w).alloc (Nat.le_refl _) _, heap_alloc_new w _⟩)
  clear hW0
  go_loopw [10] (fun i wr => ∃ (k : Nat), k ≤ m ∧ i = .int .i64 (k : Int) ∧ Hid (Below w.heap.size w wr ∧ wr.heap[w.heap.size]? = some (.cells #[.int .i64 0, .string ⟨#[]⟩, .slice none 0 0] 26 (0, 0))) ∧ Hid (valOf l s = valOf (l.drop k) s)) (fun i _ => m - (intOf i).toNat)
  case atStart => exact ⟨0, Nat.zero_le _, rfl, HW0, HF⟩
  case round =>
    clear HW0
    obtain ⟨k, hk, rfl, HB, HK⟩ := hrel
    by_cases hlt : k < m
    · obtain ⟨g, o, r, u, b1, hA⟩ := (HU.out.below HB.out.1).get k (by rw [← HM.out]; exact hlt)
      obtain rfl := hA.eq
      obtain ⟨c0, c1, c2, c3⟩ := hA.cells
      have HG := Lib.hid (valOf_here s hA.get)
      obtain ⟨u', e0, -, hi⟩ := hA.is
      obtain rfl : u = u' := by simpa using e0
      obtain ⟨u2, e2, -, A2, cc, e3, -⟩ := id hi
      simp only [Value.agg.injEq, Array.mk.injEq, List.cons.injEq, and_true, true_and] at e2
      subst e2; subst e3
      have HCP := Lib.hid (show ∀ W, Below wr.heap.size wr W → Calls Try.prog 60 #[.agg #[.int .i64 r.val.kind, .string r.val.name, .slice A2 r.val.args.length cc]] W (Fresh r.val W) from fun W hW => own_copyx r.val _ _ W (hi.below hW) (HN.out r hA.mem))
      have HBN := Lib.hid (show ∀ o, Below wr.heap.size wr (wr.alloc o) from fun o => (Below.refl _ _).alloc (Nat.le_refl _) o)
      have hgl := hA.lt
      clear hA hi
      have hk0 : (0 : Int) ≤ (k : Int) := by omega
      have hkm : (k : Int) < (m : Int) := by omega
      by_cases hx : r.name = s
      · have hbe := beq_yes hx
        have HE := Lib.hid (show valOf l s = some r.val by rw [HK.out, HG.out, if_pos hx])
        clear hx
        go_wp2_with fail
        go_at_call 60
        refine (HCP.out _ (HBN.out _)).mono ?_
        rintro r9 w5 ⟨v5, b5, rfl, hx5, hm5, hb5⟩
        obtain ⟨u5, rfl, hsz5, hu5⟩ := id hx5
        obtain ⟨A5, c5, rfl, -⟩ := id hu5
        have hzl := (Array.getElem?_eq_some_iff.1 HB.out.2).1
        have hbb := (HBN.out _).trans (hb5.mono (HBN.out _).size)
        obtain ⟨z0, z1, z2, zf, zl⟩ := box_zero ((hbb.block _ hzl).trans HB.out.2)
        have HEND := Lib.hid (fresh_box (rb := w.heap.size) hx5 hm5 (HB.out.1.trans (hbb.mono HB.out.1.size)) (Nat.le_refl _) (by have := (HBN.out (.cells #[.string r.name, .int .i64 r.val.kind, .string r.val.name, .slice A2 r.val.args.length cc] 69)).size; simp; omega))
        generalize r.val.args.length = q5 at *
        clear hx5 hu5 hsz5 hm5 hb5 hzl hbb
        go_wp2_with fail
        refine bodyPost_ret (v := .tuple #[.agg #[.int .i64 r.val.kind, .string r.val.name, .slice A5 q5 c5], .bool true]) (by simp [results, Try.results23, go_sem, z0, z1, z2]) rfl ?_
        rw [HE.out]
        exact ⟨_, b5, rfl, HEND.out⟩
      · have hbe := beq_no hx
        have HE := Lib.hid (show valOf l s = valOf (l.drop (k + 1)) s by rw [HK.out, HG.out, if_neg hx])
        have HBS := Lib.hid (show ∀ o, Below w.heap.size w (wr.alloc o) ∧ (wr.alloc o).heap[w.heap.size]? = some (.cells #[.int .i64 0, .string ⟨#[]⟩, .slice none 0 0] 26 (0, 0)) from fun o => ⟨HB.out.1.trans ((HBN.out o).mono HB.out.1.size), ((HBN.out o).block _ (Array.getElem?_eq_some_iff.1 HB.out.2).1).trans HB.out.2⟩)
        clear hx
        go_wp2_with fail
        go_roundw
        case rel => exact ⟨k + 1, by omega, by go_num, Lib.hid (HBS.out _), HE⟩
        case measure => simp [intOf]; omega
    · have HE := Lib.hid (show valOf l s = none by rw [HK.out, List.drop_eq_nil_of_le (by rw [← HM.out]; omega)]; rfl)
      obtain ⟨z0, z1, z2, zf, zl⟩ := box_zero HB.out.2
      go_wp2_with fail
      refine bodyPost_ret (v := .tuple #[.agg #[.int .i64 0, .string ⟨#[]⟩, .slice none 0 0], .bool false]) (by simp [results, Try.results23, go_sem, z0, z1, z2]) rfl ?_
      rw [HE.out]
      exact ⟨_, [], rfl, ⟨_, rfl, by decide, none, 0, rfl, by decide, by decide, Or.inl ⟨rfl, rfl⟩⟩, ⟨List.nodup_nil, (fun x hx => by cases hx), (fun x hx => by cases hx)⟩, below_tri HB.out.1 (Nat.le_refl _) 0 _ _ _⟩
end Go.Proofs.Ytegigjnlecpplaa
