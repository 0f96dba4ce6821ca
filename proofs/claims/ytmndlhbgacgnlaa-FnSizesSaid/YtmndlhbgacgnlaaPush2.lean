/- 'left = append(left, [2]*Expr{&a[i], &b[i]})' where the variables lie in boxes and the statement draws its order, within a round too. Condition: fewer than 2^41 elements. -/
import Derived.Test.YtmndlhbgacgnlaaPush
import Derived.Test.YtmndlhbgacgnlaaEqKit
namespace Go.Proofs.Ytmndlhbgacgnlaa
open Go Go.RowKit

theorem two_leaf (p q : Option Addr) : ∀ u ∈ [Value.pointer p, Value.pointer q], u.oneCell' = true := by
  intro u hu
  simp at hu
  rcases hu with rfl | rfl <;> rfl
/-- What a push of a pair leaves. -/
def Push2 (n₀ B k : Nat) (lv : Value) (xs ys : List Value) (W W2 : World) : Prop := ∃ g2 cap2, Boxed W2 B 156 (.slice (some ⟨g2, 0, none⟩) (k + 1) cap2) ∧ W2.ownsRow n₀ 155 2 (.slice (some ⟨g2, 0, none⟩) (k + 1) cap2) (k + 1) (xs ++ ys) ∧ Fr (B :: lv.ownBlock.toList) W W2 ∧ (lv.ownBlock = some g2 ∨ W.heap.size ≤ g2) ∧ g2 < W2.heap.size
theorem push2_mid {n₀ B Ba Bb k co g9 cap9 : Nat} {AO : Option Addr} {xs ys : List Value} {o : Obj} {va vb : Value} {W W2 : World}
    (hB : Boxed W B 156 (.slice AO k co)) (hA : Boxed W Ba 24 va) (hA2 : Boxed W Bb 24 vb) (hN : B ≠ Ba ∧ B ≠ Bb) (hR : W.ownsRow n₀ 155 2 (.slice AO k co) k xs)
    (hg : (W.drew.alloc o).grownBy W2 (Value.ownBlock (.slice AO k co))) (ho : W2.ownsRow n₀ 155 2 (.slice (some ⟨g9, 0, none⟩) (k + 1) cap9) (k + 1) (xs ++ ys)) (hat : Value.ownBlock (.slice AO k co) = some g9 ∨ g9 = W.heap.size + 1) (hlt : g9 < W2.heap.size) :
    (W2.cell? ⟨B, 0, none⟩ = some (.slice AO k co) ∧ W2.frozen? ⟨B, 0, none⟩ = false ∧ B < W2.heap.size ∧ W2.cell? ⟨Ba, 0, none⟩ = some va ∧ W2.cell? ⟨Bb, 0, none⟩ = some vb) ∧
    ((W2.setCell ⟨B, 0, none⟩ (.slice (some ⟨g9, 0, none⟩) (k + 1) cap9)).cell? ⟨Ba, 0, none⟩ = some va ∧ (W2.setCell ⟨B, 0, none⟩ (.slice (some ⟨g9, 0, none⟩) (k + 1) cap9)).cell? ⟨Bb, 0, none⟩ = some vb) ∧
    Push2 n₀ B k (.slice AO k co) xs ys W (W2.setCell ⟨B, 0, none⟩ (.slice (some ⟨g9, 0, none⟩) (k + 1) cap9)) := by
  have hs : (W.drew.alloc o).heap.size = W.heap.size + 1 := by simp
  have hold : ∀ j, j < W.heap.size → Value.ownBlock (.slice AO k co) ≠ some j → W2.heap[j]? = W.heap[j]? := fun j hj hne => (hg.block j (by omega) (fun e => hne e.symm)).trans (Below.heap_alloc W.drew _ j hj)
  have nb : ∀ (b : Nat) (t : TypeId) (v : Value), Boxed W b t v → t ≠ 155 → Value.ownBlock (.slice AO k co) ≠ some b := fun b t v h ht e => Boxed.not_row h ht hR e.symm
  have hB2 : Boxed W2 B 156 (.slice AO k co) := (hold B hB.lt (nb _ _ _ hB (by decide))).trans hB
  have hA' : Boxed W2 Ba 24 va := (hold Ba hA.lt (nb _ _ _ hA (by decide))).trans hA
  have hA2' : Boxed W2 Bb 24 vb := (hold Bb hA2.lt (nb _ _ _ hA2 (by decide))).trans hA2
  have hgB : g9 ≠ B := fun e => Boxed.not_row hB2 (by decide) ho (by simp [Value.ownBlock, e])
  have hfr0 : Fr (B :: (Value.ownBlock (.slice AO k co)).toList) W W2 := ⟨hg.os, hg.tape, hg.output, by have := hg.size; omega, fun j hj hn => hold j hj (fun e => hn (by simp [e]))⟩
  refine ⟨⟨hB2.cell, hB2.frozen, hB2.lt, hA'.cell, hA2'.cell⟩, ⟨(keepS (Ne.symm hN.1)).trans hA'.cell, (keepS (Ne.symm hN.2)).trans hA2'.cell⟩, g9, cap9, Boxed.set _ hB2, row_on ho (fun j hj => Below.heap_setCell _ _ _ _ (by rw [show j = g9 by simpa [Value.ownBlock, eq_comm] using hj]; exact hgB)), ?_, hat.imp id (fun h => by omega), by simpa [World.setCell] using hlt⟩
  exact hfr0.trans (T := [B]) (Fr.set _ _ _ (by simp)) (fun x hx => Or.inl (by simp at hx; simp [hx]))

set_option maxRecDepth 100000 in
set_option maxHeartbeats 4000000 in
theorem push2_any {R : World → Prop} (p : String) (ds : List Deferred) (n₀ B Ba Bb k co q c1 c2 i g1 o1 g2 o2 : Nat) (AO : Option Addr) (xs : List Value) (W : World) (v0 v1 v2 v6 v8 v9 v10 v11 v12 v13 v14 v15 v16 v17 v18 v19 v20 v21 v22 : Value)
    (hB : Boxed W B 156 (.slice AO k co)) (hBA : Boxed W Ba 24 (.slice (some ⟨g1, o1, none⟩) q c1)) (hBB : Boxed W Bb 24 (.slice (some ⟨g2, o2, none⟩) q c2)) (hBN : B ≠ Ba ∧ B ≠ Bb) (hR : W.ownsRow n₀ 155 2 (.slice AO k co) k xs)
    (hn : n₀ ≤ W.heap.size) (hk : k ≤ 2199023255552) (hi : i < q) (hRR : ∀ X, Push2 n₀ B k (.slice AO k co) xs [.pointer (some ⟨g1, o1 + i * 3, none⟩), .pointer (some ⟨g2, o2 + i * 3, none⟩)] W X → R X) :
    wpAny Try.prog .any (#[{ dst := some 12, op := Op.load 156 (Operand.tmp 3), type := 156, pos := p, after := #[], guard := none },
    { dst := some 13, op := Op.load 24 (Operand.tmp 4), type := 24, pos := p, after := #[], guard := none },
    { dst := some 14, op := Op.move (Operand.tmp 7), type := 3, pos := p, after := #[], guard := none },
    { dst := some 15, op := Op.indexAddr 24 (Operand.tmp 13) (Operand.tmp 14), type := 0, pos := p, after := #[{ on := 1, ground := Ground.data }, { on := 2, ground := Ground.data }], guard := none },
    { dst := some 16, op := Op.load 24 (Operand.tmp 5), type := 24, pos := p, after := #[], guard := none },
    { dst := some 17, op := Op.move (Operand.tmp 7), type := 3, pos := p, after := #[], guard := none },
    { dst := some 18, op := Op.indexAddr 24 (Operand.tmp 16) (Operand.tmp 17), type := 0, pos := p, after := #[{ on := 4, ground := Ground.data }, { on := 5, ground := Ground.data }], guard := none },
    { dst := some 19, op := Op.build 155 #[(0, Operand.tmp 15), (1, Operand.tmp 18)], type := 155, pos := p, after := #[{ on := 3, ground := Ground.data }, { on := 6, ground := Ground.data }], guard := none },
    { dst := some 20, op := Op.buildSlice 156 1 #[(0, Operand.tmp 19)], type := 156, pos := p, after := #[{ on := 7, ground := Ground.data }], guard := none },
    { dst := some 21, op := Op.call { callee := Callee.builtin Builtin.append, args := #[Operand.tmp 12, Operand.tmp 20], argTypes := #[156, 156] }, type := 156, pos := p, after := #[{ on := 0, ground := Ground.data }, { on := 8, ground := Ground.data }], guard := none },
    { dst := none, op := Op.store 156 (Operand.tmp 3) (Operand.tmp 21), type := 0, pos := p, after := #[{ on := 9, ground := Ground.data }, { on := 9, ground := Ground.chain }, { on := 0, ground := Ground.phase }, { on := 1, ground := Ground.phase }, { on := 2, ground := Ground.phase }, { on := 3, ground := Ground.phase }, { on := 4, ground := Ground.phase }, { on := 5, ground := Ground.phase }, { on := 6, ground := Ground.phase }, { on := 7, ground := Ground.phase }, { on := 8, ground := Ground.phase }, { on := 9, ground := Ground.phase }], guard := none }] : Array Oper) (onlyN R) 11 (Array.replicate 11 false) { tmps := #[v0, v1, v2, .pointer (some ⟨B, 0, none⟩), .pointer (some ⟨Ba, 0, none⟩), .pointer (some ⟨Bb, 0, none⟩), v6, .int .i64 (i : Int), v8, v9, v10, v11, v12, v13, v14, v15, v16, v17, v18, v19, v20, v21, v22], defers := ds } W.drew := by
  obtain ⟨i0, hif, hz0, hz1, hz2⟩ := info_parts Try.infoTwo
  have HI := Lib.hid (And.intro hif (And.intro hz0 (And.intro hz1 hz2)))
  clear hif hz0 hz1 hz2
  have hbc : W.cell? ⟨B, 0, none⟩ = some (.slice AO k co) := hB.cell
  have hbl : B < W.heap.size := hB.lt
  have hal : Ba < W.heap.size := hBA.lt
  have hbbl : Bb < W.heap.size := hBB.lt
  have hi0 : (0 : Int) ≤ (i : Int) := by omega
  have hi1 : (i : Int) < (q : Int) := by omega
  have HS0 := Lib.hid (show W.drew.cell? ⟨Ba, 0, none⟩ = some (.slice (some ⟨g1, o1, none⟩) q c1) ∧ W.drew.cell? ⟨Bb, 0, none⟩ = some (.slice (some ⟨g2, o2, none⟩) q c2) from ⟨hBA.cell, hBB.cell⟩)
  have HS1 := Lib.hid (show (W.drew.alloc (.cells #[.pointer (some ⟨g1, o1 + i * 3, none⟩), .pointer (some ⟨g2, o2 + i * 3, none⟩)] 155)).cell? ⟨Ba, 0, none⟩ = some (.slice (some ⟨g1, o1, none⟩) q c1) ∧ (W.drew.alloc (.cells #[.pointer (some ⟨g1, o1 + i * 3, none⟩), .pointer (some ⟨g2, o2 + i * 3, none⟩)] 155)).cell? ⟨Bb, 0, none⟩ = some (.slice (some ⟨g2, o2, none⟩) q c2) from
    ⟨(World.cell?_of_block (w := W.drew) (Below.heap_alloc W.drew _ _ hal)).trans hBA.cell, (World.cell?_of_block (w := W.drew) (Below.heap_alloc W.drew _ _ hbbl)).trans hBB.cell⟩)
  have HO1 := Lib.hid (show (W.drew.alloc (.cells #[.pointer (some ⟨g1, o1 + i * 3, none⟩), .pointer (some ⟨g2, o2 + i * 3, none⟩)] 155)).ownsRow n₀ 155 2 (.slice AO k co) k xs from World.ownsRow.alloc (w := W.drew) hR _)
  have HB := Lib.hid hB
  have HBA := Lib.hid hBA
  have HBB := Lib.hid hBB
  have HBN := Lib.hid hBN
  have HR := Lib.hid hR
  have HRR := Lib.hid hRR
  have CM := Lib.hid (show k + 1 ≤ maxLen by unfold maxLen; omega)
  have CB := Lib.hid (show (k + 1) * 16 ≤ 140737488355328 by omega)
  have CS := Lib.hid (show n₀ ≤ (W.drew.alloc (.cells #[.pointer (some ⟨g1, o1 + i * 3, none⟩), .pointer (some ⟨g2, o2 + i * 3, none⟩)] 155)).heap.size by simp; omega)
  clear hB hBA hBB hBN hR hRR hn hi
  refine wpAny_of_held (S := (fun X => X.cell? ⟨Ba, 0, none⟩ = some (.slice (some ⟨g1, o1, none⟩) q c1) ∧ X.cell? ⟨Bb, 0, none⟩ = some (.slice (some ⟨g2, o2, none⟩) q c2))) _ _ _ _ ?_
  have hHeld := HS0.out
  refine wpAnyH_take (i := 1) (oi := ({ dst := some 13, op := Op.load 24 (Operand.tmp 4), type := 24, pos := p, after := #[], guard := none } : Oper)) (v := .slice (some ⟨g1, o1, none⟩) q c1) rfl (by kernel_rfl) (by kernel_rfl) (by kernel_rfl) (fun _ _ _ h => h) (Or.inl ⟨by rfl, fun w hSw => ?_⟩) hHeld ?_
  · (try dsimp only at hSw)
    go_simp
  try simp only [Act.put, List.setIfInBounds_toArray, List.set_cons_zero, List.set_cons_succ]
  refine wpAnyH_take (i := 2) (oi := ({ dst := some 14, op := Op.move (Operand.tmp 7), type := 3, pos := p, after := #[], guard := none } : Oper)) (v := .int .i64 (i : Int)) rfl (by kernel_rfl) (by kernel_rfl) (by kernel_rfl) (fun _ _ _ h => h) (Or.inl ⟨by rfl, fun w hSw => ?_⟩) hHeld ?_
  · (try dsimp only at hSw)
    go_simp
  try simp only [Act.put, List.setIfInBounds_toArray, List.set_cons_zero, List.set_cons_succ]
  refine wpAnyH_take (i := 3) (oi := ({ dst := some 15, op := Op.indexAddr 24 (Operand.tmp 13) (Operand.tmp 14), type := 0, pos := p, after := #[{ on := 1, ground := Ground.data }, { on := 2, ground := Ground.data }], guard := none } : Oper)) (v := .pointer (some ⟨g1, o1 + i * 3, none⟩)) rfl (by kernel_rfl) (by kernel_rfl) (by kernel_rfl) (fun _ _ _ h => h) (Or.inl ⟨by rfl, fun w hSw => ?_⟩) hHeld ?_
  · (try dsimp only at hSw)
    go_simp
  try simp only [Act.put, List.setIfInBounds_toArray, List.set_cons_zero, List.set_cons_succ]
  refine wpAnyH_take (i := 4) (oi := ({ dst := some 16, op := Op.load 24 (Operand.tmp 5), type := 24, pos := p, after := #[], guard := none } : Oper)) (v := .slice (some ⟨g2, o2, none⟩) q c2) rfl (by kernel_rfl) (by kernel_rfl) (by kernel_rfl) (fun _ _ _ h => h) (Or.inl ⟨by rfl, fun w hSw => ?_⟩) hHeld ?_
  · (try dsimp only at hSw)
    go_simp
  try simp only [Act.put, List.setIfInBounds_toArray, List.set_cons_zero, List.set_cons_succ]
  refine wpAnyH_take (i := 5) (oi := ({ dst := some 17, op := Op.move (Operand.tmp 7), type := 3, pos := p, after := #[], guard := none } : Oper)) (v := .int .i64 (i : Int)) rfl (by kernel_rfl) (by kernel_rfl) (by kernel_rfl) (fun _ _ _ h => h) (Or.inl ⟨by rfl, fun w hSw => ?_⟩) hHeld ?_
  · (try dsimp only at hSw)
    go_simp
  try simp only [Act.put, List.setIfInBounds_toArray, List.set_cons_zero, List.set_cons_succ]
  refine wpAnyH_take (i := 6) (oi := ({ dst := some 18, op := Op.indexAddr 24 (Operand.tmp 16) (Operand.tmp 17), type := 0, pos := p, after := #[{ on := 4, ground := Ground.data }, { on := 5, ground := Ground.data }], guard := none } : Oper)) (v := .pointer (some ⟨g2, o2 + i * 3, none⟩)) rfl (by kernel_rfl) (by kernel_rfl) (by kernel_rfl) (fun _ _ _ h => h) (Or.inl ⟨by rfl, fun w hSw => ?_⟩) hHeld ?_
  · (try dsimp only at hSw)
    go_simp
  try simp only [Act.put, List.setIfInBounds_toArray, List.set_cons_zero, List.set_cons_succ]
  refine wpAnyH_take (i := 7) (oi := ({ dst := some 19, op := Op.build 155 #[(0, Operand.tmp 15), (1, Operand.tmp 18)], type := 155, pos := p, after := #[{ on := 3, ground := Ground.data }, { on := 6, ground := Ground.data }], guard := none } : Oper)) (v := .agg #[.pointer (some ⟨g1, o1 + i * 3, none⟩), .pointer (some ⟨g2, o2 + i * 3, none⟩)]) rfl (by kernel_rfl) (by kernel_rfl) (by kernel_rfl) (fun _ _ _ h => h) (Or.inl ⟨by rfl, fun w hSw => ?_⟩) hHeld ?_
  · (try dsimp only at hSw)
    go_simp
  try simp only [Act.put, List.setIfInBounds_toArray, List.set_cons_zero, List.set_cons_succ]
  refine wpAnyH_ready (rs := [0, 8]) (by kernel_rfl) (by simp) ?_
  refine AllReadyH.cons (o := ({ dst := some 12, op := Op.load 156 (Operand.tmp 3), type := 156, pos := p, after := #[], guard := none } : Oper)) rfl (fun K hK => ?_) ?_
  · go_simp
    refine hK.out _ _ HS0.out (fun hHeld => ?_)
    clear hK K
    try simp only [Act.put, List.setIfInBounds_toArray, List.set_cons_zero, List.set_cons_succ]
    refine wpAnyH_ready (rs := [8]) (by kernel_rfl) (by simp) ?_
    refine AllReadyH.cons (o := ({ dst := some 20, op := Op.buildSlice 156 1 #[(0, Operand.tmp 19)], type := 156, pos := p, after := #[{ on := 7, ground := Ground.data }], guard := none } : Oper)) rfl (fun K hK => ?_) AllReadyH.nil
    go_simp
    refine hK.out _ _ HS1.out (fun hHeld => ?_)
    clear hK K
    try simp only [Act.put, List.setIfInBounds_toArray, List.set_cons_zero, List.set_cons_succ]
    refine wpAnyH_ready (rs := [9]) (by kernel_rfl) (by simp) ?_
    refine AllReadyH.cons (o := ({ dst := some 21, op := Op.call { callee := Callee.builtin Builtin.append, args := #[Operand.tmp 12, Operand.tmp 20], argTypes := #[156, 156] }, type := 156, pos := p, after := #[{ on := 0, ground := Ground.data }, { on := 8, ground := Ground.data }], guard := none } : Oper)) rfl (fun K hK => ?_) AllReadyH.nil
    refine step_append_lies _ (by rfl) _ _ _ (by rfl) n₀ 155 i0 _ 2 16 Try.underlying156 HI.out.1 HI.out.2.1 HI.out.2.2.1 HI.out.2.2.2 rfl (by decide) (.slice AO k co) k xs (by rfl) HO1.out ⟨W.heap.size, 0, none⟩ 1 1 [.pointer (some ⟨g1, o1 + i * 3, none⟩), .pointer (some ⟨g2, o2 + i * 3, none⟩)] (by rfl) (by rfl) (World.news_of_block (heap_alloc_new W.drew _)) (two_leaf _ _) (by decide) CM.out CB.out CS.out (W.heap.size + 1) (by simp) ?_
    intro g9 cap9 W2 ho9 hg9 hat9 hlt9
    have HP := Lib.hid (push2_mid HB.out HBA.out HBB.out HBN.out HR.out hg9 ho9 hat9 hlt9)
    clear ho9 hg9 hat9 hlt9
    obtain ⟨hb9, hbf9, hbl9, hsa, hsb⟩ := HP.out.1
    refine hK.out _ _ ⟨hsa, hsb⟩ (fun hHeld => ?_)
    clear hK K
    try simp only [Act.put, List.setIfInBounds_toArray, List.set_cons_zero, List.set_cons_succ]
    refine wpAnyH_ready (rs := [10]) (by kernel_rfl) (by simp) ?_
    refine AllReadyH.cons (o := ({ dst := none, op := Op.store 156 (Operand.tmp 3) (Operand.tmp 21), type := 0, pos := p, after := #[{ on := 9, ground := Ground.data }, { on := 9, ground := Ground.chain }, { on := 0, ground := Ground.phase }, { on := 1, ground := Ground.phase }, { on := 2, ground := Ground.phase }, { on := 3, ground := Ground.phase }, { on := 4, ground := Ground.phase }, { on := 5, ground := Ground.phase }, { on := 6, ground := Ground.phase }, { on := 7, ground := Ground.phase }, { on := 8, ground := Ground.phase }, { on := 9, ground := Ground.phase }], guard := none } : Oper)) rfl (fun K hK => ?_) AllReadyH.nil
    go_simp
    refine hK.out _ _ HP.out.2.1 (fun hHeld => ?_)
    clear hK K
    refine wpAnyH_done (by kernel_rfl) ?_ _
    exact HRR.out _ HP.out.2.2
  · refine AllReadyH.cons (o := ({ dst := some 20, op := Op.buildSlice 156 1 #[(0, Operand.tmp 19)], type := 156, pos := p, after := #[{ on := 7, ground := Ground.data }], guard := none } : Oper)) rfl (fun K hK => ?_) AllReadyH.nil
    go_simp
    refine hK.out _ _ HS1.out (fun hHeld => ?_)
    clear hK K
    try simp only [Act.put, List.setIfInBounds_toArray, List.set_cons_zero, List.set_cons_succ]
    refine wpAnyH_ready (rs := [0]) (by kernel_rfl) (by simp) ?_
    refine AllReadyH.cons (o := ({ dst := some 12, op := Op.load 156 (Operand.tmp 3), type := 156, pos := p, after := #[], guard := none } : Oper)) rfl (fun K hK => ?_) AllReadyH.nil
    go_simp
    refine hK.out _ _ HS1.out (fun hHeld => ?_)
    clear hK K
    try simp only [Act.put, List.setIfInBounds_toArray, List.set_cons_zero, List.set_cons_succ]
    refine wpAnyH_ready (rs := [9]) (by kernel_rfl) (by simp) ?_
    refine AllReadyH.cons (o := ({ dst := some 21, op := Op.call { callee := Callee.builtin Builtin.append, args := #[Operand.tmp 12, Operand.tmp 20], argTypes := #[156, 156] }, type := 156, pos := p, after := #[{ on := 0, ground := Ground.data }, { on := 8, ground := Ground.data }], guard := none } : Oper)) rfl (fun K hK => ?_) AllReadyH.nil
    refine step_append_lies _ (by rfl) _ _ _ (by rfl) n₀ 155 i0 _ 2 16 Try.underlying156 HI.out.1 HI.out.2.1 HI.out.2.2.1 HI.out.2.2.2 rfl (by decide) (.slice AO k co) k xs (by rfl) HO1.out ⟨W.heap.size, 0, none⟩ 1 1 [.pointer (some ⟨g1, o1 + i * 3, none⟩), .pointer (some ⟨g2, o2 + i * 3, none⟩)] (by rfl) (by rfl) (World.news_of_block (heap_alloc_new W.drew _)) (two_leaf _ _) (by decide) CM.out CB.out CS.out (W.heap.size + 1) (by simp) ?_
    intro g9 cap9 W2 ho9 hg9 hat9 hlt9
    have HP := Lib.hid (push2_mid HB.out HBA.out HBB.out HBN.out HR.out hg9 ho9 hat9 hlt9)
    clear ho9 hg9 hat9 hlt9
    obtain ⟨hb9, hbf9, hbl9, hsa, hsb⟩ := HP.out.1
    refine hK.out _ _ ⟨hsa, hsb⟩ (fun hHeld => ?_)
    clear hK K
    try simp only [Act.put, List.setIfInBounds_toArray, List.set_cons_zero, List.set_cons_succ]
    refine wpAnyH_ready (rs := [10]) (by kernel_rfl) (by simp) ?_
    refine AllReadyH.cons (o := ({ dst := none, op := Op.store 156 (Operand.tmp 3) (Operand.tmp 21), type := 0, pos := p, after := #[{ on := 9, ground := Ground.data }, { on := 9, ground := Ground.chain }, { on := 0, ground := Ground.phase }, { on := 1, ground := Ground.phase }, { on := 2, ground := Ground.phase }, { on := 3, ground := Ground.phase }, { on := 4, ground := Ground.phase }, { on := 5, ground := Ground.phase }, { on := 6, ground := Ground.phase }, { on := 7, ground := Ground.phase }, { on := 8, ground := Ground.phase }, { on := 9, ground := Ground.phase }], guard := none } : Oper)) rfl (fun K hK => ?_) AllReadyH.nil
    go_simp
    refine hK.out _ _ HP.out.2.1 (fun hHeld => ?_)
    clear hK K
    refine wpAnyH_done (by kernel_rfl) ?_ _
    exact HRR.out _ HP.out.2.2
end Go.Proofs.Ytmndlhbgacgnlaa
