/- 'left = append(left, part)' where both variables lie in boxes and the statement draws its order: what it leaves, within a round too. Condition: fewer than 2^40 elements. -/
import Derived.Test.YtegigjnlecpplaaBack
import Derived.Test.YtegigjnlecpplaaExCopy
import Derived.WalkSmall
import Derived.Deep.AppendLies
import Derived.Deep.RegionHeld3
import Derived.CallsIn
import Derived.OrdersIn
namespace Go.Proofs.Ytegigjnlecpplaa
open Go Go.RowKit

/-- Left at its end alone. -/
def onlyN (R : World → Prop) : Exit → Act → World → Prop
  | .normal, _, W => R W
  | _, _, _ => False
theorem onlyN_out {R : World → Prop} : ¬ LetsOut (onlyN R) := fun ⟨_, _, h⟩ => h

section
variable {P : Program} {ops : Array Oper} {R : World → Prop} {l n : Nat}
/-- An operation that defers nothing goes in a round as anywhere. -/
theorem opIn_round {o : Oper} {a : Act} {w : World} {K : Act → World → Prop} (hd : ∀ c, o.op ≠ .defer c) (h : o.wp P a w K (onlyN R)) : o.wpIn (Fence.wide.inRound l) n P a w K (onlyN R) := by
  unfold Oper.wp at h
  unfold Oper.wpIn
  refine ⟨fun _ _ => trivial, ?_⟩
  rw [Oper.semAt_eq _ _ _ hd]
  generalize (execOp a.eval o).run P w = r at *
  cases r with
  | ok x w2 =>
    cases x <;> simp only [Oper.upon, Oper.uponIn] at h ⊢
    case value v => exact h
    case skip => exact h
    case defer d => exact h
    case enter f args => exact ⟨fun h => by simp [Fence.inRound, Fence.wide] at h, CallsIn.inRound l (callsIn_wide.2 h)⟩
    case row row args =>
      refine ⟨fun h => by simp [Fence.inRound, Fence.wide] at h, fun c cs _ => ?_⟩
      obtain ⟨v, w3, r, s⟩ := h c cs
      exact ⟨v, w3, r, stepsIn_wide.2 s⟩
  | halt x w2 => cases x <;> simp only [Oper.upon, Oper.uponIn] at h ⊢ <;> exact h
theorem anyIn_round (hd : ∀ (i : Nat) (o : Oper), ops[i]? = some o → ∀ c, o.op ≠ .defer c) : ∀ (fuel : Nat) (listed : Array Bool) (a : Act) (w : World), wpAny P .any ops (onlyN R) fuel listed a w → wpAnyIn (Fence.wide.inRound l) n P .any ops (onlyN R) fuel listed a w := by
  intro fuel
  induction fuel with
  | zero => intro listed a w h; exact h
  | succ fuel ih =>
    intro listed a w h
    refine ⟨h.1, fun i hi => ?_⟩
    have h2 := h.2 i hi
    unfold wpOp at h2
    unfold wpOpIn
    cases ho : ops[i]? with
    | none => rw [ho] at h2; exact ih _ _ _ h2
    | some o =>
      rw [ho] at h2
      simp only at h2 ⊢
      by_cases hw : Region.wanted o (yielded ops a.tmps) = true
      · rw [if_pos hw] at h2 ⊢
        rcases h2 with h2 | ⟨-, h2⟩
        · exact Oper.wpIn_mono (fun a w => ih _ a w) (opIn_round (hd i o ho) h2)
        · exact (onlyN_out h2).elim
      · rw [if_neg hw] at h2 ⊢
        exact ⟨fun _ _ => trivial, ih _ _ _ h2⟩
theorem region_round {id : Nat} {Q : Exit → Act → World → Prop} {a : Act} {w : World} (hm : P.follows .mixedOrders = true) (hd : ∀ (i : Nat) (o : Oper), ops[i]? = some o → ∀ c, o.op ≠ .defer c)
    (h : wpAny P .any ops (onlyN R) ops.size (Array.replicate ops.size false) a w.drew) (hQ : ∀ a W, R W → Q .normal a W) : (Code.region id ops true).wpIn (Fence.wide.inRound l) n P Q a w := by
  refine Go.wpIn_mono (wpIn_region_any (Q := onlyN R) hm (anyIn_round hd _ _ _ _ h)) (fun e a W hq => ?_)
  cases e with
  | normal => exact hQ a W hq
  | exit id => exact hq.elim
  | goto t => exact hq.elim
  | ret => exact hq.elim
  | panic c => exact hq.elim
  | outgrown => exact hq.elim
end

theorem keepS {W : World} {b d o i : Nat} {u : Value} (h : d ≠ b) : (W.setCell ⟨b, o, none⟩ u).cell? ⟨d, i, none⟩ = W.cell? ⟨d, i, none⟩ := World.cell?_of_block (w := W) (Below.heap_setCell W ⟨b, o, none⟩ u d h)
def notDefer (o : Oper) : Bool := match o.op with | .defer _ => false | _ => true
theorem all_not {ops : Array Oper} (h : ops.toList.all notDefer = true) : ∀ (i : Nat) (o : Oper), ops[i]? = some o → ∀ c, o.op ≠ .defer c := by
  intro i o ho c hc
  have hm : o ∈ ops.toList := by
    rw [← Array.getElem?_toList] at ho
    exact List.mem_of_getElem? ho
  have := List.all_eq_true.1 h o hm
  unfold notDefer at this
  rw [hc] at this
  cases this
theorem zero_one : ∀ u ∈ [Value.int .i64 0, .string ⟨#[]⟩, .slice none 0 0], u.oneCell' = true := by intro u hu; simp at hu; rcases hu with rfl | rfl | rfl <;> rfl
/-- What a push leaves. -/
def PushEnd (n₀ B k : Nat) (lv : Value) (xs ys : List Value) (W W2 : World) : Prop := ∃ g2 cap2, Boxed W2 B 24 (.slice (some ⟨g2, 0, none⟩) (k + 1) cap2) ∧ W2.ownsRow n₀ 26 3 (.slice (some ⟨g2, 0, none⟩) (k + 1) cap2) (k + 1) (xs ++ ys) ∧ Fr (B :: lv.ownBlock.toList) W W2 ∧ (lv.ownBlock = some g2 ∨ W.heap.size ≤ g2) ∧ g2 < W2.heap.size

theorem set3_row {W : World} {n₀ g cap k : Nat} {xs : List Value} {v0 v1 v2 u0 u1 u2 : Value} (hx : xs.length = k * 3) (h : W.ownsRow n₀ 26 3 (.slice (some ⟨g, 0, none⟩) (k + 1) cap) (k + 1) (xs ++ [u0, u1, u2])) :
    (((W.setCell ⟨g, k * 3, none⟩ v0).setCell ⟨g, k * 3 + 1, none⟩ v1).setCell ⟨g, k * 3 + 2, none⟩ v2).ownsRow n₀ 26 3 (.slice (some ⟨g, 0, none⟩) (k + 1) cap) (k + 1) (xs ++ [v0, v1, v2]) := by
  have h3 := (((h.stored (k * 3) v0).1.stored (k * 3 + 1) v1).1.stored (k * 3 + 2) v2).1
  have e : (((xs ++ [u0, u1, u2]).set (k * 3) v0).set (k * 3 + 1) v1).set (k * 3 + 2) v2 = xs ++ [v0, v1, v2] := by
    rw [← hx, List.set_append_right _ _ (Nat.le_refl _), List.set_append_right _ _ (by omega), List.set_append_right _ _ (by omega)]
    simp
  rw [e] at h3
  exact h3

theorem push_mid {n₀ B pb k co q c g2 cap2 : Nat} {AO A : Option Addr} {K0 : Int} {S0 : ByteArray} {xs : List Value} {W W2 : World}
    (hB : Boxed W B 24 (.slice AO k co)) (hR : W.ownsRow n₀ 26 3 (.slice AO k co) k xs) (hBW : B ≠ pb ∧ Value.ownBlock (.slice AO k co) ≠ some pb) (hP : W.heap[pb]? = some (.cells #[.int .i64 K0, .string S0, .slice A q c] 26 (0, 0)))
    (hg : (W.drew.alloc (.cells #[.int .i64 0, .string ⟨#[]⟩, .slice none 0 0] 26)).grownBy W2 (Value.ownBlock (.slice AO k co))) (ho : W2.ownsRow n₀ 26 3 (.slice (some ⟨g2, 0, none⟩) (k + 1) cap2) (k + 1) (xs ++ [.int .i64 0, .string ⟨#[]⟩, .slice none 0 0])) (hat : Value.ownBlock (.slice AO k co) = some g2 ∨ g2 = W.heap.size + 1) (hlt : g2 < W2.heap.size) :
    (W2.cell? ⟨B, 0, none⟩ = some (.slice AO k co) ∧ W2.frozen? ⟨B, 0, none⟩ = false ∧ B < W2.heap.size ∧ g2 ≠ B ∧ B ≠ g2 ∧ W2.cell? ⟨g2, k * 3, none⟩ = some (.int .i64 0) ∧ W2.cell? ⟨g2, k * 3 + 1, none⟩ = some (.string ⟨#[]⟩) ∧ W2.cell? ⟨g2, k * 3 + 2, none⟩ = some (.slice none 0 0) ∧
      W2.frozen? ⟨g2, k * 3, none⟩ = false ∧ W2.frozen? ⟨g2, k * 3 + 1, none⟩ = false ∧ W2.frozen? ⟨g2, k * 3 + 2, none⟩ = false ∧
      W2.cell? ⟨pb, 0, none⟩ = some (.int .i64 K0) ∧ W2.cell? ⟨pb, 1, none⟩ = some (.string S0) ∧ W2.cell? ⟨pb, 2, none⟩ = some (.slice A q c) ∧ g2 ≠ pb ∧ pb ≠ g2 ∧ pb ≠ B) ∧
    (∀ R : World → Prop, (∀ X, PushEnd n₀ B k (.slice AO k co) xs [.int .i64 K0, .string S0, .slice A q c] W X → R X) → R ((((W2.setCell ⟨g2, k * 3, none⟩ (.int .i64 K0)).setCell ⟨g2, k * 3 + 1, none⟩ (.string S0)).setCell ⟨g2, k * 3 + 2, none⟩ (.slice A q c)).setCell ⟨B, 0, none⟩ (.slice (some ⟨g2, 0, none⟩) (k + 1) cap2))) ∧
    (∀ R : World → Prop, (∀ X, PushEnd n₀ B k (.slice AO k co) xs [.int .i64 K0, .string S0, .slice A q c] W X → R X) → R ((((W2.setCell ⟨B, 0, none⟩ (.slice (some ⟨g2, 0, none⟩) (k + 1) cap2)).setCell ⟨g2, k * 3, none⟩ (.int .i64 K0)).setCell ⟨g2, k * 3 + 1, none⟩ (.string S0)).setCell ⟨g2, k * 3 + 2, none⟩ (.slice A q c))) := by
  have hs : (W.drew.alloc (.cells #[.int .i64 0, .string ⟨#[]⟩, .slice none 0 0] 26)).heap.size = W.heap.size + 1 := by simp
  have hold : ∀ j, j < W.heap.size → Value.ownBlock (.slice AO k co) ≠ some j → W2.heap[j]? = W.heap[j]? := fun j hj hne => (hg.block j (by omega) (fun e => hne e.symm)).trans (Below.heap_alloc W.drew _ j hj)
  have hpl : pb < W.heap.size := (Array.getElem?_eq_some_iff.1 hP).1
  have hBl := hB.lt
  have hBo : Value.ownBlock (.slice AO k co) ≠ some B := fun e => Boxed.not_row hB (by decide) hR e.symm
  have hB2 : Boxed W2 B 24 (.slice AO k co) := (hold B hBl hBo).trans hB
  have hP2 : W2.heap[pb]? = some (.cells #[.int .i64 K0, .string S0, .slice A q c] 26 (0, 0)) := (hold pb hpl hBW.2).trans hP
  have hgB : g2 ≠ B := fun e => Boxed.not_row hB2 (by decide) ho (by simp [Value.ownBlock, e])
  have hgp : g2 ≠ pb := fun e => by
    rcases hat with h | h
    · exact hBW.2 (by rw [h, e])
    · omega
  have hx : xs.length = k * 3 := hR.1
  have hc : ∀ (j : Nat) (v : Value), [Value.int .i64 0, .string ⟨#[]⟩, .slice none 0 0][j]? = some v → W2.cell? ⟨g2, k * 3 + j, none⟩ = some v := by
    intro j v hj
    have hj3 : j < 3 := (List.getElem?_eq_some_iff.1 hj).1
    rw [ho.cellAt (k * 3 + j) (by omega), List.getElem?_append_right (by omega), hx, Nat.add_sub_cancel_left]
    exact hj
  have hfr0 : Fr (B :: (Value.ownBlock (.slice AO k co)).toList) W W2 := by
    refine ⟨hg.os, hg.tape, hg.output, by have := hg.size; omega, fun j hj hn => hold j hj (fun e => hn (by simp [e]))⟩
  have hgm : g2 ∈ (B :: (Value.ownBlock (.slice AO k co)).toList) ∨ W.heap.size ≤ g2 := hat.elim (fun h => Or.inl (by simp [h])) (fun h => Or.inr (by omega))
  have hat2 : Value.ownBlock (.slice AO k co) = some g2 ∨ W.heap.size ≤ g2 := hat.imp id (fun h => by omega)
  refine ⟨⟨hB2.cell, hB2.frozen, hB2.lt, hgB, Ne.symm hgB, hc 0 _ rfl, hc 1 _ rfl, hc 2 _ rfl, ho.frozenAt _, ho.frozenAt _, ho.frozenAt _, by simp [World.cell?, hP2], by simp [World.cell?, hP2], by simp [World.cell?, hP2], hgp, Ne.symm hgp, Ne.symm hBW.1⟩, ?_, ?_⟩
  · intro R hR2
    refine hR2 _ ⟨g2, cap2, ?_, ?_, ?_, hat2, by simpa [World.setCell] using hlt⟩
    · refine Boxed.set _ (v := .slice AO k co) ?_
      exact box_on hB2 (by rw [Below.heap_setCell _ _ _ _ (Ne.symm hgB), Below.heap_setCell _ _ _ _ (Ne.symm hgB), Below.heap_setCell _ _ _ _ (Ne.symm hgB)])
    · exact row_on (set3_row hx ho) (fun j hj => Below.heap_setCell _ _ _ _ (by rw [show j = g2 by simpa [Value.ownBlock, eq_comm] using hj]; exact hgB))
    · refine hfr0.trans (T := [g2, B]) ?_ (fun x hx => ?_)
      · exact (((Fr.set _ _ _ (by simp)).trans (Fr.set (S := [g2, B]) _ _ _ (by simp)) (fun x h => Or.inl h)).trans (Fr.set (S := [g2, B]) _ _ _ (by simp)) (fun x h => Or.inl h)).trans (Fr.set (S := [g2, B]) _ _ _ (by simp)) (fun x h => Or.inl h)
      · simp at hx
        rcases hx with rfl | rfl
        · exact hgm
        · exact Or.inl (by simp)
  · intro R hR2
    have hr1 : (W2.setCell ⟨B, 0, none⟩ (.slice (some ⟨g2, 0, none⟩) (k + 1) cap2)).ownsRow n₀ 26 3 (.slice (some ⟨g2, 0, none⟩) (k + 1) cap2) (k + 1) (xs ++ [.int .i64 0, .string ⟨#[]⟩, .slice none 0 0]) := row_on ho (fun j hj => Below.heap_setCell _ _ _ _ (by rw [show j = g2 by simpa [Value.ownBlock, eq_comm] using hj]; exact hgB))
    refine hR2 _ ⟨g2, cap2, ?_, set3_row hx hr1, ?_, hat2, by simpa [World.setCell] using hlt⟩
    · exact box_on (hB2.set _) (by rw [Below.heap_setCell _ _ _ _ (Ne.symm hgB), Below.heap_setCell _ _ _ _ (Ne.symm hgB), Below.heap_setCell _ _ _ _ (Ne.symm hgB)])
    · refine hfr0.trans (T := [g2, B]) ?_ (fun x hx => ?_)
      · exact (((Fr.set _ _ _ (by simp)).trans (Fr.set (S := [g2, B]) _ _ _ (by simp)) (fun x h => Or.inl h)).trans (Fr.set (S := [g2, B]) _ _ _ (by simp)) (fun x h => Or.inl h)).trans (Fr.set (S := [g2, B]) _ _ _ (by simp)) (fun x h => Or.inl h)
      · simp at hx
        rcases hx with rfl | rfl
        · exact hgm
        · exact Or.inl (by simp)

set_option maxRecDepth 100000 in
set_option maxHeartbeats 4000000 in
theorem push_any {R : World → Prop} (p : String) (ds : List Deferred) (n₀ B pb k co q c : Nat) (AO A : Option Addr) (K0 : Int) (S0 : ByteArray) (xs : List Value) (W : World) (v0 v1 v2 v3 v5 v6 v8 v9 v10 v11 v12 v13 v14 v15 v16 v17 v18 v19 v20 v21 v22 v23 v24 v25 v26 v27 v28 v29 v30 v31 v32 v33 v34 v35 v36 v37 v38 v39 v40 v41 v42 v43 : Value)
    (hB : Boxed W B 24 (.slice AO k co)) (hR : W.ownsRow n₀ 26 3 (.slice AO k co) k xs) (hBW : B ≠ pb ∧ Value.ownBlock (.slice AO k co) ≠ some pb) (hP : W.heap[pb]? = some (.cells #[.int .i64 K0, .string S0, .slice A q c] 26 (0, 0)))
    (hn : n₀ ≤ W.heap.size) (hk : k ≤ 1099511627776) (hRR : ∀ X, PushEnd n₀ B k (.slice AO k co) xs [.int .i64 K0, .string S0, .slice A q c] W X → R X) :
    wpAny Try.prog .any (#[{ dst := some 38, op := Op.load 24 (Operand.tmp 4), type := 24, pos := p, after := #[], guard := none },
    { dst := some 39, op := Op.load 26 (Operand.tmp 7), type := 26, pos := p, after := #[], guard := none },
    { dst := some 40, op := Op.call { callee := Callee.builtin Builtin.len, args := #[Operand.tmp 38], argTypes := #[24] }, type := 3, pos := p, after := #[{ on := 0, ground := Ground.data }], guard := none },
    { dst := some 41, op := Op.buildSlice 24 1 #[(0, Operand.const (Value.agg #[Value.int IntKind.i64 0, Value.string ⟨#[]⟩, Value.slice none 0 0]))], type := 24, pos := p, after := #[], guard := none },
    { dst := some 42, op := Op.call { callee := Callee.builtin Builtin.append, args := #[Operand.tmp 38, Operand.tmp 41], argTypes := #[24, 24] }, type := 24, pos := p, after := #[{ on := 0, ground := Ground.data }, { on := 3, ground := Ground.data }, { on := 0, ground := Ground.phase }, { on := 1, ground := Ground.phase }, { on := 2, ground := Ground.phase }, { on := 3, ground := Ground.phase }], guard := none },
    { dst := some 43, op := Op.indexAddr 24 (Operand.tmp 42) (Operand.tmp 40), type := 0, pos := p, after := #[{ on := 4, ground := Ground.data }, { on := 2, ground := Ground.data }, { on := 0, ground := Ground.phase }, { on := 1, ground := Ground.phase }, { on := 2, ground := Ground.phase }, { on := 3, ground := Ground.phase }, { on := 4, ground := Ground.phase }, { on := 7, ground := Ground.gcOnly Departure.appendInPlace }], guard := none },
    { dst := none, op := Op.store 26 (Operand.tmp 43) (Operand.tmp 39), type := 0, pos := p, after := #[{ on := 5, ground := Ground.data }, { on := 1, ground := Ground.data }, { on := 4, ground := Ground.chain }, { on := 0, ground := Ground.phase }, { on := 1, ground := Ground.phase }, { on := 2, ground := Ground.phase }, { on := 3, ground := Ground.phase }, { on := 4, ground := Ground.phase }, { on := 7, ground := Ground.gcOnly Departure.appendInPlace }], guard := none },
    { dst := none, op := Op.store 24 (Operand.tmp 4) (Operand.tmp 42), type := 0, pos := p, after := #[{ on := 4, ground := Ground.data }, { on := 4, ground := Ground.chain }, { on := 6, ground := Ground.textOnly Departure.appendInPlace }, { on := 0, ground := Ground.phase }, { on := 1, ground := Ground.phase }, { on := 2, ground := Ground.phase }, { on := 3, ground := Ground.phase }, { on := 4, ground := Ground.phase }, { on := 5, ground := Ground.textOnly Departure.appendInPlace }, { on := 6, ground := Ground.textOnly Departure.appendInPlace }], guard := none }] : Array Oper) (onlyN R) 8 (Array.replicate 8 false) { tmps := #[v0, v1, v2, v3, .pointer (some ⟨B, 0, none⟩), v5, v6, .pointer (some ⟨pb, 0, none⟩), v8, v9, v10, v11, v12, v13, v14, v15, v16, v17, v18, v19, v20, v21, v22, v23, v24, v25, v26, v27, v28, v29, v30, v31, v32, v33, v34, v35, v36, v37, v38, v39, v40, v41, v42, v43], defers := ds } W.drew := by
  obtain ⟨i0, hi, hz0, hz1, hz2⟩ := info_parts Try.infoEx
  have HI := Lib.hid (And.intro hi (And.intro hz0 (And.intro hz1 hz2)))
  clear hi hz0 hz1 hz2
  have hbc : W.cell? ⟨B, 0, none⟩ = some (.slice AO k co) := hB.cell
  have hbl : B < W.heap.size := hB.lt
  have hpl : pb < W.heap.size := (Array.getElem?_eq_some_iff.1 hP).1
  have hP1 : (W.drew.alloc (.cells #[.int .i64 0, .string ⟨#[]⟩, .slice none 0 0] 26)).heap[pb]? = some (.cells #[.int .i64 K0, .string S0, .slice A q c] 26 (0, 0)) := (Below.heap_alloc W.drew _ pb hpl).trans hP
  have HS0 := Lib.hid (show W.drew.cell? ⟨pb, 0, none⟩ = some (.int .i64 K0) ∧ W.drew.cell? ⟨pb, 1, none⟩ = some (.string S0) ∧ W.drew.cell? ⟨pb, 2, none⟩ = some (.slice A q c) from by
    have e : W.drew.heap[pb]? = some (.cells #[.int .i64 K0, .string S0, .slice A q c] 26 (0, 0)) := hP
    simp [World.cell?, e])
  have HS1 := Lib.hid (show (W.drew.alloc (.cells #[.int .i64 0, .string ⟨#[]⟩, .slice none 0 0] 26)).cell? ⟨pb, 0, none⟩ = some (.int .i64 K0) ∧ (W.drew.alloc (.cells #[.int .i64 0, .string ⟨#[]⟩, .slice none 0 0] 26)).cell? ⟨pb, 1, none⟩ = some (.string S0) ∧ (W.drew.alloc (.cells #[.int .i64 0, .string ⟨#[]⟩, .slice none 0 0] 26)).cell? ⟨pb, 2, none⟩ = some (.slice A q c) from by
    simp only [World.cell?, hP1]
    simp)
  have HO1 := Lib.hid (show (W.drew.alloc (.cells #[.int .i64 0, .string ⟨#[]⟩, .slice none 0 0] 26)).ownsRow n₀ 26 3 (.slice AO k co) k xs from World.ownsRow.alloc (w := W.drew) hR _)
  have HB := Lib.hid hB
  have HR := Lib.hid hR
  have HBW := Lib.hid hBW
  have HPB := Lib.hid hP
  have HRR := Lib.hid hRR
  have CM := Lib.hid (show k + 1 ≤ maxLen by unfold maxLen; omega)
  have CB := Lib.hid (show (k + 1) * 48 ≤ 140737488355328 by omega)
  have CS := Lib.hid (show n₀ ≤ (W.drew.alloc (.cells #[.int .i64 0, .string ⟨#[]⟩, .slice none 0 0] 26)).heap.size by simp; omega)
  have hk0 : (0 : Int) ≤ (k : Int) := by omega
  have hk1 : (k : Int) < (k : Int) + 1 := by omega
  have hk2 : (k : Int) ≤ 1099511627776 := by omega
  clear hB hR hBW hP hRR hP1 hn
  refine wpAny_of_held (S := (fun X => X.cell? ⟨pb, 0, none⟩ = some (.int .i64 K0) ∧ X.cell? ⟨pb, 1, none⟩ = some (.string S0) ∧ X.cell? ⟨pb, 2, none⟩ = some (.slice A q c))) _ _ _ _ ?_
  have hHeld := HS0.out
  refine wpAnyH_take (i := 1) (oi := ({ dst := some 39, op := Op.load 26 (Operand.tmp 7), type := 26, pos := p, after := #[], guard := none } : Oper)) (v := .agg #[.int .i64 K0, .string S0, .slice A q c]) rfl (by kernel_rfl) (by kernel_rfl) (by kernel_rfl) (fun _ _ _ h => h) (Or.inl ⟨by rfl, fun w hSw => ?_⟩) hHeld ?_
  · (try dsimp only at hSw)
    go_simp
  try simp only [Act.put, List.setIfInBounds_toArray, List.set_cons_zero, List.set_cons_succ]
  refine wpAnyH_ready (rs := [0, 3]) (by kernel_rfl) (by simp) ?_
  refine AllReadyH.cons (o := ({ dst := some 38, op := Op.load 24 (Operand.tmp 4), type := 24, pos := p, after := #[], guard := none } : Oper)) rfl (fun K hK => ?_) ?_
  · go_simp
    refine hK.out _ _ HS0.out (fun hHeld => ?_)
    clear hK K
    try simp only [Act.put, List.setIfInBounds_toArray, List.set_cons_zero, List.set_cons_succ]
    refine wpAnyH_take (i := 2) (oi := ({ dst := some 40, op := Op.call { callee := Callee.builtin Builtin.len, args := #[Operand.tmp 38], argTypes := #[24] }, type := 3, pos := p, after := #[{ on := 0, ground := Ground.data }], guard := none } : Oper)) (v := .int .i64 (k : Int)) rfl (by kernel_rfl) (by kernel_rfl) (by kernel_rfl) (fun _ _ _ h => h) (Or.inl ⟨by rfl, fun w hSw => ?_⟩) hHeld ?_
    · (try dsimp only at hSw)
      go_simp
    try simp only [Act.put, List.setIfInBounds_toArray, List.set_cons_zero, List.set_cons_succ]
    refine wpAnyH_ready (rs := [3]) (by kernel_rfl) (by simp) ?_
    refine AllReadyH.cons (o := ({ dst := some 41, op := Op.buildSlice 24 1 #[(0, Operand.const (Value.agg #[Value.int IntKind.i64 0, Value.string ⟨#[]⟩, Value.slice none 0 0]))], type := 24, pos := p, after := #[], guard := none } : Oper)) rfl (fun K hK => ?_) AllReadyH.nil
    go_simp
    refine hK.out _ _ HS1.out (fun hHeld => ?_)
    clear hK K
    try simp only [Act.put, List.setIfInBounds_toArray, List.set_cons_zero, List.set_cons_succ]
    refine wpAnyH_ready (rs := [4]) (by kernel_rfl) (by simp) ?_
    refine AllReadyH.cons (o := ({ dst := some 42, op := Op.call { callee := Callee.builtin Builtin.append, args := #[Operand.tmp 38, Operand.tmp 41], argTypes := #[24, 24] }, type := 24, pos := p, after := #[{ on := 0, ground := Ground.data }, { on := 3, ground := Ground.data }, { on := 0, ground := Ground.phase }, { on := 1, ground := Ground.phase }, { on := 2, ground := Ground.phase }, { on := 3, ground := Ground.phase }], guard := none } : Oper)) rfl (fun K hK => ?_) AllReadyH.nil
    refine step_append_lies _ (by rfl) _ _ _ (by rfl) n₀ 26 i0 _ 3 48 Try.underlying24 HI.out.1 HI.out.2.1 HI.out.2.2.1 HI.out.2.2.2 rfl (by decide) (.slice AO k co) k xs (by rfl) HO1.out ⟨W.heap.size, 0, none⟩ 1 1 [.int .i64 0, .string ⟨#[]⟩, .slice none 0 0] (by rfl) (by rfl) (World.news_of_block (heap_alloc_new W.drew _)) zero_one (by decide) CM.out CB.out CS.out (W.heap.size + 1) (by simp) ?_
    intro g2 cap2 W2 ho2 hg2 hat2 hlt2
    have HP := Lib.hid (push_mid HB.out HR.out HBW.out HPB.out hg2 ho2 hat2 hlt2)
    clear ho2 hg2 hat2 hlt2
    obtain ⟨hb2, hbf2, hbl2, hgb2, hbg2, z0, z1, z2, f0, f1, f2, p0, p1, p2, hgp2, hpg2, hbp2⟩ := HP.out.1
    refine hK.out _ _ ⟨p0, p1, p2⟩ (fun hHeld => ?_)
    clear hK K
    try simp only [Act.put, List.setIfInBounds_toArray, List.set_cons_zero, List.set_cons_succ]
    refine wpAnyH_take (i := 5) (oi := ({ dst := some 43, op := Op.indexAddr 24 (Operand.tmp 42) (Operand.tmp 40), type := 0, pos := p, after := #[{ on := 4, ground := Ground.data }, { on := 2, ground := Ground.data }, { on := 0, ground := Ground.phase }, { on := 1, ground := Ground.phase }, { on := 2, ground := Ground.phase }, { on := 3, ground := Ground.phase }, { on := 4, ground := Ground.phase }, { on := 7, ground := Ground.gcOnly Departure.appendInPlace }], guard := none } : Oper)) (v := .pointer (some ⟨g2, k * 3, none⟩)) rfl (by kernel_rfl) (by kernel_rfl) (by kernel_rfl) (fun _ _ _ h => h) (Or.inl ⟨by rfl, fun w hSw => ?_⟩) hHeld ?_
    · (try dsimp only at hSw)
      go_simp
    try simp only [Act.put, List.setIfInBounds_toArray, List.set_cons_zero, List.set_cons_succ]
    refine wpAnyH_ready (rs := [6, 7]) (by kernel_rfl) (by simp) ?_
    refine AllReadyH.cons (o := ({ dst := none, op := Op.store 26 (Operand.tmp 43) (Operand.tmp 39), type := 0, pos := p, after := #[{ on := 5, ground := Ground.data }, { on := 1, ground := Ground.data }, { on := 4, ground := Ground.chain }, { on := 0, ground := Ground.phase }, { on := 1, ground := Ground.phase }, { on := 2, ground := Ground.phase }, { on := 3, ground := Ground.phase }, { on := 4, ground := Ground.phase }, { on := 7, ground := Ground.gcOnly Departure.appendInPlace }], guard := none } : Oper)) rfl (fun K hK => ?_) ?_
    · go_simp
      refine hK.out _ _ (by simp only [keepS, hpg2, ne_eq, not_false_eq_true, p0, p1, p2, and_self]) (fun hHeld => ?_)
      clear hK K
      try simp only [Act.put, List.setIfInBounds_toArray, List.set_cons_zero, List.set_cons_succ]
      refine wpAnyH_ready (rs := [7]) (by kernel_rfl) (by simp) ?_
      refine AllReadyH.cons (o := ({ dst := none, op := Op.store 24 (Operand.tmp 4) (Operand.tmp 42), type := 0, pos := p, after := #[{ on := 4, ground := Ground.data }, { on := 4, ground := Ground.chain }, { on := 6, ground := Ground.textOnly Departure.appendInPlace }, { on := 0, ground := Ground.phase }, { on := 1, ground := Ground.phase }, { on := 2, ground := Ground.phase }, { on := 3, ground := Ground.phase }, { on := 4, ground := Ground.phase }, { on := 5, ground := Ground.textOnly Departure.appendInPlace }, { on := 6, ground := Ground.textOnly Departure.appendInPlace }], guard := none } : Oper)) rfl (fun K hK => ?_) AllReadyH.nil
      go_simp
      refine hK.out _ _ (by simp only [keepS, hpg2, hbp2, ne_eq, not_false_eq_true, p0, p1, p2, and_self]) (fun hHeld => ?_)
      clear hK K
      refine wpAnyH_done (by kernel_rfl) ?_ _
      exact HP.out.2.1 R HRR.out
    · refine AllReadyH.cons (o := ({ dst := none, op := Op.store 24 (Operand.tmp 4) (Operand.tmp 42), type := 0, pos := p, after := #[{ on := 4, ground := Ground.data }, { on := 4, ground := Ground.chain }, { on := 6, ground := Ground.textOnly Departure.appendInPlace }, { on := 0, ground := Ground.phase }, { on := 1, ground := Ground.phase }, { on := 2, ground := Ground.phase }, { on := 3, ground := Ground.phase }, { on := 4, ground := Ground.phase }, { on := 5, ground := Ground.textOnly Departure.appendInPlace }, { on := 6, ground := Ground.textOnly Departure.appendInPlace }], guard := none } : Oper)) rfl (fun K hK => ?_) AllReadyH.nil
      go_simp
      refine hK.out _ _ (by simp only [keepS, hbp2, ne_eq, not_false_eq_true, p0, p1, p2, and_self]) (fun hHeld => ?_)
      clear hK K
      try simp only [Act.put, List.setIfInBounds_toArray, List.set_cons_zero, List.set_cons_succ]
      refine wpAnyH_ready (rs := [6]) (by kernel_rfl) (by simp) ?_
      refine AllReadyH.cons (o := ({ dst := none, op := Op.store 26 (Operand.tmp 43) (Operand.tmp 39), type := 0, pos := p, after := #[{ on := 5, ground := Ground.data }, { on := 1, ground := Ground.data }, { on := 4, ground := Ground.chain }, { on := 0, ground := Ground.phase }, { on := 1, ground := Ground.phase }, { on := 2, ground := Ground.phase }, { on := 3, ground := Ground.phase }, { on := 4, ground := Ground.phase }, { on := 7, ground := Ground.gcOnly Departure.appendInPlace }], guard := none } : Oper)) rfl (fun K hK => ?_) AllReadyH.nil
      go_simp
      refine hK.out _ _ (by simp only [keepS, hpg2, hbp2, ne_eq, not_false_eq_true, p0, p1, p2, and_self]) (fun hHeld => ?_)
      clear hK K
      refine wpAnyH_done (by kernel_rfl) ?_ _
      exact HP.out.2.2 R HRR.out
  · refine AllReadyH.cons (o := ({ dst := some 41, op := Op.buildSlice 24 1 #[(0, Operand.const (Value.agg #[Value.int IntKind.i64 0, Value.string ⟨#[]⟩, Value.slice none 0 0]))], type := 24, pos := p, after := #[], guard := none } : Oper)) rfl (fun K hK => ?_) AllReadyH.nil
    go_simp
    refine hK.out _ _ HS1.out (fun hHeld => ?_)
    clear hK K
    try simp only [Act.put, List.setIfInBounds_toArray, List.set_cons_zero, List.set_cons_succ]
    refine wpAnyH_ready (rs := [0]) (by kernel_rfl) (by simp) ?_
    refine AllReadyH.cons (o := ({ dst := some 38, op := Op.load 24 (Operand.tmp 4), type := 24, pos := p, after := #[], guard := none } : Oper)) rfl (fun K hK => ?_) AllReadyH.nil
    go_simp
    refine hK.out _ _ HS1.out (fun hHeld => ?_)
    clear hK K
    try simp only [Act.put, List.setIfInBounds_toArray, List.set_cons_zero, List.set_cons_succ]
    refine wpAnyH_take (i := 2) (oi := ({ dst := some 40, op := Op.call { callee := Callee.builtin Builtin.len, args := #[Operand.tmp 38], argTypes := #[24] }, type := 3, pos := p, after := #[{ on := 0, ground := Ground.data }], guard := none } : Oper)) (v := .int .i64 (k : Int)) rfl (by kernel_rfl) (by kernel_rfl) (by kernel_rfl) (fun _ _ _ h => h) (Or.inl ⟨by rfl, fun w hSw => ?_⟩) hHeld ?_
    · (try dsimp only at hSw)
      go_simp
    try simp only [Act.put, List.setIfInBounds_toArray, List.set_cons_zero, List.set_cons_succ]
    refine wpAnyH_ready (rs := [4]) (by kernel_rfl) (by simp) ?_
    refine AllReadyH.cons (o := ({ dst := some 42, op := Op.call { callee := Callee.builtin Builtin.append, args := #[Operand.tmp 38, Operand.tmp 41], argTypes := #[24, 24] }, type := 24, pos := p, after := #[{ on := 0, ground := Ground.data }, { on := 3, ground := Ground.data }, { on := 0, ground := Ground.phase }, { on := 1, ground := Ground.phase }, { on := 2, ground := Ground.phase }, { on := 3, ground := Ground.phase }], guard := none } : Oper)) rfl (fun K hK => ?_) AllReadyH.nil
    refine step_append_lies _ (by rfl) _ _ _ (by rfl) n₀ 26 i0 _ 3 48 Try.underlying24 HI.out.1 HI.out.2.1 HI.out.2.2.1 HI.out.2.2.2 rfl (by decide) (.slice AO k co) k xs (by rfl) HO1.out ⟨W.heap.size, 0, none⟩ 1 1 [.int .i64 0, .string ⟨#[]⟩, .slice none 0 0] (by rfl) (by rfl) (World.news_of_block (heap_alloc_new W.drew _)) zero_one (by decide) CM.out CB.out CS.out (W.heap.size + 1) (by simp) ?_
    intro g2 cap2 W2 ho2 hg2 hat2 hlt2
    have HP := Lib.hid (push_mid HB.out HR.out HBW.out HPB.out hg2 ho2 hat2 hlt2)
    clear ho2 hg2 hat2 hlt2
    obtain ⟨hb2, hbf2, hbl2, hgb2, hbg2, z0, z1, z2, f0, f1, f2, p0, p1, p2, hgp2, hpg2, hbp2⟩ := HP.out.1
    refine hK.out _ _ ⟨p0, p1, p2⟩ (fun hHeld => ?_)
    clear hK K
    try simp only [Act.put, List.setIfInBounds_toArray, List.set_cons_zero, List.set_cons_succ]
    refine wpAnyH_take (i := 5) (oi := ({ dst := some 43, op := Op.indexAddr 24 (Operand.tmp 42) (Operand.tmp 40), type := 0, pos := p, after := #[{ on := 4, ground := Ground.data }, { on := 2, ground := Ground.data }, { on := 0, ground := Ground.phase }, { on := 1, ground := Ground.phase }, { on := 2, ground := Ground.phase }, { on := 3, ground := Ground.phase }, { on := 4, ground := Ground.phase }, { on := 7, ground := Ground.gcOnly Departure.appendInPlace }], guard := none } : Oper)) (v := .pointer (some ⟨g2, k * 3, none⟩)) rfl (by kernel_rfl) (by kernel_rfl) (by kernel_rfl) (fun _ _ _ h => h) (Or.inl ⟨by rfl, fun w hSw => ?_⟩) hHeld ?_
    · (try dsimp only at hSw)
      go_simp
    try simp only [Act.put, List.setIfInBounds_toArray, List.set_cons_zero, List.set_cons_succ]
    refine wpAnyH_ready (rs := [6, 7]) (by kernel_rfl) (by simp) ?_
    refine AllReadyH.cons (o := ({ dst := none, op := Op.store 26 (Operand.tmp 43) (Operand.tmp 39), type := 0, pos := p, after := #[{ on := 5, ground := Ground.data }, { on := 1, ground := Ground.data }, { on := 4, ground := Ground.chain }, { on := 0, ground := Ground.phase }, { on := 1, ground := Ground.phase }, { on := 2, ground := Ground.phase }, { on := 3, ground := Ground.phase }, { on := 4, ground := Ground.phase }, { on := 7, ground := Ground.gcOnly Departure.appendInPlace }], guard := none } : Oper)) rfl (fun K hK => ?_) ?_
    · go_simp
      refine hK.out _ _ (by simp only [keepS, hpg2, ne_eq, not_false_eq_true, p0, p1, p2, and_self]) (fun hHeld => ?_)
      clear hK K
      try simp only [Act.put, List.setIfInBounds_toArray, List.set_cons_zero, List.set_cons_succ]
      refine wpAnyH_ready (rs := [7]) (by kernel_rfl) (by simp) ?_
      refine AllReadyH.cons (o := ({ dst := none, op := Op.store 24 (Operand.tmp 4) (Operand.tmp 42), type := 0, pos := p, after := #[{ on := 4, ground := Ground.data }, { on := 4, ground := Ground.chain }, { on := 6, ground := Ground.textOnly Departure.appendInPlace }, { on := 0, ground := Ground.phase }, { on := 1, ground := Ground.phase }, { on := 2, ground := Ground.phase }, { on := 3, ground := Ground.phase }, { on := 4, ground := Ground.phase }, { on := 5, ground := Ground.textOnly Departure.appendInPlace }, { on := 6, ground := Ground.textOnly Departure.appendInPlace }], guard := none } : Oper)) rfl (fun K hK => ?_) AllReadyH.nil
      go_simp
      refine hK.out _ _ (by simp only [keepS, hpg2, hbp2, ne_eq, not_false_eq_true, p0, p1, p2, and_self]) (fun hHeld => ?_)
      clear hK K
      refine wpAnyH_done (by kernel_rfl) ?_ _
      exact HP.out.2.1 R HRR.out
    · refine AllReadyH.cons (o := ({ dst := none, op := Op.store 24 (Operand.tmp 4) (Operand.tmp 42), type := 0, pos := p, after := #[{ on := 4, ground := Ground.data }, { on := 4, ground := Ground.chain }, { on := 6, ground := Ground.textOnly Departure.appendInPlace }, { on := 0, ground := Ground.phase }, { on := 1, ground := Ground.phase }, { on := 2, ground := Ground.phase }, { on := 3, ground := Ground.phase }, { on := 4, ground := Ground.phase }, { on := 5, ground := Ground.textOnly Departure.appendInPlace }, { on := 6, ground := Ground.textOnly Departure.appendInPlace }], guard := none } : Oper)) rfl (fun K hK => ?_) AllReadyH.nil
      go_simp
      refine hK.out _ _ (by simp only [keepS, hbp2, ne_eq, not_false_eq_true, p0, p1, p2, and_self]) (fun hHeld => ?_)
      clear hK K
      try simp only [Act.put, List.setIfInBounds_toArray, List.set_cons_zero, List.set_cons_succ]
      refine wpAnyH_ready (rs := [6]) (by kernel_rfl) (by simp) ?_
      refine AllReadyH.cons (o := ({ dst := none, op := Op.store 26 (Operand.tmp 43) (Operand.tmp 39), type := 0, pos := p, after := #[{ on := 5, ground := Ground.data }, { on := 1, ground := Ground.data }, { on := 4, ground := Ground.chain }, { on := 0, ground := Ground.phase }, { on := 1, ground := Ground.phase }, { on := 2, ground := Ground.phase }, { on := 3, ground := Ground.phase }, { on := 4, ground := Ground.phase }, { on := 7, ground := Ground.gcOnly Departure.appendInPlace }], guard := none } : Oper)) rfl (fun K hK => ?_) AllReadyH.nil
      go_simp
      refine hK.out _ _ (by simp only [keepS, hpg2, hbp2, ne_eq, not_false_eq_true, p0, p1, p2, and_self]) (fun hHeld => ?_)
      clear hK K
      refine wpAnyH_done (by kernel_rfl) ?_ _
      exact HP.out.2.2 R HRR.out
end Go.Proofs.Ytegigjnlecpplaa
