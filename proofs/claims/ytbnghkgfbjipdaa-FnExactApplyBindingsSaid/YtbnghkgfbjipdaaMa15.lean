/- 'left = append(left, part)' where both variables lie in boxes and the statement draws its order: what it leaves, within a round too. Condition: fewer than 2^40 elements. For the program's own nodesWhere (it hands out the nodes of an expression, each before its arguments, without the arguments that are not gone into): what holds between two rounds. Condition: fewer than 2^40 nodes. -/
import Derived.Test.YtbnghkgfbjipdaaMa14
import Derived.Test.YtbnghkgfbjipdaaMa01
import Derived.WalkSmall
import Derived.Deep.AppendLies
import Derived.Deep.RegionHeld3
import Derived.CallsIn
import Derived.OrdersIn
import Derived.Sort.LoopGhostIn
namespace Go.Proofs.Ytbnghkgfbjipdaa
open Go Go.RowKit

/-- Left at its end alone. -/
def onlyN (R : World → Prop) : Exit → Act → World → Prop
  | .normal, _, W => R W
  | _, _, _ => False
theorem onlyN_out {R : World → Prop} : ¬ LetsOut (onlyN R) := fun ⟨_, _, h⟩ => h

section
variable {P : Program} {ops : Array Oper} {R : World → Prop} {l n : Nat}
/-- An operation that defers nothing goes in a round as anywhere. -/
theorem opIn_round {o : Oper} {a : Act} {w : World} {K : Act → World → Prop} (hd : ∀ c, o.op ≠ .defer c) (h : o.wp P a w K (onlyN R)) : o.wpIn (Fence.wide.inRound l) n P a w K (onlyN R) := by
  unfold Oper.wp at h
  unfold Oper.wpIn
  refine ⟨fun _ _ => trivial, ?_⟩
  rw [Oper.semAt_eq _ _ _ hd]
  generalize (execOp a.eval o).run P w = r at *
  cases r with
  | ok x w2 =>
    cases x <;> simp only [Oper.upon, Oper.uponIn] at h ⊢
    case value v => exact h
    case skip => exact h
    case defer d => exact h
    case enter f args => exact ⟨fun h => by simp [Fence.inRound, Fence.wide] at h, CallsIn.inRound l (callsIn_wide.2 h)⟩
    case row row args =>
      refine ⟨fun h => by simp [Fence.inRound, Fence.wide] at h, fun c cs _ => ?_⟩
      obtain ⟨v, w3, r, s⟩ := h c cs
      exact ⟨v, w3, r, stepsIn_wide.2 s⟩
  | halt x w2 => cases x <;> simp only [Oper.upon, Oper.uponIn] at h ⊢ <;> exact h
theorem anyIn_round (hd : ∀ (i : Nat) (o : Oper), ops[i]? = some o → ∀ c, o.op ≠ .defer c) : ∀ (fuel : Nat) (listed : Array Bool) (a : Act) (w : World), wpAny P .any ops (onlyN R) fuel listed a w → wpAnyIn (Fence.wide.inRound l) n P .any ops (onlyN R) fuel listed a w := by
  intro fuel
  induction fuel with
  | zero => intro listed a w h; exact h
  | succ fuel ih =>
    intro listed a w h
    refine ⟨h.1, fun i hi => ?_⟩
    have h2 := h.2 i hi
    unfold wpOp at h2
    unfold wpOpIn
    cases ho : ops[i]? with
    | none => rw [ho] at h2; exact ih _ _ _ h2
    | some o =>
      rw [ho] at h2
      simp only at h2 ⊢
      by_cases hw : Region.wanted o (yielded ops a.tmps) = true
      · rw [if_pos hw] at h2 ⊢
        rcases h2 with h2 | ⟨-, h2⟩
        · exact Oper.wpIn_mono (fun a w => ih _ a w) (opIn_round (hd i o ho) h2)
        · exact (onlyN_out h2).elim
      · rw [if_neg hw] at h2 ⊢
        exact ⟨fun _ _ => trivial, ih _ _ _ h2⟩
theorem region_round {id : Nat} {Q : Exit → Act → World → Prop} {a : Act} {w : World} (hm : P.follows .mixedOrders = true) (hd : ∀ (i : Nat) (o : Oper), ops[i]? = some o → ∀ c, o.op ≠ .defer c)
    (h : wpAny P .any ops (onlyN R) ops.size (Array.replicate ops.size false) a w.drew) (hQ : ∀ a W, R W → Q .normal a W) : (Code.region id ops true).wpIn (Fence.wide.inRound l) n P Q a w := by
  refine Go.wpIn_mono (wpIn_region_any (Q := onlyN R) hm (anyIn_round hd _ _ _ _ h)) (fun e a W hq => ?_)
  cases e with
  | normal => exact hQ a W hq
  | exit id => exact hq.elim
  | goto t => exact hq.elim
  | ret => exact hq.elim
  | panic c => exact hq.elim
  | outgrown => exact hq.elim
end

theorem keepS {W : World} {b d o i : Nat} {u : Value} (h : d ≠ b) : (W.setCell ⟨b, o, none⟩ u).cell? ⟨d, i, none⟩ = W.cell? ⟨d, i, none⟩ := World.cell?_of_block (w := W) (Below.heap_setCell W ⟨b, o, none⟩ u d h)
def notDefer (o : Oper) : Bool := match o.op with | .defer _ => false | _ => true
theorem all_not {ops : Array Oper} (h : ops.toList.all notDefer = true) : ∀ (i : Nat) (o : Oper), ops[i]? = some o → ∀ c, o.op ≠ .defer c := by
  intro i o ho c hc
  have hm : o ∈ ops.toList := by
    rw [← Array.getElem?_toList] at ho
    exact List.mem_of_getElem? ho
  have := List.all_eq_true.1 h o hm
  unfold notDefer at this
  rw [hc] at this
  cases this
theorem zero_one : ∀ u ∈ [Value.int .i64 0, .string ⟨#[]⟩, .slice none 0 0], u.oneCell' = true := by intro u hu; simp at hu; rcases hu with rfl | rfl | rfl <;> rfl
/-- What a push leaves. -/
def PushEnd (n₀ B k : Nat) (lv : Value) (xs ys : List Value) (W W2 : World) : Prop := ∃ g2 cap2, Boxed W2 B 24 (.slice (some ⟨g2, 0, none⟩) (k + 1) cap2) ∧ W2.ownsRow n₀ 26 3 (.slice (some ⟨g2, 0, none⟩) (k + 1) cap2) (k + 1) (xs ++ ys) ∧ Fr (B :: lv.ownBlock.toList) W W2 ∧ (lv.ownBlock = some g2 ∨ W.heap.size ≤ g2) ∧ g2 < W2.heap.size

theorem set3_row {W : World} {n₀ g cap k : Nat} {xs : List Value} {v0 v1 v2 u0 u1 u2 : Value} (hx : xs.length = k * 3) (h : W.ownsRow n₀ 26 3 (.slice (some ⟨g, 0, none⟩) (k + 1) cap) (k + 1) (xs ++ [u0, u1, u2])) :
    (((W.setCell ⟨g, k * 3, none⟩ v0).setCell ⟨g, k * 3 + 1, none⟩ v1).setCell ⟨g, k * 3 + 2, none⟩ v2).ownsRow n₀ 26 3 (.slice (some ⟨g, 0, none⟩) (k + 1) cap) (k + 1) (xs ++ [v0, v1, v2]) := by
  have h3 := (((h.stored (k * 3) v0).1.stored (k * 3 + 1) v1).1.stored (k * 3 + 2) v2).1
  have e : (((xs ++ [u0, u1, u2]).set (k * 3) v0).set (k * 3 + 1) v1).set (k * 3 + 2) v2 = xs ++ [v0, v1, v2] := by
    rw [← hx, List.set_append_right _ _ (Nat.le_refl _), List.set_append_right _ _ (by omega), List.set_append_right _ _ (by omega)]
    simp
  rw [e] at h3
  exact h3

theorem push_mid {n₀ B pb k co q c g2 cap2 : Nat} {AO A : Option Addr} {K0 : Int} {S0 : ByteArray} {xs : List Value} {W W2 : World}
    (hB : Boxed W B 24 (.slice AO k co)) (hR : W.ownsRow n₀ 26 3 (.slice AO k co) k xs) (hBW : B ≠ pb ∧ Value.ownBlock (.slice AO k co) ≠ some pb) (hP : W.heap[pb]? = some (.cells #[.int .i64 K0, .string S0, .slice A q c] 26 (0, 0)))
    (hg : (W.drew.alloc (.cells #[.int .i64 0, .string ⟨#[]⟩, .slice none 0 0] 26)).grownBy W2 (Value.ownBlock (.slice AO k co))) (ho : W2.ownsRow n₀ 26 3 (.slice (some ⟨g2, 0, none⟩) (k + 1) cap2) (k + 1) (xs ++ [.int .i64 0, .string ⟨#[]⟩, .slice none 0 0])) (hat : Value.ownBlock (.slice AO k co) = some g2 ∨ g2 = W.heap.size + 1) (hlt : g2 < W2.heap.size) :
    (W2.cell? ⟨B, 0, none⟩ = some (.slice AO k co) ∧ W2.frozen? ⟨B, 0, none⟩ = false ∧ B < W2.heap.size ∧ g2 ≠ B ∧ B ≠ g2 ∧ W2.cell? ⟨g2, k * 3, none⟩ = some (.int .i64 0) ∧ W2.cell? ⟨g2, k * 3 + 1, none⟩ = some (.string ⟨#[]⟩) ∧ W2.cell? ⟨g2, k * 3 + 2, none⟩ = some (.slice none 0 0) ∧
      W2.frozen? ⟨g2, k * 3, none⟩ = false ∧ W2.frozen? ⟨g2, k * 3 + 1, none⟩ = false ∧ W2.frozen? ⟨g2, k * 3 + 2, none⟩ = false ∧
      W2.cell? ⟨pb, 0, none⟩ = some (.int .i64 K0) ∧ W2.cell? ⟨pb, 1, none⟩ = some (.string S0) ∧ W2.cell? ⟨pb, 2, none⟩ = some (.slice A q c) ∧ g2 ≠ pb ∧ pb ≠ g2 ∧ pb ≠ B) ∧
    (∀ R : World → Prop, (∀ X, PushEnd n₀ B k (.slice AO k co) xs [.int .i64 K0, .string S0, .slice A q c] W X → R X) → R ((((W2.setCell ⟨g2, k * 3, none⟩ (.int .i64 K0)).setCell ⟨g2, k * 3 + 1, none⟩ (.string S0)).setCell ⟨g2, k * 3 + 2, none⟩ (.slice A q c)).setCell ⟨B, 0, none⟩ (.slice (some ⟨g2, 0, none⟩) (k + 1) cap2))) ∧
    (∀ R : World → Prop, (∀ X, PushEnd n₀ B k (.slice AO k co) xs [.int .i64 K0, .string S0, .slice A q c] W X → R X) → R ((((W2.setCell ⟨B, 0, none⟩ (.slice (some ⟨g2, 0, none⟩) (k + 1) cap2)).setCell ⟨g2, k * 3, none⟩ (.int .i64 K0)).setCell ⟨g2, k * 3 + 1, none⟩ (.string S0)).setCell ⟨g2, k * 3 + 2, none⟩ (.slice A q c))) := by
  have hs : (W.drew.alloc (.cells #[.int .i64 0, .string ⟨#[]⟩, .slice none 0 0] 26)).heap.size = W.heap.size + 1 := by simp
  have hold : ∀ j, j < W.heap.size → Value.ownBlock (.slice AO k co) ≠ some j → W2.heap[j]? = W.heap[j]? := fun j hj hne => (hg.block j (by omega) (fun e => hne e.symm)).trans (Below.heap_alloc W.drew _ j hj)
  have hpl : pb < W.heap.size := (Array.getElem?_eq_some_iff.1 hP).1
  have hBl := hB.lt
  have hBo : Value.ownBlock (.slice AO k co) ≠ some B := fun e => Boxed.not_row hB (by decide) hR e.symm
  have hB2 : Boxed W2 B 24 (.slice AO k co) := (hold B hBl hBo).trans hB
  have hP2 : W2.heap[pb]? = some (.cells #[.int .i64 K0, .string S0, .slice A q c] 26 (0, 0)) := (hold pb hpl hBW.2).trans hP
  have hgB : g2 ≠ B := fun e => Boxed.not_row hB2 (by decide) ho (by simp [Value.ownBlock, e])
  have hgp : g2 ≠ pb := fun e => by
    rcases hat with h | h
    · exact hBW.2 (by rw [h, e])
    · omega
  have hx : xs.length = k * 3 := hR.1
  have hc : ∀ (j : Nat) (v : Value), [Value.int .i64 0, .string ⟨#[]⟩, .slice none 0 0][j]? = some v → W2.cell? ⟨g2, k * 3 + j, none⟩ = some v := by
    intro j v hj
    have hj3 : j < 3 := (List.getElem?_eq_some_iff.1 hj).1
    rw [ho.cellAt (k * 3 + j) (by omega), List.getElem?_append_right (by omega), hx, Nat.add_sub_cancel_left]
    exact hj
  have hfr0 : Fr (B :: (Value.ownBlock (.slice AO k co)).toList) W W2 := by
    refine ⟨hg.os, hg.tape, hg.output, by have := hg.size; omega, fun j hj hn => hold j hj (fun e => hn (by simp [e]))⟩
  have hgm : g2 ∈ (B :: (Value.ownBlock (.slice AO k co)).toList) ∨ W.heap.size ≤ g2 := hat.elim (fun h => Or.inl (by simp [h])) (fun h => Or.inr (by omega))
  have hat2 : Value.ownBlock (.slice AO k co) = some g2 ∨ W.heap.size ≤ g2 := hat.imp id (fun h => by omega)
  refine ⟨⟨hB2.cell, hB2.frozen, hB2.lt, hgB, Ne.symm hgB, hc 0 _ rfl, hc 1 _ rfl, hc 2 _ rfl, ho.frozenAt _, ho.frozenAt _, ho.frozenAt _, by simp [World.cell?, hP2], by simp [World.cell?, hP2], by simp [World.cell?, hP2], hgp, Ne.symm hgp, Ne.symm hBW.1⟩, ?_, ?_⟩
  · intro R hR2
    refine hR2 _ ⟨g2, cap2, ?_, ?_, ?_, hat2, by simpa [World.setCell] using hlt⟩
    · refine Boxed.set _ (v := .slice AO k co) ?_
      exact box_on hB2 (by rw [Below.heap_setCell _ _ _ _ (Ne.symm hgB), Below.heap_setCell _ _ _ _ (Ne.symm hgB), Below.heap_setCell _ _ _ _ (Ne.symm hgB)])
    · exact row_on (set3_row hx ho) (fun j hj => Below.heap_setCell _ _ _ _ (by rw [show j = g2 by simpa [Value.ownBlock, eq_comm] using hj]; exact hgB))
    · refine hfr0.trans (T := [g2, B]) ?_ (fun x hx => ?_)
      · exact (((Fr.set _ _ _ (by simp)).trans (Fr.set (S := [g2, B]) _ _ _ (by simp)) (fun x h => Or.inl h)).trans (Fr.set (S := [g2, B]) _ _ _ (by simp)) (fun x h => Or.inl h)).trans (Fr.set (S := [g2, B]) _ _ _ (by simp)) (fun x h => Or.inl h)
      · simp at hx
        rcases hx with rfl | rfl
        · exact hgm
        · exact Or.inl (by simp)
  · intro R hR2
    have hr1 : (W2.setCell ⟨B, 0, none⟩ (.slice (some ⟨g2, 0, none⟩) (k + 1) cap2)).ownsRow n₀ 26 3 (.slice (some ⟨g2, 0, none⟩) (k + 1) cap2) (k + 1) (xs ++ [.int .i64 0, .string ⟨#[]⟩, .slice none 0 0]) := row_on ho (fun j hj => Below.heap_setCell _ _ _ _ (by rw [show j = g2 by simpa [Value.ownBlock, eq_comm] using hj]; exact hgB))
    refine hR2 _ ⟨g2, cap2, ?_, set3_row hx hr1, ?_, hat2, by simpa [World.setCell] using hlt⟩
    · exact box_on (hB2.set _) (by rw [Below.heap_setCell _ _ _ _ (Ne.symm hgB), Below.heap_setCell _ _ _ _ (Ne.symm hgB), Below.heap_setCell _ _ _ _ (Ne.symm hgB)])
    · refine hfr0.trans (T := [g2, B]) ?_ (fun x hx => ?_)
      · exact (((Fr.set _ _ _ (by simp)).trans (Fr.set (S := [g2, B]) _ _ _ (by simp)) (fun x h => Or.inl h)).trans (Fr.set (S := [g2, B]) _ _ _ (by simp)) (fun x h => Or.inl h)).trans (Fr.set (S := [g2, B]) _ _ _ (by simp)) (fun x h => Or.inl h)
      · simp at hx
        rcases hx with rfl | rfl
        · exact hgm
        · exact Or.inl (by simp)

set_option maxRecDepth 100000 in
set_option maxHeartbeats 4000000 in
theorem push_any {R : World → Prop} (p : String) (ds : List Deferred) (n₀ B pb k co q c : Nat) (AO A : Option Addr) (K0 : Int) (S0 : ByteArray) (xs : List Value) (W : World) (v0 v1 v2 v3 v5 v6 v8 v9 v10 v11 v12 v13 v14 v15 v16 v17 v18 v19 v20 v21 v22 v23 v24 v25 v26 v27 v28 v29 v30 v31 v32 v33 v34 v35 v36 v37 v38 v39 v40 v41 v42 v43 : Value)
    (hB : Boxed W B 24 (.slice AO k co)) (hR : W.ownsRow n₀ 26 3 (.slice AO k co) k xs) (hBW : B ≠ pb ∧ Value.ownBlock (.slice AO k co) ≠ some pb) (hP : W.heap[pb]? = some (.cells #[.int .i64 K0, .string S0, .slice A q c] 26 (0, 0)))
    (hn : n₀ ≤ W.heap.size) (hk : k ≤ 1099511627776) (hRR : ∀ X, PushEnd n₀ B k (.slice AO k co) xs [.int .i64 K0, .string S0, .slice A q c] W X → R X) :
    wpAny Try.prog .any (#[{ dst := some 38, op := Op.load 24 (Operand.tmp 4), type := 24, pos := p, after := #[], guard := none },
    { dst := some 39, op := Op.load 26 (Operand.tmp 7), type := 26, pos := p, after := #[], guard := none },
    { dst := some 40, op := Op.call { callee := Callee.builtin Builtin.len, args := #[Operand.tmp 38], argTypes := #[24] }, type := 3, pos := p, after := #[{ on := 0, ground := Ground.data }], guard := none },
    { dst := some 41, op := Op.buildSlice 24 1 #[(0, Operand.const (Value.agg #[Value.int IntKind.i64 0, Value.string ⟨#[]⟩, Value.slice none 0 0]))], type := 24, pos := p, after := #[], guard := none },
    { dst := some 42, op := Op.call { callee := Callee.builtin Builtin.append, args := #[Operand.tmp 38, Operand.tmp 41], argTypes := #[24, 24] }, type := 24, pos := p, after := #[{ on := 0, ground := Ground.data }, { on := 3, ground := Ground.data }, { on := 0, ground := Ground.phase }, { on := 1, ground := Ground.phase }, { on := 2, ground := Ground.phase }, { on := 3, ground := Ground.phase }], guard := none },
    { dst := some 43, op := Op.indexAddr 24 (Operand.tmp 42) (Operand.tmp 40), type := 0, pos := p, after := #[{ on := 4, ground := Ground.data }, { on := 2, ground := Ground.data }, { on := 0, ground := Ground.phase }, { on := 1, ground := Ground.phase }, { on := 2, ground := Ground.phase }, { on := 3, ground := Ground.phase }, { on := 4, ground := Ground.phase }, { on := 7, ground := Ground.gcOnly Departure.appendInPlace }], guard := none },
    { dst := none, op := Op.store 26 (Operand.tmp 43) (Operand.tmp 39), type := 0, pos := p, after := #[{ on := 5, ground := Ground.data }, { on := 1, ground := Ground.data }, { on := 4, ground := Ground.chain }, { on := 0, ground := Ground.phase }, { on := 1, ground := Ground.phase }, { on := 2, ground := Ground.phase }, { on := 3, ground := Ground.phase }, { on := 4, ground := Ground.phase }, { on := 7, ground := Ground.gcOnly Departure.appendInPlace }], guard := none },
    { dst := none, op := Op.store 24 (Operand.tmp 4) (Operand.tmp 42), type := 0, pos := p, after := #[{ on := 4, ground := Ground.data }, { on := 4, ground := Ground.chain }, { on := 6, ground := Ground.textOnly Departure.appendInPlace }, { on := 0, ground := Ground.phase }, { on := 1, ground := Ground.phase }, { on := 2, ground := Ground.phase }, { on := 3, ground := Ground.phase }, { on := 4, ground := Ground.phase }, { on := 5, ground := Ground.textOnly Departure.appendInPlace }, { on := 6, ground := Ground.textOnly Departure.appendInPlace }], guard := none }] : Array Oper) (onlyN R) 8 (Array.replicate 8 false) { tmps := #[v0, v1, v2, v3, .pointer (some ⟨B, 0, none⟩), v5, v6, .pointer (some ⟨pb, 0, none⟩), v8, v9, v10, v11, v12, v13, v14, v15, v16, v17, v18, v19, v20, v21, v22, v23, v24, v25, v26, v27, v28, v29, v30, v31, v32, v33, v34, v35, v36, v37, v38, v39, v40, v41, v42, v43], defers := ds } W.drew := by
  obtain ⟨i0, hi, hz0, hz1, hz2⟩ := info_parts Try.infoEx
  have HI := Lib.hid (And.intro hi (And.intro hz0 (And.intro hz1 hz2)))
  clear hi hz0 hz1 hz2
  have hbc : W.cell? ⟨B, 0, none⟩ = some (.slice AO k co) := hB.cell
  have hbl : B < W.heap.size := hB.lt
  have hpl : pb < W.heap.size := (Array.getElem?_eq_some_iff.1 hP).1
  have hP1 : (W.drew.alloc (.cells #[.int .i64 0, .string ⟨#[]⟩, .slice none 0 0] 26)).heap[pb]? = some (.cells #[.int .i64 K0, .string S0, .slice A q c] 26 (0, 0)) := (Below.heap_alloc W.drew _ pb hpl).trans hP
  have HS0 := Lib.hid (show W.drew.cell? ⟨pb, 0, none⟩ = some (.int .i64 K0) ∧ W.drew.cell? ⟨pb, 1, none⟩ = some (.string S0) ∧ W.drew.cell? ⟨pb, 2, none⟩ = some (.slice A q c) from by
    have e : W.drew.heap[pb]? = some (.cells #[.int .i64 K0, .string S0, .slice A q c] 26 (0, 0)) := hP
    simp [World.cell?, e])
  have HS1 := Lib.hid (show (W.drew.alloc (.cells #[.int .i64 0, .string ⟨#[]⟩, .slice none 0 0] 26)).cell? ⟨pb, 0, none⟩ = some (.int .i64 K0) ∧ (W.drew.alloc (.cells #[.int .i64 0, .string ⟨#[]⟩, .slice none 0 0] 26)).cell? ⟨pb, 1, none⟩ = some (.string S0) ∧ (W.drew.alloc (.cells #[.int .i64 0, .string ⟨#[]⟩, .slice none 0 0] 26)).cell? ⟨pb, 2, none⟩ = some (.slice A q c) from by
    simp only [World.cell?, hP1]
    simp)
  have HO1 := Lib.hid (show (W.drew.alloc (.cells #[.int .i64 0, .string ⟨#[]⟩, .slice none 0 0] 26)).ownsRow n₀ 26 3 (.slice AO k co) k xs from World.ownsRow.alloc (w := W.drew) hR _)
  have HB := Lib.hid hB
  have HR := Lib.hid hR
  have HBW := Lib.hid hBW
  have HPB := Lib.hid hP
  have HRR := Lib.hid hRR
  have CM := Lib.hid (show k + 1 ≤ maxLen by unfold maxLen; omega)
  have CB := Lib.hid (show (k + 1) * 48 ≤ 140737488355328 by omega)
  have CS := Lib.hid (show n₀ ≤ (W.drew.alloc (.cells #[.int .i64 0, .string ⟨#[]⟩, .slice none 0 0] 26)).heap.size by simp; omega)
  have hk0 : (0 : Int) ≤ (k : Int) := by omega
  have hk1 : (k : Int) < (k : Int) + 1 := by omega
  have hk2 : (k : Int) ≤ 1099511627776 := by omega
  clear hB hR hBW hP hRR hP1 hn
  refine wpAny_of_held (S := (fun X => X.cell? ⟨pb, 0, none⟩ = some (.int .i64 K0) ∧ X.cell? ⟨pb, 1, none⟩ = some (.string S0) ∧ X.cell? ⟨pb, 2, none⟩ = some (.slice A q c))) _ _ _ _ ?_
  have hHeld := HS0.out
  refine wpAnyH_take (i := 1) (oi := ({ dst := some 39, op := Op.load 26 (Operand.tmp 7), type := 26, pos := p, after := #[], guard := none } : Oper)) (v := .agg #[.int .i64 K0, .string S0, .slice A q c]) rfl (by kernel_rfl) (by kernel_rfl) (by kernel_rfl) (fun _ _ _ h => h) (Or.inl ⟨by rfl, fun w hSw => ?_⟩) hHeld ?_
  · (try dsimp only at hSw)
    go_simp
  try simp only [Act.put, List.setIfInBounds_toArray, List.set_cons_zero, List.set_cons_succ]
  refine wpAnyH_ready (rs := [0, 3]) (by kernel_rfl) (by simp) ?_
  refine AllReadyH.cons (o := ({ dst := some 38, op := Op.load 24 (Operand.tmp 4), type := 24, pos := p, after := #[], guard := none } : Oper)) rfl (fun K hK => ?_) ?_
  · go_simp
    refine hK.out _ _ HS0.out (fun hHeld => ?_)
    clear hK K
    try simp only [Act.put, List.setIfInBounds_toArray, List.set_cons_zero, List.set_cons_succ]
    refine wpAnyH_take (i := 2) (oi := ({ dst := some 40, op := Op.call { callee := Callee.builtin Builtin.len, args := #[Operand.tmp 38], argTypes := #[24] }, type := 3, pos := p, after := #[{ on := 0, ground := Ground.data }], guard := none } : Oper)) (v := .int .i64 (k : Int)) rfl (by kernel_rfl) (by kernel_rfl) (by kernel_rfl) (fun _ _ _ h => h) (Or.inl ⟨by rfl, fun w hSw => ?_⟩) hHeld ?_
    · (try dsimp only at hSw)
      go_simp
    try simp only [Act.put, List.setIfInBounds_toArray, List.set_cons_zero, List.set_cons_succ]
    refine wpAnyH_ready (rs := [3]) (by kernel_rfl) (by simp) ?_
    refine AllReadyH.cons (o := ({ dst := some 41, op := Op.buildSlice 24 1 #[(0, Operand.const (Value.agg #[Value.int IntKind.i64 0, Value.string ⟨#[]⟩, Value.slice none 0 0]))], type := 24, pos := p, after := #[], guard := none } : Oper)) rfl (fun K hK => ?_) AllReadyH.nil
    go_simp
    refine hK.out _ _ HS1.out (fun hHeld => ?_)
    clear hK K
    try simp only [Act.put, List.setIfInBounds_toArray, List.set_cons_zero, List.set_cons_succ]
    refine wpAnyH_ready (rs := [4]) (by kernel_rfl) (by simp) ?_
    refine AllReadyH.cons (o := ({ dst := some 42, op := Op.call { callee := Callee.builtin Builtin.append, args := #[Operand.tmp 38, Operand.tmp 41], argTypes := #[24, 24] }, type := 24, pos := p, after := #[{ on := 0, ground := Ground.data }, { on := 3, ground := Ground.data }, { on := 0, ground := Ground.phase }, { on := 1, ground := Ground.phase }, { on := 2, ground := Ground.phase }, { on := 3, ground := Ground.phase }], guard := none } : Oper)) rfl (fun K hK => ?_) AllReadyH.nil
    refine step_append_lies _ (by rfl) _ _ _ (by rfl) n₀ 26 i0 _ 3 48 Try.underlying24 HI.out.1 HI.out.2.1 HI.out.2.2.1 HI.out.2.2.2 rfl (by decide) (.slice AO k co) k xs (by rfl) HO1.out ⟨W.heap.size, 0, none⟩ 1 1 [.int .i64 0, .string ⟨#[]⟩, .slice none 0 0] (by rfl) (by rfl) (World.news_of_block (heap_alloc_new W.drew _)) zero_one (by decide) CM.out CB.out CS.out (W.heap.size + 1) (by simp) ?_
    intro g2 cap2 W2 ho2 hg2 hat2 hlt2
    have HP := Lib.hid (push_mid HB.out HR.out HBW.out HPB.out hg2 ho2 hat2 hlt2)
    clear ho2 hg2 hat2 hlt2
    obtain ⟨hb2, hbf2, hbl2, hgb2, hbg2, z0, z1, z2, f0, f1, f2, p0, p1, p2, hgp2, hpg2, hbp2⟩ := HP.out.1
    refine hK.out _ _ ⟨p0, p1, p2⟩ (fun hHeld => ?_)
    clear hK K
    try simp only [Act.put, List.setIfInBounds_toArray, List.set_cons_zero, List.set_cons_succ]
    refine wpAnyH_take (i := 5) (oi := ({ dst := some 43, op := Op.indexAddr 24 (Operand.tmp 42) (Operand.tmp 40), type := 0, pos := p, after := #[{ on := 4, ground := Ground.data }, { on := 2, ground := Ground.data }, { on := 0, ground := Ground.phase }, { on := 1, ground := Ground.phase }, { on := 2, ground := Ground.phase }, { on := 3, ground := Ground.phase }, { on := 4, ground := Ground.phase }, { on := 7, ground := Ground.gcOnly Departure.appendInPlace }], guard := none } : Oper)) (v := .pointer (some ⟨g2, k * 3, none⟩)) rfl (by kernel_rfl) (by kernel_rfl) (by kernel_rfl) (fun _ _ _ h => h) (Or.inl ⟨by rfl, fun w hSw => ?_⟩) hHeld ?_
    · (try dsimp only at hSw)
      go_simp
    try simp only [Act.put, List.setIfInBounds_toArray, List.set_cons_zero, List.set_cons_succ]
    refine wpAnyH_ready (rs := [6, 7]) (by kernel_rfl) (by simp) ?_
    refine AllReadyH.cons (o := ({ dst := none, op := Op.store 26 (Operand.tmp 43) (Operand.tmp 39), type := 0, pos := p, after := #[{ on := 5, ground := Ground.data }, { on := 1, ground := Ground.data }, { on := 4, ground := Ground.chain }, { on := 0, ground := Ground.phase }, { on := 1, ground := Ground.phase }, { on := 2, ground := Ground.phase }, { on := 3, ground := Ground.phase }, { on := 4, ground := Ground.phase }, { on := 7, ground := Ground.gcOnly Departure.appendInPlace }], guard := none } : Oper)) rfl (fun K hK => ?_) ?_
    · go_simp
      refine hK.out _ _ (by simp only [keepS, hpg2, ne_eq, not_false_eq_true, p0, p1, p2, and_self]) (fun hHeld => ?_)
      clear hK K
      try simp only [Act.put, List.setIfInBounds_toArray, List.set_cons_zero, List.set_cons_succ]
      refine wpAnyH_ready (rs := [7]) (by kernel_rfl) (by simp) ?_
      refine AllReadyH.cons (o := ({ dst := none, op := Op.store 24 (Operand.tmp 4) (Operand.tmp 42), type := 0, pos := p, after := #[{ on := 4, ground := Ground.data }, { on := 4, ground := Ground.chain }, { on := 6, ground := Ground.textOnly Departure.appendInPlace }, { on := 0, ground := Ground.phase }, { on := 1, ground := Ground.phase }, { on := 2, ground := Ground.phase }, { on := 3, ground := Ground.phase }, { on := 4, ground := Ground.phase }, { on := 5, ground := Ground.textOnly Departure.appendInPlace }, { on := 6, ground := Ground.textOnly Departure.appendInPlace }], guard := none } : Oper)) rfl (fun K hK => ?_) AllReadyH.nil
      go_simp
      refine hK.out _ _ (by simp only [keepS, hpg2, hbp2, ne_eq, not_false_eq_true, p0, p1, p2, and_self]) (fun hHeld => ?_)
      clear hK K
      refine wpAnyH_done (by kernel_rfl) ?_ _
      exact HP.out.2.1 R HRR.out
    · refine AllReadyH.cons (o := ({ dst := none, op := Op.store 24 (Operand.tmp 4) (Operand.tmp 42), type := 0, pos := p, after := #[{ on := 4, ground := Ground.data }, { on := 4, ground := Ground.chain }, { on := 6, ground := Ground.textOnly Departure.appendInPlace }, { on := 0, ground := Ground.phase }, { on := 1, ground := Ground.phase }, { on := 2, ground := Ground.phase }, { on := 3, ground := Ground.phase }, { on := 4, ground := Ground.phase }, { on := 5, ground := Ground.textOnly Departure.appendInPlace }, { on := 6, ground := Ground.textOnly Departure.appendInPlace }], guard := none } : Oper)) rfl (fun K hK => ?_) AllReadyH.nil
      go_simp
      refine hK.out _ _ (by simp only [keepS, hbp2, ne_eq, not_false_eq_true, p0, p1, p2, and_self]) (fun hHeld => ?_)
      clear hK K
      try simp only [Act.put, List.setIfInBounds_toArray, List.set_cons_zero, List.set_cons_succ]
      refine wpAnyH_ready (rs := [6]) (by kernel_rfl) (by simp) ?_
      refine AllReadyH.cons (o := ({ dst := none, op := Op.store 26 (Operand.tmp 43) (Operand.tmp 39), type := 0, pos := p, after := #[{ on := 5, ground := Ground.data }, { on := 1, ground := Ground.data }, { on := 4, ground := Ground.chain }, { on := 0, ground := Ground.phase }, { on := 1, ground := Ground.phase }, { on := 2, ground := Ground.phase }, { on := 3, ground := Ground.phase }, { on := 4, ground := Ground.phase }, { on := 7, ground := Ground.gcOnly Departure.appendInPlace }], guard := none } : Oper)) rfl (fun K hK => ?_) AllReadyH.nil
      go_simp
      refine hK.out _ _ (by simp only [keepS, hpg2, hbp2, ne_eq, not_false_eq_true, p0, p1, p2, and_self]) (fun hHeld => ?_)
      clear hK K
      refine wpAnyH_done (by kernel_rfl) ?_ _
      exact HP.out.2.2 R HRR.out
  · refine AllReadyH.cons (o := ({ dst := some 41, op := Op.buildSlice 24 1 #[(0, Operand.const (Value.agg #[Value.int IntKind.i64 0, Value.string ⟨#[]⟩, Value.slice none 0 0]))], type := 24, pos := p, after := #[], guard := none } : Oper)) rfl (fun K hK => ?_) AllReadyH.nil
    go_simp
    refine hK.out _ _ HS1.out (fun hHeld => ?_)
    clear hK K
    try simp only [Act.put, List.setIfInBounds_toArray, List.set_cons_zero, List.set_cons_succ]
    refine wpAnyH_ready (rs := [0]) (by kernel_rfl) (by simp) ?_
    refine AllReadyH.cons (o := ({ dst := some 38, op := Op.load 24 (Operand.tmp 4), type := 24, pos := p, after := #[], guard := none } : Oper)) rfl (fun K hK => ?_) AllReadyH.nil
    go_simp
    refine hK.out _ _ HS1.out (fun hHeld => ?_)
    clear hK K
    try simp only [Act.put, List.setIfInBounds_toArray, List.set_cons_zero, List.set_cons_succ]
    refine wpAnyH_take (i := 2) (oi := ({ dst := some 40, op := Op.call { callee := Callee.builtin Builtin.len, args := #[Operand.tmp 38], argTypes := #[24] }, type := 3, pos := p, after := #[{ on := 0, ground := Ground.data }], guard := none } : Oper)) (v := .int .i64 (k : Int)) rfl (by kernel_rfl) (by kernel_rfl) (by kernel_rfl) (fun _ _ _ h => h) (Or.inl ⟨by rfl, fun w hSw => ?_⟩) hHeld ?_
    · (try dsimp only at hSw)
      go_simp
    try simp only [Act.put, List.setIfInBounds_toArray, List.set_cons_zero, List.set_cons_succ]
    refine wpAnyH_ready (rs := [4]) (by kernel_rfl) (by simp) ?_
    refine AllReadyH.cons (o := ({ dst := some 42, op := Op.call { callee := Callee.builtin Builtin.append, args := #[Operand.tmp 38, Operand.tmp 41], argTypes := #[24, 24] }, type := 24, pos := p, after := #[{ on := 0, ground := Ground.data }, { on := 3, ground := Ground.data }, { on := 0, ground := Ground.phase }, { on := 1, ground := Ground.phase }, { on := 2, ground := Ground.phase }, { on := 3, ground := Ground.phase }], guard := none } : Oper)) rfl (fun K hK => ?_) AllReadyH.nil
    refine step_append_lies _ (by rfl) _ _ _ (by rfl) n₀ 26 i0 _ 3 48 Try.underlying24 HI.out.1 HI.out.2.1 HI.out.2.2.1 HI.out.2.2.2 rfl (by decide) (.slice AO k co) k xs (by rfl) HO1.out ⟨W.heap.size, 0, none⟩ 1 1 [.int .i64 0, .string ⟨#[]⟩, .slice none 0 0] (by rfl) (by rfl) (World.news_of_block (heap_alloc_new W.drew _)) zero_one (by decide) CM.out CB.out CS.out (W.heap.size + 1) (by simp) ?_
    intro g2 cap2 W2 ho2 hg2 hat2 hlt2
    have HP := Lib.hid (push_mid HB.out HR.out HBW.out HPB.out hg2 ho2 hat2 hlt2)
    clear ho2 hg2 hat2 hlt2
    obtain ⟨hb2, hbf2, hbl2, hgb2, hbg2, z0, z1, z2, f0, f1, f2, p0, p1, p2, hgp2, hpg2, hbp2⟩ := HP.out.1
    refine hK.out _ _ ⟨p0, p1, p2⟩ (fun hHeld => ?_)
    clear hK K
    try simp only [Act.put, List.setIfInBounds_toArray, List.set_cons_zero, List.set_cons_succ]
    refine wpAnyH_take (i := 5) (oi := ({ dst := some 43, op := Op.indexAddr 24 (Operand.tmp 42) (Operand.tmp 40), type := 0, pos := p, after := #[{ on := 4, ground := Ground.data }, { on := 2, ground := Ground.data }, { on := 0, ground := Ground.phase }, { on := 1, ground := Ground.phase }, { on := 2, ground := Ground.phase }, { on := 3, ground := Ground.phase }, { on := 4, ground := Ground.phase }, { on := 7, ground := Ground.gcOnly Departure.appendInPlace }], guard := none } : Oper)) (v := .pointer (some ⟨g2, k * 3, none⟩)) rfl (by kernel_rfl) (by kernel_rfl) (by kernel_rfl) (fun _ _ _ h => h) (Or.inl ⟨by rfl, fun w hSw => ?_⟩) hHeld ?_
    · (try dsimp only at hSw)
      go_simp
    try simp only [Act.put, List.setIfInBounds_toArray, List.set_cons_zero, List.set_cons_succ]
    refine wpAnyH_ready (rs := [6, 7]) (by kernel_rfl) (by simp) ?_
    refine AllReadyH.cons (o := ({ dst := none, op := Op.store 26 (Operand.tmp 43) (Operand.tmp 39), type := 0, pos := p, after := #[{ on := 5, ground := Ground.data }, { on := 1, ground := Ground.data }, { on := 4, ground := Ground.chain }, { on := 0, ground := Ground.phase }, { on := 1, ground := Ground.phase }, { on := 2, ground := Ground.phase }, { on := 3, ground := Ground.phase }, { on := 4, ground := Ground.phase }, { on := 7, ground := Ground.gcOnly Departure.appendInPlace }], guard := none } : Oper)) rfl (fun K hK => ?_) ?_
    · go_simp
      refine hK.out _ _ (by simp only [keepS, hpg2, ne_eq, not_false_eq_true, p0, p1, p2, and_self]) (fun hHeld => ?_)
      clear hK K
      try simp only [Act.put, List.setIfInBounds_toArray, List.set_cons_zero, List.set_cons_succ]
      refine wpAnyH_ready (rs := [7]) (by kernel_rfl) (by simp) ?_
      refine AllReadyH.cons (o := ({ dst := none, op := Op.store 24 (Operand.tmp 4) (Operand.tmp 42), type := 0, pos := p, after := #[{ on := 4, ground := Ground.data }, { on := 4, ground := Ground.chain }, { on := 6, ground := Ground.textOnly Departure.appendInPlace }, { on := 0, ground := Ground.phase }, { on := 1, ground := Ground.phase }, { on := 2, ground := Ground.phase }, { on := 3, ground := Ground.phase }, { on := 4, ground := Ground.phase }, { on := 5, ground := Ground.textOnly Departure.appendInPlace }, { on := 6, ground := Ground.textOnly Departure.appendInPlace }], guard := none } : Oper)) rfl (fun K hK => ?_) AllReadyH.nil
      go_simp
      refine hK.out _ _ (by simp only [keepS, hpg2, hbp2, ne_eq, not_false_eq_true, p0, p1, p2, and_self]) (fun hHeld => ?_)
      clear hK K
      refine wpAnyH_done (by kernel_rfl) ?_ _
      exact HP.out.2.1 R HRR.out
    · refine AllReadyH.cons (o := ({ dst := none, op := Op.store 24 (Operand.tmp 4) (Operand.tmp 42), type := 0, pos := p, after := #[{ on := 4, ground := Ground.data }, { on := 4, ground := Ground.chain }, { on := 6, ground := Ground.textOnly Departure.appendInPlace }, { on := 0, ground := Ground.phase }, { on := 1, ground := Ground.phase }, { on := 2, ground := Ground.phase }, { on := 3, ground := Ground.phase }, { on := 4, ground := Ground.phase }, { on := 5, ground := Ground.textOnly Departure.appendInPlace }, { on := 6, ground := Ground.textOnly Departure.appendInPlace }], guard := none } : Oper)) rfl (fun K hK => ?_) AllReadyH.nil
      go_simp
      refine hK.out _ _ (by simp only [keepS, hbp2, ne_eq, not_false_eq_true, p0, p1, p2, and_self]) (fun hHeld => ?_)
      clear hK K
      try simp only [Act.put, List.setIfInBounds_toArray, List.set_cons_zero, List.set_cons_succ]
      refine wpAnyH_ready (rs := [6]) (by kernel_rfl) (by simp) ?_
      refine AllReadyH.cons (o := ({ dst := none, op := Op.store 26 (Operand.tmp 43) (Operand.tmp 39), type := 0, pos := p, after := #[{ on := 5, ground := Ground.data }, { on := 1, ground := Ground.data }, { on := 4, ground := Ground.chain }, { on := 0, ground := Ground.phase }, { on := 1, ground := Ground.phase }, { on := 2, ground := Ground.phase }, { on := 3, ground := Ground.phase }, { on := 4, ground := Ground.phase }, { on := 7, ground := Ground.gcOnly Departure.appendInPlace }], guard := none } : Oper)) rfl (fun K hK => ?_) AllReadyH.nil
      go_simp
      refine hK.out _ _ (by simp only [keepS, hpg2, hbp2, ne_eq, not_false_eq_true, p0, p1, p2, and_self]) (fun hHeld => ?_)
      clear hK K
      refine wpAnyH_done (by kernel_rfl) ?_ _
      exact HP.out.2.2 R HRR.out
end Go.Proofs.Ytbnghkgfbjipdaa

namespace Go.Proofs.Ytbnghkgfbjipdaa
open Go Go.RowKit Go.Shelf
attribute [local go_sem] Oper.semAt_some

mutual
/-- The nodes, each before its arguments. -/
def exNodes : Ex → List Ex
  | .mk k s l => .mk k s l :: exNodesL l
def exNodesL : List Ex → List Ex
  | [] => []
  | e :: r => exNodes e ++ exNodesL r
end
def It.cells {wo : World} (x : It wo) : List Value := [.int .i64 x.ex.kind, .string x.ex.name, x.1.2.2.1]
def flat {wo : World} (st : List (It wo)) : List Value := st.flatMap It.cells
/-- What is still to come when the list holds st. -/
def due {wo : World} (st : List (It wo)) : List Ex := st.reverse.flatMap (fun x => exNodes x.ex)

theorem flat_len {wo : World} (st : List (It wo)) : (flat st).length = st.length * 3 := by
  induction st with
  | nil => rfl
  | cons x r ih => rw [flat, List.flatMap_cons, List.length_append, ← flat, ih]; simp [It.cells]; omega

/-- The list under way, between two rounds of the outer loop. Bg: the box of the function that tells which arguments are gone into; M0: the blocks that are the iterator's from the beginning on. -/
structure Nd (wo : World) (n1 N Bg : Nat) (gv : Value) (M0 : List Nat) (Inv : List (It wo) → List (It wo) → Prop) (B : Nat) (pre : List (It wo)) (st : List (It wo)) (lv : Value) (M : List Nat) (W : World) : Prop where
  inv : Inv pre st
  bnd : pre.length + (due st).length ≤ N
  box : Boxed W B 24 lv
  row : W.ownsRow n1 26 3 lv st.length (flat st)
  inB : B ∈ M
  inR : ∀ k, lv.ownBlock = some k → k ∈ M
  lt : ∀ k ∈ M, k < W.heap.size
  low : Below wo.heap.size wo W
  Bn : n1 ≤ B
  Mn : ∀ k ∈ M, wo.heap.size ≤ k
  own : ∀ k ∈ M0, k ∈ M
  gbox : Boxed W Bg 159 gv

theorem nodes_size (n : Nat) : (∀ e : Ex, exSize e ≤ n → (exNodes e).length = exSize e) ∧ (∀ l : List Ex, exSizes l ≤ n → (exNodesL l).length = exSizes l) := by
  induction n with
  | zero =>
    refine ⟨fun e h => by have := exSize_pos e; omega, fun l h => ?_⟩
    cases l with
    | nil => simp [exNodesL, exSizes]
    | cons e r => rw [exSizes] at h; have := exSize_pos e; omega
  | succ n ih =>
    have hE : ∀ e : Ex, exSize e ≤ n + 1 → (exNodes e).length = exSize e := by
      intro e h
      cases e with
      | mk k s l =>
        rw [exSize] at h ⊢
        rw [exNodes, List.length_cons, ih.2 l (by omega)]
    refine ⟨hE, ?_⟩
    intro l
    induction l with
    | nil => intro _; simp [exNodesL, exSizes]
    | cons e r ihl =>
      intro h
      rw [exSizes] at h ⊢
      rw [exNodesL, List.length_append, hE e (by omega), ihl (by omega)]
theorem nodes_len (e : Ex) : (exNodes e).length = exSize e := (nodes_size _).1 e (Nat.le_refl _)
theorem nodes_cons (e : Ex) : exNodes e = e :: exNodesL e.args := by cases e; rw [exNodes]; rfl
theorem nodesL_flat : ∀ l : List Ex, exNodesL l = l.flatMap exNodes := by
  intro l
  induction l with
  | nil => rfl
  | cons e r ih => rw [exNodesL, ih, List.flatMap_cons]
theorem due_app {wo : World} (a b : List (It wo)) : due (a ++ b) = due b ++ due a := by simp [due]
theorem due_one {wo : World} (st : List (It wo)) (x : It wo) : due (st ++ [x]) = x.ex :: (exNodesL x.ex.args ++ due st) := by
  rw [due_app, show due [x] = exNodes x.ex by simp [due], nodes_cons]; rfl
theorem due_kids {wo : World} (ks : List (It wo)) (l : List Ex) (h : ks.map It.ex = l.reverse) : due ks = exNodesL l := by
  rw [nodesL_flat, due]
  have h2 : ks.reverse.map It.ex = l := by rw [List.map_reverse, h, List.reverse_reverse]
  rw [← h2, List.flatMap_map]
theorem due_len {wo : World} (st : List (It wo)) : st.length ≤ (due st).length := by
  induction st with
  | nil => simp
  | cons x r ih =>
    rw [show x :: r = [x] ++ r by rfl, due_app, List.length_append, List.length_append, show due [x] = exNodes x.ex by simp [due], nodes_len]
    have := exSize_pos x.ex
    simp; omega
theorem last_of {α : Type} (l : List α) : l = [] ∨ ∃ a x, l = a ++ [x] := by
  rcases List.eq_nil_or_concat l with h | ⟨a, x, h⟩
  · exact Or.inl h
  · exact Or.inr ⟨a, x, by rw [h]; simp⟩
theorem It.slice {wo : World} (x : It wo) : ∃ A c, x.1.2.2.1 = .slice A x.ex.args.length c ∧ SlIs wo (.slice A x.ex.args.length c) x.ex.args x.1.2.2.2 ∧ x.ex.args.length ≤ c ∧ c ≤ 9223372036854775807 := by
  obtain ⟨u, e1, hs, hu⟩ := x.2
  simp only [Value.agg.injEq, Array.mk.injEq, List.cons.injEq, and_true, true_and] at e1
  subst e1
  obtain ⟨A, c, e2, h1, h2, -⟩ := id hu
  rw [e2] at hu
  exact ⟨A, c, e2, hu, h1, h2⟩
theorem flat_one {wo : World} (st : List (It wo)) (x : It wo) : flat (st ++ [x]) = flat st ++ x.cells := by simp [flat]

theorem Nd.bound {wo : World} {n1 N Bg : Nat} {gv : Value} {M0 : List Nat} {Inv : List (It wo) → List (It wo) → Prop} {B : Nat} {pre st : List (It wo)} {lv : Value} {M : List Nat} {W : World} (h : Nd wo n1 N Bg gv M0 Inv B pre st lv M W) : pre.length + (due st).length ≤ N ∧ st.length ≤ N := by
  have h1 := h.bnd
  have := due_len st
  omega
/-- The last element of the list, written out. -/
theorem Nd.top {wo : World} {n1 N Bg : Nat} {gv : Value} {M0 : List Nat} {Inv : List (It wo) → List (It wo) → Prop} {B : Nat} {pre st : List (It wo)} {x : It wo} {lv : Value} {M : List Nat} {W : World} (h : Nd wo n1 N Bg gv M0 Inv B pre (st ++ [x]) lv M W) :
    ∃ g cap, lv = .slice (some ⟨g, 0, none⟩) (st.length + 1) cap ∧ g ∈ M ∧ n1 ≤ g ∧ W.cell? ⟨g, st.length * 3, none⟩ = some (.int .i64 x.ex.kind) ∧ W.cell? ⟨g, st.length * 3 + 1, none⟩ = some (.string x.ex.name) ∧ W.cell? ⟨g, st.length * 3 + 2, none⟩ = some x.1.2.2.1 ∧ st.length + 1 ≤ cap ∧
      W.ownsRow n1 26 3 (.slice (some ⟨g, 0, none⟩) st.length cap) st.length (flat st) := by
  have hl : (st ++ [x]).length = st.length + 1 := by simp
  have hr := h.row
  rw [hl, flat_one] at hr
  obtain ⟨g, cap, rfl, h1, h2⟩ := hr.form (by simp)
  have hc : ∀ (j : Nat) (v : Value), x.cells[j]? = some v → W.cell? ⟨g, st.length * 3 + j, none⟩ = some v := by
    intro j v hj
    have hj3 : j < 3 := (List.getElem?_eq_some_iff.1 hj).1
    rw [hr.cellAt (st.length * 3 + j) (by omega), List.getElem?_append_right (by rw [flat_len]; omega), flat_len, Nat.add_sub_cancel_left]
    exact hj
  refine ⟨g, cap, rfl, h.inR g rfl, h1, hc 0 _ rfl, hc 1 _ rfl, hc 2 _ rfl, ?_, ownsRow_pop (flat_len st) hr⟩
  rcases hr.2 with ⟨h0, -⟩ | ⟨g', cap', cur, hv, -, -, hn, -⟩
  · cases h0
  · cases hv; exact hn

def markOf (D : Nat) : Deferred := { target := .collected D, args := #[] }
theorem leave_marks {F : Fence} {n : Nat} {P : Program} {fn : Func} {tmps : Array Value} {R : Ending → World → Prop} (hr : fn.results = #[]) : ∀ (Ds : List Nat) (W : World), Ds.Nodup → (∀ D ∈ Ds, W.heap[D]? = some (.deferred (some []))) → (∀ v W2, Fr Ds W W2 → R (.returned v) W2) → LeavesInM F n P fn tmps R (Ds.map markOf) .returning W := by
  intro Ds
  induction Ds with
  | nil => intro W _ _ h; exact ⟨_, results_none hr _ _ _, h _ W (Fr.refl _ _)⟩
  | cons D r ih =>
    intro W hn hd h
    rw [List.nodup_cons] at hn
    refine ⟨by simp, .inl ⟨D, _, rfl, run_takeDeferred (hd D (by simp)), ?_⟩⟩
    refine ih _ hn.2 (fun E hE => (World.putObj_heap_other (fun e : E = D => hn.1 (by rw [← e]; exact hE))).trans (hd E (by simp [hE]))) (fun v W2 hf => h v W2 ?_)
    exact (Fr.put W D _ (by simp)).trans hf (fun x hx => Or.inl (by simp [hx]))

/-- The marks under way. -/
def Marks (n1 : Nat) (Ds M : List Nat) (W : World) : Prop := Ds.Nodup ∧ ∀ D ∈ Ds, D ∈ M ∧ W.heap[D]? = some (.deferred (some [])) ∧ n1 ≤ D

/-- Between the pop and the push: nb is the box of the element that was taken. -/
structure Md (wo : World) (n1 Bg : Nat) (gv : Value) (M0 : List Nat) (B g cap m nb : Nat) (o : Obj) (st0 : List (It wo)) (M Ds : List Nat) (Wy : World) : Prop where
  lt : ∀ k ∈ nb :: M, k < Wy.heap.size
  box : Boxed Wy B 24 (.slice (some ⟨g, 0, none⟩) m cap)
  row : Wy.ownsRow n1 26 3 (.slice (some ⟨g, 0, none⟩) m cap) m (flat st0)
  nx : Wy.heap[nb]? = some o
  inB : B ∈ M
  inG : g ∈ M
  low : Below wo.heap.size wo Wy
  Bn : n1 ≤ B
  Mn : ∀ k ∈ nb :: M, wo.heap.size ≤ k
  marks : Marks n1 Ds (nb :: M) Wy
  own : ∀ k ∈ M0, k ∈ nb :: M
  gbox : Boxed Wy Bg 159 gv
  gn : n1 ≤ g
  nn : n1 ≤ nb
theorem Nd.pop {wo : World} {n1 N Bg : Nat} {gv : Value} {M0 : List Nat} {Inv : List (It wo) → List (It wo) → Prop} {B : Nat} {pre st st0 : List (It wo)} {lv : Value} {M Ds : List Nat} {wr : World} {g m cap : Nat} (h : Nd wo n1 N Bg gv M0 Inv B pre st lv M wr) (hBg : Bg < n1) (hnw : n1 ≤ wr.heap.size) (hr : wr.ownsRow n1 26 3 (.slice (some ⟨g, 0, none⟩) m cap) m (flat st0)) (hg : g ∈ M) (hgn : n1 ≤ g) (hm : Marks n1 Ds M wr) (o : Obj) :
    Md wo n1 Bg gv M0 B g cap m wr.heap.size o st0 M Ds ((wr.setCell ⟨B, 0, none⟩ (.slice (some ⟨g, 0, none⟩) m cap)).alloc o) ∧ Fr M wr ((wr.setCell ⟨B, 0, none⟩ (.slice (some ⟨g, 0, none⟩) m cap)).alloc o) ∧ ∀ k ∈ wr.heap.size :: M, k ∈ M ∨ wr.heap.size ≤ k := by
  obtain ⟨W1, hW1⟩ : ∃ W1, W1 = wr.setCell ⟨B, 0, none⟩ (.slice (some ⟨g, 0, none⟩) m cap) := ⟨_, rfl⟩
  rw [← hW1]
  have hs1 : W1.heap.size = wr.heap.size := by rw [hW1]; simp [World.setCell]
  have ho1 : ∀ k, k ≠ B → W1.heap[k]? = wr.heap[k]? := fun k hk => by rw [hW1]; exact Below.heap_setCell _ _ _ _ hk
  have hal : ∀ k, k < W1.heap.size → (W1.alloc o).heap[k]? = W1.heap[k]? := fun k hk => Below.heap_alloc W1 o k hk
  have hf1 : Fr M wr W1 := by rw [hW1]; exact Fr.set _ _ _ h.inB
  have hf : Fr M wr (W1.alloc o) := hf1.trans (Fr.alloc (S := []) W1 o) (by simp)
  have hgB : g ≠ B := fun e => Boxed.not_row h.box (by decide) hr (by simp [Value.ownBlock, e])
  have hgl : g < wr.heap.size := h.lt g hg
  have hsz : (W1.alloc o).heap.size = wr.heap.size + 1 := by simp [hs1]
  refine ⟨⟨fun k hk => ?_, ?_, ?_, ?_, h.inB, hg, h.low.trans (hf.below ?_ h.low.size), h.Bn, fun k hk => ?_, ⟨hm.1, fun D hD => ⟨by simp [(hm.2 D hD).1], ?_, (hm.2 D hD).2.2⟩⟩, fun k hk => List.mem_cons_of_mem _ (h.own k hk), ?_, hgn, hnw⟩, hf, fun k hk => ?_⟩
  · rcases List.mem_cons.1 hk with rfl | hk
    · omega
    · have := h.lt k hk; omega
  · refine Boxed.alloc ?_ o
    rw [hW1]; exact h.box.set _
  · refine row_on hr (fun k hk => ?_)
    obtain rfl : g = k := by simpa [Value.ownBlock] using hk
    exact (hal _ (by omega)).trans (ho1 _ hgB)
  · rw [← hs1]; exact World.alloc_heap_new W1 o
  · exact h.Mn
  · rcases List.mem_cons.1 hk with rfl | hk
    · exact h.low.size
    · exact h.Mn k hk
  · obtain ⟨h1, h2, -⟩ := hm.2 D hD
    have hne : D ≠ B := fun e => by
      subst e
      have hb := h.box
      unfold Boxed at hb
      rw [h2] at hb
      cases hb
    exact (hal _ (by have := h.lt D h1; omega)).trans ((ho1 _ hne).trans h2)
  · refine box_on h.gbox ((hal _ (by have := h.gbox.lt; omega)).trans (ho1 _ (by have := h.Bn; omega)))
  · rcases List.mem_cons.1 hk with rfl | hk
    · exact Or.inr (Nat.le_refl _)
    · exact Or.inl hk
theorem Md.keep {wo : World} {n1 Bg : Nat} {gv : Value} {M0 : List Nat} {B g cap m nb : Nat} {o : Obj} {st0 : List (It wo)} {M Ds : List Nat} {Wy W3 : World} (h : Md wo n1 Bg gv M0 B g cap m nb o st0 M Ds Wy) (hBg : Bg ∈ M0) (hk : Kept wo.heap.size (nb :: M) Wy W3) : Md wo n1 Bg gv M0 B g cap m nb o st0 M Ds W3 where
  lt := fun k hm => Nat.lt_of_lt_of_le (h.lt k hm) hk.1.size
  box := box_on h.box (hk.2 _ (by simp [h.inB]))
  row := row_on h.row (fun k e => by
    obtain rfl : g = k := by simpa [Value.ownBlock] using e
    exact hk.2 _ (by simp [h.inG]))
  nx := (hk.2 _ (by simp)).trans h.nx
  inB := h.inB
  inG := h.inG
  low := h.low.trans hk.1
  Bn := h.Bn
  Mn := h.Mn
  marks := ⟨h.marks.1, fun D hD => ⟨(h.marks.2 D hD).1, (hk.2 D (h.marks.2 D hD).1).trans (h.marks.2 D hD).2.1, (h.marks.2 D hD).2.2⟩⟩
  own := h.own
  gbox := box_on h.gbox (hk.2 _ (h.own _ hBg))
  gn := h.gn
  nn := h.nn

/-- The function that was asked has turned blocks of its own alone. -/
theorem Md.asked {wo : World} {n1 Bg : Nat} {gv : Value} {M0 Fg : List Nat} {B g cap m nb : Nat} {o : Obj} {st0 : List (It wo)} {M Ds : List Nat} {Wy W3 : World} (h : Md wo n1 Bg gv M0 B g cap m nb o st0 M Ds Wy) (hf : Fr Fg Wy W3) (hFg : ∀ k ∈ Fg, k < n1 ∧ k ≠ Bg ∧ wo.heap.size ≤ k) : Md wo n1 Bg gv M0 B g cap m nb o st0 M Ds W3 where
  lt := fun k hm => Nat.lt_of_lt_of_le (h.lt k hm) hf.size
  box := box_on h.box (hf.block _ h.box.lt (fun e => by have := (hFg _ e).1; have := h.Bn; omega))
  row := row_on h.row (fun k e => by
    obtain rfl : g = k := by simpa [Value.ownBlock] using e
    exact hf.block _ (h.lt _ (by simp [h.inG])) (fun e => by have := (hFg _ e).1; have := h.gn; omega))
  nx := (hf.block _ (h.lt _ (by simp)) (fun e => by have := (hFg _ e).1; have := h.nn; omega)).trans h.nx
  inB := h.inB
  inG := h.inG
  low := h.low.trans (hf.below (fun k hk => (hFg k hk).2.2) h.low.size)
  Bn := h.Bn
  Mn := h.Mn
  marks := ⟨h.marks.1, fun D hD => ⟨(h.marks.2 D hD).1, (hf.block D (h.lt D (h.marks.2 D hD).1) (fun e => by have := (hFg _ e).1; have := (h.marks.2 D hD).2.2; omega)).trans (h.marks.2 D hD).2.1, (h.marks.2 D hD).2.2⟩⟩
  own := h.own
  gbox := box_on h.gbox (hf.block _ h.gbox.lt (fun e => (hFg _ e).2.1 rfl))
  gn := h.gn
  nn := h.nn

/-- What the list holds while the arguments are pushed. -/
def Pushed (wo : World) (n1 B m : Nat) (st0 ks : List (It wo)) (Fp : List Nat) (W : World) : Prop := ∃ AO co, Fp = B :: (Value.ownBlock (.slice AO (m + ks.length) co)).toList ∧ Boxed W B 24 (.slice AO (m + ks.length) co) ∧ W.ownsRow n1 26 3 (.slice AO (m + ks.length) co) (m + ks.length) (flat (st0 ++ ks))
/-- .. and the next one lies in its box. -/
def Parted (wo : World) (n1 B m : Nat) (st0 : List (It wo)) (tm : Nat → It wo → Array Value) (ks : List (It wo)) (y : It wo) (a : Act) (Fp : List Nat) (W : World) : Prop := ∃ pb AO co, Fp = pb :: B :: (Value.ownBlock (.slice AO (m + ks.length) co)).toList ∧
  W.heap[pb]? = some (.cells #[.int .i64 y.ex.kind, .string y.ex.name, y.1.2.2.1] 26 (0, 0)) ∧ (B ≠ pb ∧ Value.ownBlock (.slice AO (m + ks.length) co) ≠ some pb) ∧ Boxed W B 24 (.slice AO (m + ks.length) co) ∧ W.ownsRow n1 26 3 (.slice AO (m + ks.length) co) (m + ks.length) (flat (st0 ++ ks)) ∧ a = { tmps := tm pb y, defers := [] }
theorem pushed_foot (wo : World) (n1 B m : Nat) (st0 ks : List (It wo)) : Foot (Pushed wo n1 B m st0 ks) := by
  rintro Fp X Y ⟨AO, co, rfl, h1, h2⟩ hs hk
  exact ⟨AO, co, rfl, box_on h1 (hk B (by simp)), row_on h2 (fun k e => hk k (by rw [e]; simp))⟩
theorem parted_foot (wo : World) (n1 B m : Nat) (st0 : List (It wo)) (tm : Nat → It wo → Array Value) (ks : List (It wo)) (y : It wo) (a : Act) : Foot (Parted wo n1 B m st0 tm ks y a) := by
  rintro Fp X Y ⟨pb, AO, co, rfl, h0, hne, h1, h2, h3⟩ hs hk
  exact ⟨pb, AO, co, rfl, (hk pb (by simp)).trans h0, hne, box_on h1 (hk B (by simp)), row_on h2 (fun k e => hk k (by rw [e]; simp)), h3⟩
/-- The step: one more has been pushed. -/
theorem pushed_step {wo : World} {n1 B m : Nat} {st0 ks : List (It wo)} {y : It wo} {AO : Option Addr} {co : Nat} {W X : World} (h : PushEnd n1 B (m + ks.length) (.slice AO (m + ks.length) co) (flat (st0 ++ ks)) y.cells W X) (hB : B < W.heap.size) (pb : Nat) :
    ∃ Fp2, Fr (pb :: B :: (Value.ownBlock (.slice AO (m + ks.length) co)).toList) W X ∧ (∀ k ∈ Fp2, (k ∈ (pb :: B :: (Value.ownBlock (.slice AO (m + ks.length) co)).toList) ∨ W.heap.size ≤ k) ∧ k < X.heap.size) ∧ Pushed wo n1 B m st0 (ks ++ [y]) Fp2 X := by
  obtain ⟨g2, cap2, h1, h2, h3, h4, h5⟩ := h
  have hl2 : m + (ks ++ [y]).length = m + ks.length + 1 := by simp; omega
  have hf : flat (st0 ++ (ks ++ [y])) = flat (st0 ++ ks) ++ y.cells := by rw [← List.append_assoc, flat_one]
  refine ⟨[B, g2], h3.mono (fun x hx => Or.inl (List.mem_cons_of_mem _ hx)), fun k hk => ?_, some ⟨g2, 0, none⟩, cap2, rfl, by rw [hl2]; exact h1, by rw [hl2, hf]; exact h2⟩
  simp at hk
  rcases hk with rfl | rfl
  · exact ⟨Or.inl (by simp), Nat.lt_of_lt_of_le hB h3.size⟩
  · refine ⟨?_, h5⟩
    rcases h4 with h4 | h4
    · exact Or.inl (by simp [h4])
    · exact Or.inr h4

end Go.Proofs.Ytbnghkgfbjipdaa
