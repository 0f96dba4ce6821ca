/- Appending a slice of strings in memory, empty or not, to a row of our own: at a step of a region that draws its order. Condition: fewer than 2^40 elements together. -/
import Derived.Test.YtmndlhbgacgnlaaGreatOwnsL
import Derived.Test.YtmndlhbgacgnlaaGreatStrs
import Derived.Deep.AppendLies
import Derived.Deep.RegionLaw
namespace Go.Proofs.YtmndlhbgacgnlaaGreat
open Go Go.RowKit

theorem run_append_none {P : Program} (w : World) (t ty e : TypeId) (i : TypeInfo) (ht : P.underlying t = some (.slice e)) (hi : P.info? e = some i) (A A2 : Option Addr) (n c c2 : Nat) (h : n ≤ c) :
    (Builtin.append_ #[t, t] ty #[.slice A n c, .slice A2 0 c2]).run P w = .ok (.slice A n c) w := by
  cases A2 <;> cases A <;> simp [Builtin.append_, run_underlying ht, sizeOf, typeInfo, hi, Builtin.lenOf, Builtin.firstCells, loadCells, loadCellsFrom, h, storeCells]
theorem run_append_strs (w : World) (ty : TypeId) (base : Nat) (v : Value) (xs : List ByteArray) (hown : OwnsL base w v xs) (A : Option Addr) (ys : List ByteArray) (c : Nat) (hys : Strs w A ys) (h63 : xs.length + ys.length ≤ 1099511627776) (hbase : base ≤ w.heap.size) :
    ∃ v' w', (Builtin.append_ #[29, 29] ty #[v, .slice A ys.length c]).run Tryz.prog w = .ok v' w' ∧ OwnsL base w' v' (xs ++ ys) ∧ w.grownBy w' v.ownBlock := by
  have hx := Tryz.info9u
  cases hi : Tryz.prog.info? 9 with
  | none => rw [hi] at hx; cases hx
  | some i =>
    rw [hi] at hx
    simp only [Option.map_some, Option.some.injEq, Prod.mk.injEq] at hx
    obtain ⟨hz, hsz, hby⟩ := hx
    cases ys with
    | nil =>
      have hle : ∃ A0 c0, v = .slice A0 xs.length c0 ∧ xs.length ≤ c0 := by
        obtain ⟨A0, c0, rfl, -⟩ := hown.shape
        refine ⟨A0, c0, rfl, ?_⟩
        rcases hown.2 with ⟨h0, -⟩ | ⟨g, cap, cur, h0, -, -, hn, -⟩
        · simp only [Value.slice.injEq] at h0; omega
        · simp only [Value.slice.injEq] at h0; omega
      obtain ⟨A0, c0, rfl, hle⟩ := hle
      refine ⟨_, w, run_append_none w _ ty _ i Tryz.underlying29 hi _ _ _ _ _ hle, by rw [List.append_nil]; exact hown, ?_⟩
      exact ⟨rfl, rfl, rfl, Nat.le_refl _, fun _ _ _ => rfl⟩
    | cons y t =>
      obtain ⟨ad, rfl, -, -⟩ := hys.at_ 0 (by simp)
      obtain ⟨g, cap, w', hr, h2, h3, -, -⟩ := run_append_lies (P := Tryz.prog) (w := w) 29 ty base 9 i (.string ⟨#[]⟩) 1 16 Tryz.underlying29 hi hz hsz hby rfl (by decide) v xs.length (xs.map Value.string) hown ad (y :: t).length c ((y :: t).map Value.string) (by simp)
        (fun j u hj => by
          rw [List.getElem?_map] at hj
          cases hjj : (y :: t)[j]? with
          | none => rw [hjj] at hj; cases hj
          | some s =>
            rw [hjj] at hj
            cases hj
            obtain ⟨h1, h2⟩ := List.getElem?_eq_some_iff.1 hjj
            obtain ⟨a, e, h3, -⟩ := hys.at_ j h1
            cases e
            rw [h3, h2])
        (fun u hu => by
          obtain ⟨s, -, rfl⟩ := List.mem_map.1 hu
          rfl) (by simp) (by unfold maxLen; simp at h63 ⊢; omega) (by simp at h63 ⊢; omega) hbase w.heap.size rfl
      refine ⟨_, w', hr, ?_, h3⟩
      unfold OwnsL
      rw [List.length_append, List.map_append]
      exact h2
theorem step_append_strs {ops : Array Oper} {o : Oper} {a : Act} {w : World} {K : Act → World → Prop} {Q : Exit → Act → World → Prop} {E : Prop} (hgd : o.guard = none) (s x : Operand)
    (ho : o.op = .call { callee := .builtin .append, args := #[s, x], argTypes := #[29, 29] })
    (base : Nat) (v : Value) (xs : List ByteArray) (hs : a.eval s = v) (hown : OwnsL base w v xs) (A : Option Addr) (ys : List ByteArray) (c : Nat) (hx : a.eval x = .slice A ys.length c) (hys : Strs w A ys) (h63 : xs.length + ys.length ≤ 1099511627776) (hbase : base ≤ w.heap.size)
    (h : ∀ v' w', OwnsL base w' v' (xs ++ ys) → w.grownBy w' v.ownBlock → K (a.put o.dst v') w') :
    if Region.wanted o (yielded ops a.tmps) = true then Oper.wp Tryz.prog o a w K Q else E := by
  have hw : Region.wanted o (yielded ops a.tmps) = true := by simp [Region.wanted, hgd]
  rw [if_pos hw]
  obtain ⟨v', w', hr, h2, h3⟩ := run_append_strs w o.type base v xs hown A ys c hys h63 hbase
  unfold Oper.wp execOp
  simp only [ho, resolve, invoke, builtin, Sem.run_bind, Sem.run_pure, Result.andThen_ok, List.map_toArray, List.map_cons, List.map_nil, hs, hx, hr]
  exact h v' w' h2 h3
theorem wpList_append_strs {w : World} {ops : Array Oper} {rest : List Oper} {o : Oper} {a : Act} {Q : Exit → Act → World → Prop} (hgd : o.guard = none) (s x : Operand)
    (ho : o.op = .call { callee := .builtin .append, args := #[s, x], argTypes := #[29, 29] })
    (base : Nat) (v : Value) (xs : List ByteArray) (hs : a.eval s = v) (hown : OwnsL base w v xs) (A : Option Addr) (ys : List ByteArray) (c : Nat) (hx : a.eval x = .slice A ys.length c) (hys : Strs w A ys) (h63 : xs.length + ys.length ≤ 1099511627776) (hbase : base ≤ w.heap.size)
    (h : ∀ v' w', OwnsL base w' v' (xs ++ ys) → w.grownBy w' v.ownBlock → wpList Tryz.prog ops Q rest (a.put o.dst v') w') : wpList Tryz.prog ops Q (o :: rest) a w := by
  refine wpList_plain hgd fun K hK => ?_
  obtain ⟨v', w', hr, h2, h3⟩ := run_append_strs w o.type base v xs hown A ys c hys h63 hbase
  unfold Oper.wp execOp
  simp only [ho, resolve, invoke, builtin, Sem.run_bind, Sem.run_pure, Result.andThen_ok, List.map_toArray, List.map_cons, List.map_nil, hs, hx, hr]
  exact hK _ _ (h v' w' h2 h3)
/-- A block of one string. -/
theorem strs_one (W : World) (x : ByteArray) : Strs (W.alloc (.cells #[.string x] 9)) (some ⟨W.heap.size, 0, none⟩) [x] := by
  intro i y hy
  refine ⟨_, rfl, ?_, by simp⟩
  have hi : i = 0 := by
    rcases i with _ | i
    · rfl
    · simp at hy
  subst hi
  simp at hy
  rw [← hy]; simp [go_sem]
end Go.Proofs.YtmndlhbgacgnlaaGreat
