/- Bindings that are applied, as plain data: what stands for a part in a layer, and what is made of it. No condition. -/
import Derived.Test.YtegigjnlecpplaaBi
namespace Go.Proofs.Ytegigjnlecpplaa
open Go Go.RowKit

/-- The first value at a name. -/
def valOf : List Bi → ByteArray → Option Ex
  | [], _ => none
  | b :: r, s => if b.name = s then some b.val else valOf r s
mutual
/-- An expression with its variables replaced. -/
def subE (f : ByteArray → Option Ex) : Ex → Ex
  | .mk k s l => if k = 1 then (f s).getD (.mk k s l) else .mk k s (subEs f l)
def subEs (f : ByteArray → Option Ex) : List Ex → List Ex
  | [] => []
  | e :: r => subE f e :: subEs f r
end
theorem subEs_map (f : ByteArray → Option Ex) : ∀ l : List Ex, subEs f l = l.map (subE f) := by
  intro l
  induction l with
  | nil => rfl
  | cons e r ih => rw [subEs, ih]; rfl
/-- A part in a layer: true where it was inserted. -/
def resE (f : ByteArray → Option Ex) (e : Ex) (b : Bool) : Ex := if b = true then e else subE f e
/-- What stands for a part, and its layer. -/
def replE (f : ByteArray → Option Ex) (e : Ex) (b : Bool) : Ex := if b = true ∨ e.kind ≠ 1 then e else (f e.name).getD e
def replB (e : Ex) (b : Bool) : Bool := if b = true ∨ e.kind ≠ 1 then b else true
theorem res_repl (f : ByteArray → Option Ex) (e : Ex) (b : Bool) : resE f (replE f e b) (replB e b) = resE f e b := by
  cases e with
  | mk k s l =>
    cases b with
    | true => simp [resE, replE, replB]
    | false =>
      by_cases hk : k = 1
      · simp [resE, replE, replB, Ex.kind, Ex.name, hk, subE]
      · simp [resE, replE, replB, Ex.kind, hk]
theorem res_node (f : ByteArray → Option Ex) (e : Ex) (b : Bool) (h : b = true ∨ e.kind ≠ 1) : resE f e b = .mk e.kind e.name (e.args.map (fun x => resE f x b)) := by
  cases e with
  | mk k s l =>
    rcases h with rfl | h
    · simp [resE, Ex.kind, Ex.name, Ex.args]
    · cases b with
      | true => simp [resE, Ex.kind, Ex.name, Ex.args]
      | false =>
        have h : ¬ k = 1 := h
        simp [resE, Ex.kind, Ex.name, Ex.args, subE, h, subEs_map]
theorem repl_done (f : ByteArray → Option Ex) (e : Ex) (b : Bool) : replB e b = true ∨ (replE f e b).kind ≠ 1 := by
  by_cases h : b = true ∨ e.kind ≠ 1
  · simp only [replE, replB, if_pos h]; exact h
  · simp only [replB, if_neg h]; exact Or.inl trivial
/-- The result at a part: its head is that of what stands for it. -/
theorem res_is (f : ByteArray → Option Ex) (e : Ex) (b : Bool) : resE f e b = .mk (replE f e b).kind (replE f e b).name ((replE f e b).args.map (fun x => resE f x (replB e b))) := by
  rw [← res_repl f e b]
  exact res_node f _ _ (repl_done f e b)
theorem repl_len (f : ByteArray → Option Ex) (e : Ex) (b : Bool) : (replE f e b).args.length = (resE f e b).args.length := by
  rw [res_is f e b]; simp [Ex.args]
theorem res_size (f : ByteArray → Option Ex) (e : Ex) (b : Bool) : exSize (resE f e b) = exSizes ((replE f e b).args.map (fun x => resE f x (replB e b))) + 1 := by
  rw [res_is f e b, exSize]
theorem exSizes_append : ∀ (a b : List Ex), exSizes (a ++ b) = exSizes a + exSizes b := by
  intro a
  induction a with
  | nil => intro b; simp [exSizes]
  | cons x r ih => intro b; rw [List.cons_append, exSizes, exSizes, ih]; omega
theorem subE_none : ∀ (n : Nat) (e : Ex), exSize e ≤ n → subE (fun _ => none) e = e := by
  intro n
  induction n with
  | zero => intro e h; have := exSize_pos e; omega
  | succ n ih =>
    intro e h
    cases e with
    | mk k s l =>
      rw [exSize] at h
      by_cases hk : k = 1
      · simp [subE, hk]
      · have hl : ∀ r : List Ex, exSizes r ≤ n → subEs (fun _ => none) r = r := by
          intro r
          induction r with
          | nil => intro _; rfl
          | cons x t iht =>
            intro hr
            rw [exSizes] at hr
            rw [subEs, ih x (by omega), iht (by omega)]
        simp [subE, hk, hl l (by omega)]
theorem sub_nil (e : Ex) : subE (valOf []) e = e := subE_none _ e (Nat.le_refl _)
end Go.Proofs.Ytegigjnlecpplaa
