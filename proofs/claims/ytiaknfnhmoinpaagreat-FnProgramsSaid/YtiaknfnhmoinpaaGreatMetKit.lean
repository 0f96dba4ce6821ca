/- A part of the proof of the seat's statement: MetKit. Condition: as each says. -/
import Derived.Test.YtiaknfnhmoinpaaGreatRuGet
import Derived.Test.YtiaknfnhmoinpaaGreatRuFits
set_option maxHeartbeats 8000000
namespace Go.Proofs.YtiaknfnhmoinpaaGreat
open Go Go.RowKit
def fit1 (rs : List Ru) (all n : Ex) : Bool := if n.kind = 3 then decide ((n.args.length : Int) = arityR rs n.name) else if n.kind = 2 then decide ((n.args.length : Int) = (if conR n.name rs < 0 then conE n.name all else conR n.name rs)) else true
theorem fit_nodes (rs : List Ru) (all : Ex) (n : Nat) : (∀ e : Ex, exSize e ≤ n → fitE rs all e = (exNodes e).all (fit1 rs all)) ∧ (∀ l : List Ex, exSizes l ≤ n → fitL rs all l = (exNodesL l).all (fit1 rs all)) := by
 induction n with
 | zero =>
  refine ⟨fun e h => by have := exSize_pos e; omega, fun l h => ?_⟩
  cases l with
  | nil => simp [exNodesL, fitL]
  | cons e r => rw [exSizes] at h; have := exSize_pos e; omega
 | succ n ih =>
  have hE : ∀ e : Ex, exSize e ≤ n + 1 → fitE rs all e = (exNodes e).all (fit1 rs all) := by
   intro e h
   cases e with
   | mk k s l =>
    rw [exSize] at h
    rw [exNodes, fitE, ih.2 l (by omega), List.all_cons, Bool.and_comm]
    rfl
  refine ⟨hE, ?_⟩
  intro l
  induction l with
  | nil => intro _; simp [exNodesL, fitL]
  | cons e r ihl =>
   intro h
   rw [exSizes] at h
   rw [exNodesL, fitL, List.all_append, hE e (by omega), ihl (by omega)]
def chkO (len : Nat) : Option Cn → Bool
 | none => true
 | some y => decide (len = y.2)
def chk (rs : List Ru) (seen : List Ex) (n : Ex) : Bool := if n.kind = 3 then decide ((n.args.length : Int) = arityR rs n.name) else if n.kind = 2 then (if 0 ≤ conR n.name rs then decide ((n.args.length : Int) = conR n.name rs) else chkO n.args.length ((seen.filterMap conOf).find? (isC n.name))) else true
def okL (rs : List Ru) : List Ex → List Ex → Bool
 | _, [] => true
 | seen, n :: t => chk rs seen n && okL rs (seen ++ [n]) t
theorem okL_app (rs : List Ru) : ∀ (a b seen : List Ex), okL rs seen (a ++ b) = (okL rs seen a && okL rs (seen ++ a) b) := by
 intro a
 induction a with
 | nil => intro b seen; simp [okL]
 | cons n t ih => intro b seen; rw [List.cons_append, okL, okL, ih, Bool.and_assoc, List.append_assoc]; rfl
theorem okL_snoc (rs : List Ru) (a : List Ex) (n : Ex) : okL rs [] (a ++ [n]) = (okL rs [] a && chk rs a n) := by
 rw [okL_app]; simp [okL]
theorem okL_all (rs : List Ru) (e : Ex) : ∀ (t seen : List Ex), seen ++ t = exNodes e → okL rs seen t = t.all (fit1 rs e) := by
 intro t
 induction t with
 | nil => intro seen _; rfl
 | cons n t ih =>
  intro seen h
  rw [okL, List.all_cons, ih (seen ++ [n]) (by rw [← h]; simp)]
  congr 1
  unfold chk fit1
  by_cases h3 : n.kind = 3
  · rw [if_pos h3, if_pos h3]
  rw [if_neg h3, if_neg h3]
  by_cases h2 : n.kind = 2
  · rw [if_pos h2, if_pos h2]
    by_cases h0 : 0 ≤ conR n.name rs
    · rw [if_pos h0, if_neg (by omega)]
    rw [if_neg h0, if_pos (by omega), (conE_find n.name _).1 e (nR _), bodyOf, ← h, List.filterMap_append, List.find?_append]
    cases hs : (seen.filterMap conOf).find? (isC n.name) with
    | some y =>
     simp [arOf, chkO]
     omega
    | none =>
     have : (List.filterMap conOf (n :: t)).find? (isC n.name) = some (n.name, n.args.length) := by simp [conOf, h2, isC]
     rw [this]
     simp [arOf, chkO]
  rw [if_neg h2, if_neg h2]
theorem fit_ok (rs : List Ru) (e : Ex) : fitE rs e e = okL rs [] (exNodes e) := by
 rw [(fit_nodes rs e _).1 e (nR _), okL_all rs e (exNodes e) [] rfl]
def ownOf (rs : List Ru) (seen : List Ex) : List Cn := (seen.filterMap conOf).filter (fun y => decide (conR y.1 rs < 0))
theorem own_find' (rs : List Ru) (seen : List Ex) (s : ByteArray) (h : conR s rs < 0) : (ownOf rs seen).find? (isC s) = (seen.filterMap conOf).find? (isC s) := by
 unfold ownOf
 rw [List.find?_filter]
 congr 1
 funext y
 by_cases hy : y.1 = s
 · simp [isC, hy, h]
 simp [isC, hy]
end Go.Proofs.YtiaknfnhmoinpaaGreat
