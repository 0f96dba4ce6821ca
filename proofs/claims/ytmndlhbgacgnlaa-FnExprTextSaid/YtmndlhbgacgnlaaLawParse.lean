/- FnExactParseExpr, from a contract of the program's own ParseExpr. Condition: that contract. -/
import Derived.Test.YtmndlhbgacgnlaaSpecParse
import Derived.Test.YtmndlhbgacgnlaaLawSizes
import Derived.Test.YtmndlhbgacgnlaaExHeld
import Derived.Test.YtmndlhbgacgnlaaExEq
namespace Go.Proofs.Ytmndlhbgacgnlaa
open Go Go.RowKit

theorem OnlyIn.fr {a b : World} {bs : List Nat} (h : OnlyIn a b bs) : Fr bs a b := ⟨h.os, h.tape, h.output, h.size, h.block⟩
theorem parse_valid {s : ByteArray} {e : Ex} (h : exParse s = some e) : exValid e = true := by
  cases hv : exValid e
  · unfold exParse at h
    have hf : exFmt e = ⟨#[]⟩ := by unfold exFmt; rw [hv]; rfl
    cases hp : pNode 24 (rest s 0) with
    | none => rw [hp] at h; cases h
    | some x =>
      obtain ⟨e2, r⟩ := x
      rw [hp] at h
      simp only at h
      split at h
      · rename_i hh
        obtain rfl : e2 = e := by simpa using h
        rw [hf] at hh
        rw [← hh.2] at hp
        cases hp
      · cases h
  · rfl
theorem parse_small (s : ByteArray) : exSizes ((exParse s).getD zeroEx).args ≤ 80 := by
  cases h : exParse s with
  | none => simp [zeroEx, Ex.args, exSizes]
  | some e =>
    have hv := parse_valid h
    unfold exValid at hv
    rw [Bool.and_eq_true] at hv
    have h1 := of_decide_eq_true hv.1
    have h2 : exSize e = exSizes e.args + 1 := by cases e; rfl
    show exSizes e.args ≤ 80
    omega

end Go.Proofs.Ytmndlhbgacgnlaa
