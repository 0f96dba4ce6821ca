/- What is read out of a text is valid, and the text is what it is printed as. No condition. -/
import Derived.Test.YtmndlhbgacgnlaaGramAll
namespace Go.Proofs.Ytmndlhbgacgnlaa
open Go Go.RowKit

/-- What a text stands for, it is the text of. -/
theorem parse_some {s : ByteArray} {e : Ex} (h : exParse s = some e) : exValid e = true ∧ exFmt e = s := by
  have h0 := h
  unfold exParse at h
  split at h
  · cases h
  · split at h
    · rename_i hh
      obtain rfl := Option.some.inj h
      refine ⟨?_, hh.2⟩
      cases hv : exValid _ with
      | true => rfl
      | false =>
        have h1 := parse_none hv
        rw [hh.2, h0] at h1
        cases h1
    · cases h
theorem valid_all {e : Ex} (h : exValid e = true) : exAll e = true ∧ exSize e ≤ 80 := by
  unfold exValid at h
  rw [Bool.and_eq_true, Bool.and_eq_true] at h
  exact ⟨h.2.2, of_decide_eq_true h.1⟩
end Go.Proofs.Ytmndlhbgacgnlaa
