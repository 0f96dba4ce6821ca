/- The text of a rule as plain data: what the model's FormatRule gives; and its length. No condition. -/
import Derived.Test.YtmndlhbgacgnlaaGreatOwnText
import Derived.Test.YtmndlhbgacgnlaaGreatRuSz
namespace Go.Proofs.YtmndlhbgacgnlaaGreat
open Go Go.RowKit

/-- A constructor with the variables for its arguments. -/
def patStr (r : Ru) : ByteArray := if r.vars.length = 0 then r.con else r.con ++ parS r.vars
def argTexts (r : Ru) : List ByteArray := (if r.con.size = 0 then [] else [patStr r]) ++ r.params
def eqStr : ByteArray := ⟨#[32, 61, 32]⟩
def ruStr (r : Ru) : ByteArray := ((r.name ++ parS (argTexts r)) ++ eqStr) ++ exFmt r.body
theorem totS_totN (l : List ByteArray) : totS l = totN l := rfl
theorem totS_app (a b : List ByteArray) : totS (a ++ b) = totS a + totS b := by simp [totS]
theorem parS_size (xs : List ByteArray) : (parS xs).size ≤ totS xs + xs.length + 2 := by
  have h7 := join_length (listsS xs) [44]
  rw [lens_lists] at h7
  have h8 : (listsS xs).length = xs.length := by simp [listsS]
  rw [h8] at h7
  show (List.toArray _).size ≤ _
  simp only [List.length_cons, List.length_nil] at h7
  simp
  omega
theorem patStr_size (r : Ru) : (patStr r).size ≤ r.con.size + ssTot r.vars + 2 := by
  unfold patStr
  have h := parS_size r.vars
  unfold ssTot
  rw [totS_totN] at h
  split
  · omega
  · rw [ByteArray.size_append]; omega
theorem argTexts_tot (r : Ru) : totS (argTexts r) + (argTexts r).length ≤ r.con.size + ssTot r.vars + ssTot r.params + 3 := by
  unfold argTexts
  rw [totS_app, List.length_append]
  have h := patStr_size r
  have h2 : totS r.params + r.params.length = ssTot r.params := by unfold ssTot; rw [totS_totN]; omega
  split
  · simp only [List.length_nil, show totS [] = 0 from rfl]; omega
  · simp only [List.length_cons, List.length_nil, show totS [patStr r] = (patStr r).size from by simp [totS]]; omega
theorem argTexts_le {r : Ru} (h : ruTot r ≤ 1048576) : totS (argTexts r) + (argTexts r).length ≤ 2097152 := by
  have := argTexts_tot r; unfold ruTot at h; omega
theorem exFmt_size (e : Ex) : (exFmt e).size ≤ 4000 := by
  unfold exFmt
  cases h : exValid e with
  | false => simp; show (0 : Nat) ≤ _; omega
  | true =>
    have h1 := valid_tot h
    have h2 := (text_len (exSize e)).1 e (Nat.le_refl _)
    rw [if_pos rfl, str_size]; omega
theorem ruStr_size {r : Ru} (h : ruTot r ≤ 1048576) : (ruStr r).size ≤ 4194304 := by
  unfold ruStr
  rw [ByteArray.size_append, ByteArray.size_append, ByteArray.size_append]
  have h1 := parS_size (argTexts r)
  have h2 := argTexts_le h
  have h3 := exFmt_size r.body
  have h4 : eqStr.size = 3 := rfl
  unfold ruTot at h
  omega
end Go.Proofs.YtmndlhbgacgnlaaGreat
