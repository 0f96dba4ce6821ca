/- Plain mathematics of names: what a name is, the index of a text in a list, different texts. No condition. -/
import Derived.Test.YtegigjnlecpplaaNums
namespace Go.Proofs.Ytegigjnlecpplaa
open Go

def tailOk (c : UInt8) : Bool := (decide (97 ≤ c.toNat) && decide (c.toNat ≤ 122)) || (decide (48 ≤ c.toNat) && decide (c.toNat ≤ 57))
/-- The part of a name behind its first letter. -/
def tailL (l : List UInt8) : Bool := l.all tailOk
def nameL (lo hi : Nat) : List UInt8 → Bool
  | [] => false
  | c :: r => decide (r.length ≤ 5) && (decide (lo ≤ c.toNat) && decide (c.toNat ≤ hi)) && tailL r
theorem tail_yes {c : UInt8} (h : (97 ≤ c.toNat ∧ c.toNat ≤ 122) ∨ (48 ≤ c.toNat ∧ c.toNat ≤ 57)) : tailOk c = true := by
  unfold tailOk
  rcases h with ⟨h1, h2⟩ | ⟨h1, h2⟩ <;> simp [h1, h2]
theorem tail_not {c : UInt8} (h : c.toNat < 48 ∨ (57 < c.toNat ∧ c.toNat < 97) ∨ 122 < c.toNat) : tailOk c = false := by
  unfold tailOk
  simp only [Bool.or_eq_false_iff, Bool.and_eq_false_iff, decide_eq_false_iff_not]
  omega
theorem tail_step (l : List UInt8) (k : Nat) (c : UInt8) (h : l.drop k = c :: l.drop (k + 1)) (hc : tailOk c = true) : tailL (l.drop k) = tailL (l.drop (k + 1)) := by
  rw [h]; simp [tailL, hc]
theorem tail_stop (l : List UInt8) (k : Nat) (c : UInt8) (h : l.drop k = c :: l.drop (k + 1)) (hc : tailOk c = false) : tailL (l.drop k) = false := by
  rw [h]; simp [tailL, hc]

/-- The index of the first element that is s, counted from k on; -1 if there is none. -/
def idxFrom (s : ByteArray) : Nat → List ByteArray → Int
  | _, [] => -1
  | k, x :: r => if x = s then k else idxFrom s (k + 1) r
def idx (xs : List ByteArray) (s : ByteArray) : Int := idxFrom s 0 xs
theorem idx_not (s : ByteArray) : ∀ (xs : List ByteArray) (k : Nat), s ∉ xs → idxFrom s k xs = -1 := by
  intro xs
  induction xs with
  | nil => intro k _; rfl
  | cons x r ih =>
    intro k h
    rw [idxFrom, if_neg (fun e => h (by rw [e]; exact List.mem_cons_self)), ih _ (fun e => h (List.mem_cons_of_mem _ e))]
theorem idx_yes (s : ByteArray) : ∀ (xs : List ByteArray) (k : Nat), s ∈ xs → (k : Int) ≤ idxFrom s k xs ∧ idxFrom s k xs < k + xs.length := by
  intro xs
  induction xs with
  | nil => intro k h; cases h
  | cons x r ih =>
    intro k h
    rw [idxFrom]
    by_cases e : x = s
    · rw [if_pos e]; simp only [List.length_cons]; omega
    · rw [if_neg e]
      have h2 : s ∈ r := by
        rcases List.mem_cons.1 h with e2 | h2
        · exact absurd e2.symm e
        · exact h2
      have := ih (k + 1) h2
      simp only [List.length_cons]; omega
theorem idx_mem (xs : List ByteArray) (s : ByteArray) : 0 ≤ idx xs s ↔ s ∈ xs := by
  constructor
  · intro h
    by_cases hm : s ∈ xs
    · exact hm
    · have := idx_not s xs 0 hm
      unfold idx at h; omega
  · intro h; have := idx_yes s xs 0 h; unfold idx; omega
theorem idx_lt (xs : List ByteArray) (s : ByteArray) : idx xs s < xs.length ∨ idx xs s = -1 := by
  by_cases hm : s ∈ xs
  · have := idx_yes s xs 0 hm; unfold idx; omega
  · exact Or.inr (idx_not s xs 0 hm)
theorem idx_ge (xs : List ByteArray) (s : ByteArray) : -1 ≤ idx xs s := by
  by_cases hm : s ∈ xs
  · have := (idx_mem xs s).2 hm; omega
  · have := idx_not s xs 0 hm; unfold idx; omega

/-- Are all different, each held against those before it? -/
def distinct (xs : List ByteArray) : Bool := decide xs.Nodup
theorem nodup_take (xs : List ByteArray) (k : Nat) (x : ByteArray) (h : xs.take (k + 1) = xs.take k ++ [x]) : (xs.take (k + 1)).Nodup ↔ (xs.take k).Nodup ∧ x ∉ xs.take k := by
  rw [h, List.nodup_append]
  constructor
  · rintro ⟨h1, -, h2⟩
    exact ⟨h1, fun hm => h2 x hm x (by simp) rfl⟩
  · rintro ⟨h1, h2⟩
    exact ⟨h1, by simp, fun a ha b hb e => by rw [List.mem_singleton] at hb; subst hb; subst e; exact h2 ha⟩
theorem nodup_of_take (xs : List ByteArray) (k : Nat) (h : ¬ (xs.take k).Nodup) : ¬ xs.Nodup := fun hn => h (hn.sublist (List.take_sublist k xs))

/-- What is there already is left out. -/
def uniteFrom : List ByteArray → List ByteArray → List ByteArray
  | out, [] => out
  | out, x :: r => if 0 ≤ idx out x then uniteFrom out r else uniteFrom (out ++ [x]) r
def unite (a b : List ByteArray) : List ByteArray := uniteFrom (uniteFrom [] a) b
theorem unite_len : ∀ (xs out : List ByteArray), (uniteFrom out xs).length ≤ out.length + xs.length := by
  intro xs
  induction xs with
  | nil => intro out; simp [uniteFrom]
  | cons x r ih =>
    intro out
    rw [uniteFrom]
    split
    · have := ih out; simp only [List.length_cons]; omega
    · have := ih (out ++ [x]); simp only [List.length_append, List.length_cons, List.length_nil] at this ⊢; omega
end Go.Proofs.Ytegigjnlecpplaa
