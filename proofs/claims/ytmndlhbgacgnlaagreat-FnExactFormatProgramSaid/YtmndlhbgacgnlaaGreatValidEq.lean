/- Validity of a program as plain data: rule by rule as the model asks it, and in turns as the program does; both are the same. No condition. -/
import Derived.Test.YtmndlhbgacgnlaaGreatRuHead
import Derived.Test.YtmndlhbgacgnlaaGreatRuFits
import Derived.Test.YtmndlhbgacgnlaaGreatSpecVars
namespace Go.Proofs.YtmndlhbgacgnlaaGreat
open Go Go.RowKit

def sameAs (l : List Ru) (r : Ru) : Bool := match l.find? (named r.name) with
  | none => false
  | some f => (decide (f.con.size = 0) == decide (r.con.size = 0)) && (decide (f.params.length = r.params.length) && (decide (r.con.size = 0) || decide (conR r.con l = (r.vars.length : Int))))
def ruleOk (l : List Ru) (k : Nat) (r : Ru) : Bool := headOk r && (exFor l r.body && (within (exVars [] r.body) (r.vars ++ r.params) && (decide (findR l r.name r.con = (k : Int)) && sameAs l r)))
def rulesOk (l : List Ru) : Nat → List Ru → Bool
  | _, [] => true
  | k, r :: t => ruleOk l k r && rulesOk l (k + 1) t
def validR (l : List Ru) : Bool := rulesOk l 0 l && decide (l.length ≤ 24)
theorem rulesOk_here {l t : List Ru} {k j : Nat} {r : Ru} (h : t[k]? = some r) : rulesOk l j (t.drop k) = (ruleOk l j r && rulesOk l (j + 1) (t.drop (k + 1))) := by
  obtain ⟨h1, h2⟩ := List.getElem?_eq_some_iff.1 h
  rw [List.drop_eq_getElem_cons h1, h2, rulesOk]
theorem rulesOk_iff (l : List Ru) : ∀ (t : List Ru) (k : Nat), rulesOk l k t = true ↔ ∀ (j : Nat) (r : Ru), t[j]? = some r → ruleOk l (k + j) r = true := by
  intro t
  induction t with
  | nil => intro k; simp [rulesOk]
  | cons x t ih =>
    intro k
    rw [rulesOk, Bool.and_eq_true, ih]
    constructor
    · rintro ⟨h1, h2⟩ j r hj
      cases j with
      | zero => simp at hj; subst hj; exact h1
      | succ j => have := h2 j r (by simpa using hj); rw [show k + (j + 1) = k + 1 + j by omega]; exact this
    · intro h
      exact ⟨h 0 x rfl, fun j r hj => by rw [show k + 1 + j = k + (j + 1) by omega]; exact h (j + 1) r (by simpa using hj)⟩

def rightArgs (r : Ru) : Bool := (isCn r.con || (decide (r.con.size = 0) && decide (r.vars.length = 0))) && (decide (r.vars.length ≤ 5) && (decide (r.params.length ≤ 4) && (allNm (r.vars ++ r.params) && distinct (r.vars ++ r.params))))
def rightParts (r : Ru) : Bool := isNm r.name && (rightArgs r && exValid r.body)
def aloneOk (r : Ru) : Bool := rightParts r && within (exVars [] r.body) (r.vars ++ r.params)
def metOk (l : List Ru) (r : Ru) : Bool := sameAs l r && fitE l r.body r.body
def keyR (r : Ru) : ByteArray × ByteArray := (r.name, r.con)
theorem isCn_empty {s : ByteArray} (h : s.size = 0) : isCn s = false := by
  have : s.data.toList = [] := by
    apply List.eq_nil_of_length_eq_zero
    rw [Array.length_toList]; exact h
  unfold isCn
  rw [this]; rfl
theorem args_head (r : Ru) : (isNm r.name && rightArgs r) = headOk r := by
  unfold rightArgs headOk
  by_cases h : r.con.size = 0
  · rw [if_pos h, isCn_empty h, decide_eq_true h]
    generalize isNm r.name = a
    generalize distinct (r.vars ++ r.params) = b
    generalize allNm (r.vars ++ r.params) = c
    generalize decide (r.vars.length ≤ 5) = d
    generalize decide (r.params.length ≤ 4) = e
    generalize decide (r.vars.length = 0) = f
    cases a <;> cases b <;> cases c <;> cases d <;> cases e <;> cases f <;> rfl
  · rw [if_neg h, decide_eq_false h]
    generalize isNm r.name = a
    generalize distinct (r.vars ++ r.params) = b
    generalize allNm (r.vars ++ r.params) = c
    generalize decide (r.vars.length ≤ 5) = d
    generalize decide (r.params.length ≤ 4) = e
    generalize isCn r.con = f
    cases a <;> cases b <;> cases c <;> cases d <;> cases e <;> cases f <;> simp
theorem parts_head (r : Ru) : rightParts r = (headOk r && exValid r.body) := by
  unfold rightParts; rw [← args_head, Bool.and_assoc]
theorem find_key (l : List Ru) {j : Nat} {r : Ru} (h : l[j]? = some r) : ∃ (i : Nat) (r2 : Ru), findR l r.name r.con = (i : Int) ∧ l[i]? = some r2 ∧ keyR r2 = keyR r := by
  rcases ruIdx_spec (namedC r.name r.con) l 0 with ⟨-, h2⟩ | ⟨i, r2, h1, h2, -, h4⟩
  · rw [List.find?_eq_none] at h2
    exact absurd (by simp [namedC]) (h2 r (List.mem_of_getElem? h))
  · refine ⟨i, r2, by unfold findR; rw [h1]; simp, h2, ?_⟩
    simp [namedC] at h4
    simp [keyR, h4]
theorem keys_iff (l : List Ru) : (∀ (j : Nat) (r : Ru), l[j]? = some r → findR l r.name r.con = (j : Int)) ↔ (l.map keyR).Nodup := by
  show _ ↔ (l.map keyR).Pairwise (· ≠ ·)
  rw [List.pairwise_iff_getElem]
  constructor
  · intro h i j hi hj hij e
    rw [List.length_map] at hi hj
    rw [List.getElem_map, List.getElem_map] at e
    simp only [keyR, Prod.mk.injEq] at e
    have h1 := h i _ (List.getElem?_eq_getElem hi)
    have h2 := h j _ (List.getElem?_eq_getElem hj)
    rw [e.1, e.2, h2] at h1
    omega
  · intro h j r hj
    obtain ⟨i, r2, h1, h2, h3⟩ := find_key l hj
    obtain ⟨hi, ei⟩ := List.getElem?_eq_some_iff.1 h2
    obtain ⟨hj1, ej⟩ := List.getElem?_eq_some_iff.1 hj
    rcases Nat.lt_trichotomy i j with hlt | rfl | hlt
    · exact absurd (by rw [List.getElem_map, List.getElem_map, ei, ej, h3]) (h i j (by simpa using hi) (by simpa using hj1) hlt)
    · exact h1
    · exact absurd (by rw [List.getElem_map, List.getElem_map, ei, ej, h3]) (h j i (by simpa using hj1) (by simpa using hi) hlt)
/-- What the program asks, in its turns. -/
def validO (l : List Ru) : Bool := decide (l.length ≤ 24) && (l.all aloneOk && (decide ((l.map keyR).Nodup) && l.all (metOk l)))
theorem valid_eq (l : List Ru) : validR l = validO l := by
  rw [Bool.eq_iff_iff]
  unfold validR validO
  simp only [Bool.and_eq_true, decide_eq_true_eq, List.all_eq_true, rulesOk_iff, Nat.zero_add, ← keys_iff]
  have hal : ∀ r, aloneOk r = (headOk r && (exValid r.body && within (exVars [] r.body) (r.vars ++ r.params))) := fun r => by unfold aloneOk; rw [parts_head, Bool.and_assoc]
  constructor
  · rintro ⟨h1, h2⟩
    have h3 : ∀ (j : Nat) (r : Ru), l[j]? = some r → aloneOk r = true ∧ findR l r.name r.con = (j : Int) ∧ metOk l r = true := by
      intro j r hj
      have h4 := h1 j r hj
      unfold ruleOk exFor at h4
      simp only [Bool.and_eq_true, decide_eq_true_eq] at h4
      obtain ⟨a, ⟨b, c⟩, d, e, f⟩ := h4
      refine ⟨by rw [hal, a, b, d]; rfl, e, by unfold metOk; rw [f, c]; rfl⟩
    refine ⟨h2, fun r hr => ?_, fun j r hj => (h3 j r hj).2.1, fun r hr => ?_⟩
    · obtain ⟨j, hj⟩ := List.getElem?_of_mem hr
      exact (h3 j r hj).1
    · obtain ⟨j, hj⟩ := List.getElem?_of_mem hr
      exact (h3 j r hj).2.2
  · rintro ⟨h2, h3, h4, h5⟩
    refine ⟨fun j r hj => ?_, h2⟩
    have hm := List.mem_of_getElem? hj
    have a := h3 r hm
    have b := h5 r hm
    rw [hal] at a
    unfold metOk at b
    simp only [Bool.and_eq_true] at a b
    unfold ruleOk exFor
    rw [a.1, a.2.1, a.2.2, b.1, b.2, h4 j r hj]
    simp
end Go.Proofs.YtmndlhbgacgnlaaGreat
