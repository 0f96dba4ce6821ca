/- For the program's own nodesOnce (it goes into arguments that parts share only where it meets them first): what holds between two rounds, so that no first occurrence is left out. No condition. -/
import Derived.Test.YtmndlhbgacgnlaaNodesKit
import Derived.Test.YtmndlhbgacgnlaaEqKit
namespace Go.Proofs.Ytmndlhbgacgnlaa
open Go Go.RowKit

section
variable {wo : World}
/-- The place of the arguments of a node. -/
def plOf (x : It wo) : Option (Addr × Nat) := match x.1.2.2.1 with
  | .slice (some a) n _ => if n = 0 then none else some (a, n)
  | _ => none
/-- Whether the arguments are gone into. -/
def askO (pre : List (It wo)) (x : It wo) : Bool := match plOf x with
  | none => false
  | some p => decide (some p ∉ pre.map plOf)
theorem plOf_slice {x : It wo} {A : Option Addr} {n c : Nat} (h : x.1.2.2.1 = .slice A n c) : (n = 0 → plOf x = none) ∧ (∀ a, A = some a → n ≠ 0 → plOf x = some (a, n)) := by
  unfold plOf
  rw [h]
  constructor
  · intro h0
    cases A with
    | none => rfl
    | some a => simp [h0]
  · rintro a rfl hn
    simp [hn]
theorem plOf_none {x : It wo} (h : plOf x = none) : x.ex.args = [] := by
  obtain ⟨A, c, e1, hs, -, -⟩ := x.slice
  obtain ⟨-, h2⟩ := plOf_slice e1
  obtain ⟨A', c', e2, -, -, h3⟩ := hs
  cases e2
  rcases h3 with ⟨h3, -⟩ | ⟨g, o, b, rfl, -, -, h4⟩
  · exact h3
  · by_cases hl : x.ex.args.length = 0
    · exact List.eq_nil_of_length_eq_zero hl
    · rw [h2 _ rfl hl] at h; cases h
theorem plOf_some {x : It wo} {p : Addr × Nat} (h : plOf x = some p) : ∃ g o c bs', p = (⟨g, o, none⟩, x.ex.args.length) ∧ x.1.2.2.1 = .slice (some ⟨g, o, none⟩) x.ex.args.length c ∧ x.ex.args.length ≠ 0 ∧ g ∈ x.1.2.2.2 ∧ g < wo.heap.size ∧ ExsAt wo g o 0 x.ex.args bs' := by
  obtain ⟨A, c, e1, hs, -, -⟩ := x.slice
  obtain ⟨h1, h2⟩ := plOf_slice e1
  obtain ⟨A', c', e2, -, -, h3⟩ := hs
  cases e2
  by_cases hl : x.ex.args.length = 0
  · rw [h1 hl] at h; cases h
  · rcases h3 with ⟨h3, -⟩ | ⟨g, o, b, rfl, hg, e3, h4⟩
    · rw [h3] at hl; exact absurd rfl hl
    · rw [h2 _ rfl hl] at h
      cases h
      exact ⟨g, o, c, b, rfl, e1, hl, by rw [e3]; simp, hg, h4⟩
theorem plOf_same {x y : It wo} {p : Addr × Nat} (hx : plOf x = some p) (hy : plOf y = some p) : x.ex.args = y.ex.args := by
  obtain ⟨g, o, c, b, rfl, -, -, -, -, h1⟩ := plOf_some hx
  obtain ⟨g', o', c', b', e, -, -, -, -, h2⟩ := plOf_some hy
  simp only [Prod.mk.injEq, Addr.mk.injEq, and_true] at e
  obtain ⟨⟨rfl, rfl⟩, hl⟩ := e
  exact (at_det _).2 _ _ (Nat.le_refl _) wo g o 0 b b' h1 h2 hl

theorem find_skip {α : Type} {q : α → Bool} {A B K C : List α} (h : ∀ z ∈ K, z ∈ A) : (A ++ (B ++ (K ++ C))).find? q = (A ++ (B ++ C)).find? q := by
  simp only [List.find?_append]
  cases hA : A.find? q with
  | some a => rfl
  | none =>
    have hK : K.find? q = none := by
      rw [List.find?_eq_none] at hA ⊢
      exact fun z hz => hA z (h z hz)
    rw [hK]; simp

/-- Between two rounds: every question is answered alike over what was handed out and what is to come as over all nodes; and what is below each place that was met has been handed out, or is still on top of the list. -/
structure InvO (e : Ex) (bs : List Nat) (pre st : List (It wo)) : Prop where
  blk : SubB bs (pre ++ st)
  find : ∀ q : Ex → Bool, (pre.map It.ex ++ due st).find? q = (exNodes e).find? q
  seen : ∀ s ∈ pre, plOf s ≠ none → ∃ j, j ≤ st.length ∧ (∀ y ∈ st.drop j, exSize y.ex < exSize s.ex) ∧ ∀ z ∈ exNodesL s.ex.args, z ∈ pre.map It.ex ++ due (st.drop j)
theorem size_of_args {e e2 : Ex} (h : e.args = e2.args) : exSize e = exSize e2 := by
  cases e; cases e2
  simp only [Ex.args] at h
  rw [exSize, exSize, h]
theorem InvO.start {e : Ex} {bs : List Nat} (x : It wo) (hx : x.ex = e) (hb : ∀ z ∈ x.1.2.2.2, z ∈ bs) : InvO e bs [] [x] :=
  ⟨fun y hy => by rw [List.nil_append, List.mem_singleton] at hy; subst hy; exact hb, fun q => by rw [show due [x] = exNodes x.ex by simp [due], hx]; rfl, fun s hs => by cases hs⟩
theorem InvO.go {e : Ex} {bs : List Nat} {pre st ks : List (It wo)} {x : It wo} (h : InvO e bs pre (st ++ [x])) (hk : ks.map It.ex = x.ex.args.reverse) (hb : SubB x.1.2.2.2 ks) : InvO e bs (pre ++ [x]) (st ++ ks) := by
  have hd : due (st ++ ks) = exNodesL x.ex.args ++ due st := by rw [due_app, due_kids ks _ hk]
  have hks : ∀ y ∈ ks, exSize y.ex < exSize x.ex := fun y hy => exSize_args (by
    have : y.ex ∈ ks.map It.ex := List.mem_map_of_mem hy
    rw [hk] at this
    simpa using this)
  refine ⟨fun y hy z hz => ?_, fun q => ?_, fun s hs hp => ?_⟩
  · simp only [List.mem_append, List.mem_singleton] at hy
    rcases hy with (hy | rfl) | hy | hy
    · exact h.blk y (by simp [hy]) z hz
    · exact h.blk y (by simp) z hz
    · exact h.blk y (by simp [hy]) z hz
    · exact h.blk x (by simp) z (hb y hy z hz)
  · rw [← h.find q, due_one, hd]
    simp
  · rcases List.mem_append.1 hs with hs | hs
    · obtain ⟨j, hj, h1, h2⟩ := h.seen s hs hp
      by_cases hl : j ≤ st.length
      · rw [List.drop_append_of_le_length hl] at h1 h2
        refine ⟨j, by simp; omega, fun y hy => ?_, fun z hz => ?_⟩
        · rw [List.drop_append_of_le_length hl] at hy
          rcases List.mem_append.1 hy with hy | hy
          · exact h1 y (by simp [hy])
          · exact Nat.lt_trans (hks y hy) (h1 x (by simp))
        · have := h2 z hz
          rw [due_one] at this
          rw [List.drop_append_of_le_length hl, due_app, due_kids ks _ hk]
          simp only [List.map_append, List.map_cons, List.map_nil, List.mem_append, List.mem_cons, List.not_mem_nil, or_false] at this ⊢
          rcases this with h | h | h | h
          · exact Or.inl (Or.inl h)
          · exact Or.inl (Or.inr h)
          · exact Or.inr (Or.inl h)
          · exact Or.inr (Or.inr h)
      · rw [List.drop_eq_nil_of_le (by simp; omega)] at h2
        refine ⟨(st ++ ks).length, Nat.le_refl _, fun y hy => by simp at hy, fun z hz => ?_⟩
        have := h2 z hz
        simp only [due, List.reverse_nil, List.flatMap_nil, List.append_nil] at this
        simp [this]
    · rw [List.mem_singleton] at hs
      subst hs
      refine ⟨st.length, by simp, fun y hy => hks y (by simpa using hy), fun z hz => ?_⟩
      rw [List.drop_left, due_kids ks _ hk]
      simp [hz]
theorem InvO.skip {e : Ex} {bs : List Nat} {pre st : List (It wo)} {x : It wo} (h : InvO e bs pre (st ++ [x])) (ha : askO pre x = false) : InvO e bs (pre ++ [x]) st := by
  -- what is below x has been handed out
  have hbel : ∀ z ∈ exNodesL x.ex.args, z ∈ pre.map It.ex := by
    intro z hz
    unfold askO at ha
    cases hp : plOf x with
    | none => rw [plOf_none hp] at hz; simp [exNodesL] at hz
    | some p =>
      rw [hp] at ha
      simp only [decide_eq_false_iff_not, Decidable.not_not] at ha
      obtain ⟨s, hs, hsp⟩ := List.mem_map.1 ha
      have he := plOf_same hsp hp
      obtain ⟨j, hj, h1, h2⟩ := h.seen s hs (by rw [hsp]; simp)
      by_cases hl : j ≤ st.length
      · rw [List.drop_append_of_le_length hl] at h1
        have := h1 x (by simp)
        rw [size_of_args he] at this
        omega
      · rw [List.drop_eq_nil_of_le (by simp; omega)] at h2
        have := h2 z (by rw [he]; exact hz)
        simpa [due] using this
  refine ⟨fun y hy z hz => ?_, fun q => ?_, fun s hs hp => ?_⟩
  · simp only [List.mem_append, List.mem_singleton] at hy
    rcases hy with (hy | rfl) | hy
    · exact h.blk y (by simp [hy]) z hz
    · exact h.blk y (by simp) z hz
    · exact h.blk y (by simp [hy]) z hz
  · have h1 := h.find q
    rw [due_one] at h1
    rw [← h1]
    have := find_skip (q := q) (A := pre.map It.ex) (B := [x.ex]) (K := exNodesL x.ex.args) (C := due st) hbel
    simpa using this.symm
  · rcases List.mem_append.1 hs with hs | hs
    · obtain ⟨j, hj, h1, h2⟩ := h.seen s hs hp
      by_cases hl : j ≤ st.length
      · rw [List.drop_append_of_le_length hl] at h1 h2
        refine ⟨j, hl, fun y hy => h1 y (by simp [hy]), fun z hz => ?_⟩
        have := h2 z hz
        rw [due_one] at this
        simp only [List.map_append, List.map_cons, List.map_nil, List.mem_append, List.mem_cons, List.not_mem_nil, or_false] at this ⊢
        rcases this with h | h | h | h
        · exact Or.inl (Or.inl h)
        · exact Or.inl (Or.inr h)
        · exact Or.inl (Or.inl (hbel z h))
        · exact Or.inr h
      · rw [List.drop_eq_nil_of_le (by simp; omega)] at h2
        refine ⟨st.length, Nat.le_refl _, fun y hy => by simp at hy, fun z hz => ?_⟩
        have := h2 z hz
        simp only [due, List.reverse_nil, List.flatMap_nil, List.append_nil] at this
        simp [this]
    · rw [List.mem_singleton] at hs
      subst hs
      exact ⟨st.length, Nat.le_refl _, fun y hy => by simp at hy, fun z hz => by simp [hbel z hz]⟩
end
end Go.Proofs.Ytmndlhbgacgnlaa
