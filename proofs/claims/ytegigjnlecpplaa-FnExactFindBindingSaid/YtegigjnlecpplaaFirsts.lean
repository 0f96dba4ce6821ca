/- Maps that hold the first one of a list at each key; keys that are strings, or structs of two strings. No condition. -/
import Derived.Test.YtegigjnlecpplaaAsc
namespace Go.Proofs.Ytegigjnlecpplaa
open Go Go.RowKit

section
variable {α : Type} {key val : α → Value}
/-- p is the first of F at the key k. -/
def FirstAt (key : α → Value) (F : List α) (k : Value) (p : α) : Prop := ∃ A B, F = A ++ p :: B ∧ key p = k ∧ ∀ a ∈ A, key a ≠ k
theorem FirstAt.mem {F : List α} {k : Value} {p : α} (h : FirstAt key F k p) : p ∈ F ∧ key p = k := by
  obtain ⟨A, B, rfl, h1, -⟩ := h
  exact ⟨by simp, h1⟩
theorem firstAt_cons {F : List α} {x p : α} {k : Value} : FirstAt key (x :: F) k p ↔ (key x = k ∧ p = x) ∨ (key x ≠ k ∧ FirstAt key F k p) := by
  constructor
  · rintro ⟨A, B, h, h1, h2⟩
    cases A with
    | nil =>
      simp only [List.nil_append, List.cons.injEq] at h
      obtain ⟨rfl, rfl⟩ := h
      exact Or.inl ⟨h1, rfl⟩
    | cons a A =>
      simp only [List.cons_append, List.cons.injEq] at h
      obtain ⟨rfl, rfl⟩ := h
      exact Or.inr ⟨h2 _ (by simp), A, B, rfl, h1, fun b hb => h2 b (by simp [hb])⟩
  · rintro (⟨h1, rfl⟩ | ⟨h1, A, B, rfl, h2, h3⟩)
    · exact ⟨[], F, rfl, h1, fun a ha => by cases ha⟩
    · refine ⟨x :: A, B, rfl, h2, fun a ha => ?_⟩
      rcases List.mem_cons.1 ha with rfl | ha
      · exact h1
      · exact h3 a ha
theorem firstAt_some : ∀ {F : List α} {k : Value}, (∃ p ∈ F, key p = k) → ∃ p, FirstAt key F k p := by
  intro F
  induction F with
  | nil => rintro k ⟨p, hp, -⟩; cases hp
  | cons x F ih =>
    rintro k ⟨p, hp, hk⟩
    by_cases hx : key x = k
    · exact ⟨x, firstAt_cons.2 (Or.inl ⟨hx, rfl⟩)⟩
    · rcases List.mem_cons.1 hp with rfl | hp
      · exact absurd hk hx
      · obtain ⟨q, hq⟩ := ih ⟨p, hp, hk⟩
        exact ⟨q, firstAt_cons.2 (Or.inr ⟨hx, hq⟩)⟩
theorem FirstAt.uniq : ∀ {F : List α} {k : Value} {p q : α}, FirstAt key F k p → FirstAt key F k q → p = q := by
  intro F
  induction F with
  | nil => rintro k p q ⟨A, B, h, -⟩; simp at h
  | cons x F ih =>
    intro k p q hp hq
    rcases firstAt_cons.1 hp with ⟨h1, rfl⟩ | ⟨h1, h2⟩ <;> rcases firstAt_cons.1 hq with ⟨h3, rfl⟩ | ⟨h3, h4⟩
    · rfl
    · exact absurd h1 h3
    · exact absurd h3 h1
    · exact ih h2 h4
theorem firstAt_snoc {F : List α} {x p : α} {k : Value} : FirstAt key (F ++ [x]) k p ↔ FirstAt key F k p ∨ ((∀ a ∈ F, key a ≠ k) ∧ key x = k ∧ p = x) := by
  induction F with
  | nil =>
    rw [List.nil_append, firstAt_cons]
    constructor
    · rintro (⟨h1, rfl⟩ | ⟨-, A, B, h, -⟩)
      · exact Or.inr ⟨(fun a ha => by cases ha), h1, rfl⟩
      · simp at h
    · rintro (⟨A, B, h, -⟩ | ⟨-, h1, rfl⟩)
      · simp at h
      · exact Or.inl ⟨h1, rfl⟩
  | cons y F ih =>
    rw [List.cons_append, firstAt_cons, firstAt_cons, ih]
    constructor
    · rintro (h | ⟨h1, h | ⟨h2, h3⟩⟩)
      · exact Or.inl (Or.inl h)
      · exact Or.inl (Or.inr ⟨h1, h⟩)
      · refine Or.inr ⟨fun a ha => ?_, h3⟩
        rcases List.mem_cons.1 ha with rfl | ha
        · exact h1
        · exact h2 a ha
    · rintro ((h | ⟨h1, h⟩) | ⟨h1, h2⟩)
      · exact Or.inl h
      · exact Or.inr ⟨h1, Or.inl h⟩
      · exact Or.inr ⟨h1 y (by simp), Or.inr ⟨fun a ha => h1 a (by simp [ha]), h2⟩⟩

/-- The map holds the first one of F at each key. -/
structure Firsts (key val : α → Value) (F : List α) (M : List (Value × Value)) : Prop where
  mem : ∀ k v, (k, v) ∈ M ↔ ∃ p, FirstAt key F k p ∧ val p = v
  len : M.length ≤ F.length ∧ (M.length = F.length ↔ (F.map key).Nodup)
theorem firsts_nil : Firsts key val [] [] := ⟨fun k v => ⟨(fun h => by cases h), fun ⟨p, ⟨A, B, h, _⟩, _⟩ => by simp at h⟩, by simp⟩
theorem Firsts.keys {F : List α} {M : List (Value × Value)} (h : Firsts key val F M) (k : Value) : (∃ x ∈ M, x.1 = k) ↔ ∃ p ∈ F, key p = k := by
  constructor
  · rintro ⟨⟨k', v⟩, hx, rfl⟩
    obtain ⟨p, hp, -⟩ := (h.mem _ _).1 hx
    exact ⟨p, hp.mem⟩
  · intro hp
    obtain ⟨p, hp⟩ := firstAt_some hp
    exact ⟨(k, val p), (h.mem _ _).2 ⟨p, hp, rfl⟩, rfl⟩
theorem put_mem {L L2 : List (Value × Value)} {k0 v0 : Value} (hn : (L.map Prod.fst).Nodup) (h : Put L k0 v0 L2) (k v : Value) : (k, v) ∈ L2 ↔ (k = k0 ∧ v = v0) ∨ (k ≠ k0 ∧ (k, v) ∈ L) := by
  rcases h with ⟨h1, rfl⟩ | ⟨A, u, B, rfl, rfl⟩
  · rw [List.mem_append, List.mem_singleton, Prod.mk.injEq]
    constructor
    · rintro (h | h)
      · exact Or.inr ⟨h1 _ h, h⟩
      · exact Or.inl h
    · rintro (h | ⟨-, h⟩)
      · exact Or.inr h
      · exact Or.inl h
  · rw [List.map_append, List.map_cons, List.nodup_append] at hn
    obtain ⟨-, h2, h3⟩ := hn
    rw [List.nodup_cons] at h2
    have hA : ∀ x ∈ A, x.1 ≠ k0 := fun x hx => h3 x.1 (List.mem_map_of_mem hx) k0 (by simp)
    have hB : ∀ x ∈ B, x.1 ≠ k0 := fun x hx e => h2.1 (show k0 ∈ B.map Prod.fst by rw [← e]; exact List.mem_map_of_mem hx)
    simp only [List.mem_append, List.mem_cons, Prod.mk.injEq]
    constructor
    · rintro (h | h | h)
      · exact Or.inr ⟨hA _ h, Or.inl h⟩
      · exact Or.inl h
      · exact Or.inr ⟨hB _ h, Or.inr (Or.inr h)⟩
    · rintro (h | ⟨h, h4 | h4 | h4⟩)
      · exact Or.inr (Or.inl h)
      · exact Or.inl h4
      · exact absurd h4.1 h
      · exact Or.inr (Or.inr h4)
/-- One more in front, stored over what was there. -/
theorem Firsts.cons {F : List α} {M M2 : List (Value × Value)} {x : α} (h : Firsts key val F M) (hn : (M.map Prod.fst).Nodup) (hp : Put M (key x) (val x) M2) : Firsts key val (x :: F) M2 := by
  refine ⟨fun k v => ?_, ?_⟩
  · rw [put_mem hn hp, h.mem]
    constructor
    · rintro (⟨rfl, rfl⟩ | ⟨h1, p, h2, h3⟩)
      · exact ⟨x, firstAt_cons.2 (Or.inl ⟨rfl, rfl⟩), rfl⟩
      · exact ⟨p, firstAt_cons.2 (Or.inr ⟨fun e => h1 e.symm, h2⟩), h3⟩
    · rintro ⟨p, h1, h2⟩
      rcases firstAt_cons.1 h1 with ⟨h3, rfl⟩ | ⟨h3, h4⟩
      · exact Or.inl ⟨h3.symm, h2.symm⟩
      · exact Or.inr ⟨fun e => h3 e.symm, p, h4, h2⟩
  · have hk := h.keys (key x)
    have hl := h.len
    rw [List.map_cons, List.nodup_cons, List.length_cons]
    rcases hp with ⟨h1, rfl⟩ | ⟨A, u, B, rfl, rfl⟩
    · have hne : key x ∉ F.map key := fun hm => by
        obtain ⟨p, hp1, hp2⟩ := List.mem_map.1 hm
        obtain ⟨y, hy, e⟩ := hk.2 ⟨p, hp1, hp2⟩
        exact h1 y hy e
      refine ⟨by simp; omega, ?_⟩
      rw [List.length_append]
      simp only [List.length_cons, List.length_nil, hne, not_false_eq_true, true_and]
      rw [← hl.2]
      omega
    · obtain ⟨p, hp1, hp2⟩ := hk.1 ⟨(key x, u), by simp, rfl⟩
      have hin : key x ∈ F.map key := List.mem_map.2 ⟨p, hp1, hp2⟩
      have hl1 := hl.1
      simp only [List.length_append, List.length_cons] at hl1 ⊢
      refine ⟨by omega, ?_⟩
      constructor
      · intro e; omega
      · intro e; exact absurd hin e.1
/-- One more behind, stored where there was none. -/
theorem Firsts.snoc {F : List α} {M M2 : List (Value × Value)} {x : α} (h : Firsts key val F M) (hn : (M.map Prod.fst).Nodup) (hp : Put M (key x) (val x) M2) (ho : ∀ y ∈ M, y.1 ≠ key x) : Firsts key val (F ++ [x]) M2 := by
  have hk : ∀ p ∈ F, key p ≠ key x := fun p hp1 e => by
    obtain ⟨y, hy, e2⟩ := (h.keys (key x)).2 ⟨p, hp1, e⟩
    exact ho y hy e2
  refine ⟨fun k v => ?_, ?_⟩
  · rw [put_mem hn hp, h.mem]
    constructor
    · rintro (⟨rfl, rfl⟩ | ⟨h1, p, h2, h3⟩)
      · exact ⟨x, firstAt_snoc.2 (Or.inr ⟨hk, rfl, rfl⟩), rfl⟩
      · exact ⟨p, firstAt_snoc.2 (Or.inl h2), h3⟩
    · rintro ⟨p, h1, h2⟩
      rcases firstAt_snoc.1 h1 with h3 | ⟨h3, h4, rfl⟩
      · refine Or.inr ⟨fun e => hk p h3.mem.1 (h3.mem.2.trans e), p, h3, h2⟩
      · exact Or.inl ⟨h4.symm, h2.symm⟩
  · have hl := h.len
    have hne : key x ∉ F.map key := fun hm => by
      obtain ⟨p, hp1, hp2⟩ := List.mem_map.1 hm
      exact hk p hp1 hp2
    rcases hp with ⟨h1, rfl⟩ | ⟨A, u, B, rfl, -⟩
    · refine ⟨by simp; omega, ?_⟩
      rw [List.length_append, List.length_append, List.map_append, List.nodup_append]
      constructor
      · intro e
        refine ⟨hl.2.1 (by simpa using e), by simp, fun a ha b hb e2 => ?_⟩
        simp only [List.map_cons, List.map_nil, List.mem_singleton] at hb
        rw [e2, hb] at ha
        exact hne ha
      · intro e
        have := hl.2.2 e.1
        simp; omega
    · exact absurd rfl (ho (key x, u) (by simp))
/-- One more behind, where there is one already. -/
theorem Firsts.more {F : List α} {M : List (Value × Value)} {x : α} (h : Firsts key val F M) (ho : ∃ y ∈ M, y.1 = key x) : ∀ k v, (k, v) ∈ M ↔ ∃ p, FirstAt key (F ++ [x]) k p ∧ val p = v := by
  obtain ⟨q, hq1, hq2⟩ := (h.keys (key x)).1 ho
  intro k v
  rw [h.mem]
  constructor
  · rintro ⟨p, h1, h2⟩; exact ⟨p, firstAt_snoc.2 (Or.inl h1), h2⟩
  · rintro ⟨p, h1, h2⟩
    rcases firstAt_snoc.1 h1 with h3 | ⟨h3, h4, rfl⟩
    · exact ⟨p, h3, h2⟩
    · exact absurd (hq2.trans h4) (h3 q hq1)
theorem Firsts.hits {F : List α} {M : List (Value × Value)} (h : Firsts key val F M) {k z v : Value} {b : Bool} (hh : Hits M k z v b) : (∃ p, FirstAt key F k p ∧ v = val p ∧ b = true) ∨ ((∀ p ∈ F, key p ≠ k) ∧ v = z ∧ b = false) := by
  rcases hh with ⟨h1, rfl⟩ | ⟨h1, rfl, rfl⟩
  · obtain ⟨p, h2, h3⟩ := (h.mem _ _).1 h1
    exact Or.inl ⟨p, h2, h3.symm, rfl⟩
  · refine Or.inr ⟨fun p hp e => ?_, rfl, rfl⟩
    obtain ⟨y, hy, e2⟩ := (h.keys k).2 ⟨p, hp, e⟩
    exact h1 y hy e2
end

/-- Strings as keys. -/
def StrK (v : Value) : Prop := ∃ s, v = .string s
theorem strT (w : World) : KeyT Try.prog 9 w StrK := by
  have hk := Try.underlying9
  have isK : ∀ {v : Value}, StrK v → MapKept.IsKey .string v := fun {v} ⟨s, h⟩ => by subst h; trivial
  refine ⟨fun em v h => MapKept.run_checkKey hk (isK h) em 9999, fun x es hx hes => ?_, fun v h => MapKept.run_keyThatStays (isK h)⟩
  rcases MapKept.findNow_spec (isK hx) es 0 (fun y hy => isK (hes y hy)) with ⟨h1, h2⟩ | ⟨j, e0, h1, h2, h3⟩
  · exact Or.inl ⟨MapKept.run_findKey hk h1, h2⟩
  · exact Or.inr ⟨j, e0, by simpa using MapKept.run_findKey hk h1, h2, h3⟩

/-- Structs of two strings as keys. -/
def TwoK (v : Value) : Prop := ∃ s t, v = .agg #[.string s, .string t]
theorem eq_str {w : World} (a b : ByteArray) (d : Nat) : (Op.equalIn (d + 1) 9 (.string a) (.string b)).run Try.prog w = .ok (a == b) w := by
  simp [Op.equalIn, run_underlying Try.underlying9]
end Go.Proofs.Ytegigjnlecpplaa
