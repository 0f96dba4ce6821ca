/- Plain mathematics: what a parser of the integers from lo to hi gives for a text is determined. No condition. -/
import Derived.Test.YtlkfifnkdmmhnaaDoorNumsB
namespace Go.Proofs.YtlkfifnkdmmhnaaDoor
open Go

/-- What a parser of the integers from lo to hi gives for the text l. -/
def ParseEnd (lo hi : Int) (l : List UInt8) (n : Int) (b : Bool) : Prop :=
  (b = true → Lib.itoa n = l ∧ lo ≤ n ∧ n ≤ hi) ∧ (b = false → n = 0 ∧ ∀ m, lo ≤ m → m ≤ hi → Lib.itoa m ≠ l)

theorem parse_unique {lo hi : Int} {l : List UInt8} {n n' : Int} {b b' : Bool} (h : ParseEnd lo hi l n b) (h' : ParseEnd lo hi l n' b') : n = n' ∧ b = b' := by
  cases b <;> cases b'
  · exact ⟨(h.2 rfl).1.trans (h'.2 rfl).1.symm, rfl⟩
  · obtain ⟨e, h1, h2⟩ := h'.1 rfl
    exact absurd e ((h.2 rfl).2 _ h1 h2)
  · obtain ⟨e, h1, h2⟩ := h.1 rfl
    exact absurd e ((h'.2 rfl).2 _ h1 h2)
  · exact ⟨itoa_inj ((h.1 rfl).1.trans (h'.1 rfl).1.symm), rfl⟩

theorem len_small (k : Nat) : ∀ u : Nat, u < 10 ^ (k + 1) → (Lib.decDigits u).length ≤ k + 1 := by
  induction k with
  | zero =>
    intro u h
    rw [Lib.decDigits_length, Lib.nDigits_small (by rw [Nat.zero_add, Nat.pow_one] at h; exact h)]
    exact Nat.le_refl _
  | succ k ih =>
    intro u h
    rw [Lib.decDigits_length]
    by_cases hu : u < 10
    · rw [Lib.nDigits_small hu]; omega
    · have h2 : u / 10 < 10 ^ (k + 1) := by
        rw [Nat.pow_succ] at h
        exact (Nat.div_lt_iff_lt_mul (by decide)).2 h
      have h3 := ih (u / 10) h2
      rw [Lib.decDigits_length] at h3
      rw [Lib.nDigits_big hu]; omega
theorem small_len (k u : Nat) (h : (Lib.decDigits u).length ≤ k) : u < 10 ^ k := by
  have h1 := dval_bound (Lib.decDigits u) 0 1 (dec_dig u) (by decide)
  rw [dec_val, Nat.one_mul] at h1
  exact Nat.lt_of_lt_of_le h1 (Nat.pow_le_pow_right (by decide) h)

theorem read_len {most : Int} {l : List UInt8} {n : Int} (k : Nat) (hk : most = k) (h : ReadEnd most l n true) : Lib.itoa n = l ∧ n.natAbs < 10 ^ k := by
  obtain ⟨e, hl, -⟩ := h.1 rfl
  refine ⟨e, small_len k _ ?_⟩
  rw [← e, body_itoa] at hl
  omega
theorem read_none {most : Int} {l : List UInt8} {n : Int} (k : Nat) (hk : most = ((k + 1 : Nat) : Int)) (h : ReadEnd most l n false) : n = 0 ∧ ∀ m, m.natAbs < 10 ^ (k + 1) → Lib.itoa m ≠ l := by
  refine ⟨(h.2 rfl).1, fun m hm e => ?_⟩
  have h1 := (h.2 rfl).2 m e
  rw [← e, body_itoa] at h1
  have := len_small k _ hm
  omega
theorem p6 : (10 : Nat) ^ 6 = 1000000 := by decide
theorem p12 : (10 : Nat) ^ 12 = 1000000000000 := by decide

theorem number_yes {l : List UInt8} {n : Int} (h : ReadEnd 6 l n true) (hn : ¬ n < 0) : ParseEnd 0 999999 l n true := by
  obtain ⟨e, hb⟩ := read_len 6 rfl h
  rw [p6] at hb
  exact ⟨fun _ => ⟨e, by omega, by omega⟩, (fun h => by cases h)⟩
theorem number_neg {l : List UInt8} {n : Int} (h : ReadEnd 6 l n true) (hn : n < 0) : ParseEnd 0 999999 l 0 false := by
  obtain ⟨e, -⟩ := read_len 6 rfl h
  refine ⟨(fun h => by cases h), fun _ => ⟨rfl, fun m hm _ em => ?_⟩⟩
  have := itoa_inj (em.trans e.symm)
  omega
theorem number_no {l : List UInt8} {n : Int} (h : ReadEnd 6 l n false) : ParseEnd 0 999999 l 0 false := by
  obtain ⟨-, hb⟩ := read_none 5 rfl h
  refine ⟨(fun h => by cases h), fun _ => ⟨rfl, fun m hm hm2 em => hb m ?_ em⟩⟩
  rw [p6]; omega
theorem int_any {l : List UInt8} {n : Int} {b : Bool} (h : ReadEnd 12 l n b) : ParseEnd (-999999999999) 999999999999 l n b := by
  cases b
  · obtain ⟨e, hb⟩ := read_none 11 rfl h
    refine ⟨(fun h => by cases h), fun _ => ⟨e, fun m hm hm2 em => hb m ?_ em⟩⟩
    rw [p12]; omega
  · obtain ⟨e, hb⟩ := read_len 12 rfl h
    rw [p12] at hb
    exact ⟨fun _ => ⟨e, by omega, by omega⟩, (fun h => by cases h)⟩
theorem parse_yes {lo hi : Int} {l : List UInt8} {n : Int} (e : Lib.itoa n = l) (h0 : lo ≤ n) (h1 : n ≤ hi) : ParseEnd lo hi l n true :=
  ⟨fun _ => ⟨e, h0, h1⟩, (fun h => by cases h)⟩
theorem parse_no {lo hi : Int} {l : List UInt8} (h : ∀ m, lo ≤ m → m ≤ hi → Lib.itoa m ≠ l) : ParseEnd lo hi l 0 false :=
  ⟨(fun h => by cases h), fun _ => ⟨rfl, h⟩⟩
end Go.Proofs.YtlkfifnkdmmhnaaDoor
