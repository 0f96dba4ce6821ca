/- Plain mathematics for parsing: the decimal numeral of an integer can be read back, and only from itself. No condition. -/
import Derived.Lib.ItoaNum
import Derived.Lib.AtoiAll
import Derived.Test.YtlkfifnkdmmhnaaDoorNums
namespace Go.Proofs.YtlkfifnkdmmhnaaDoor
open Go

def isDig (c : UInt8) : Prop := 48 ≤ c.toNat ∧ c.toNat ≤ 57
def allDig (l : List UInt8) : Prop := ∀ c ∈ l, isDig c
/-- The number that digits spell, behind acc. -/
def dval : Nat → List UInt8 → Nat
  | acc, [] => acc
  | acc, c :: r => dval (acc * 10 + (c.toNat - 48)) r

theorem allDig_nil : allDig [] := fun _ h => by cases h
theorem allDig_append {a b : List UInt8} (ha : allDig a) (hb : allDig b) : allDig (a ++ b) := fun c h => by
  rcases List.mem_append.1 h with h | h
  · exact ha c h
  · exact hb c h
theorem allDig_one {c : UInt8} (h : isDig c) : allDig [c] := fun d hd => by
  rw [List.mem_singleton] at hd; rw [hd]; exact h

theorem dval_append : ∀ (a b : List UInt8) (acc : Nat), dval acc (a ++ b) = dval (dval acc a) b
  | [], _, _ => rfl
  | _ :: r, b, _ => dval_append r b _
theorem dval_snoc (a : List UInt8) (c : UInt8) : dval 0 (a ++ [c]) = dval 0 a * 10 + (c.toNat - 48) := by
  rw [dval_append]; rfl
theorem dval_ge : ∀ (l : List UInt8) (acc : Nat), acc ≤ dval acc l
  | [], _ => Nat.le_refl _
  | c :: r, acc => Nat.le_trans (by omega) (dval_ge r (acc * 10 + (c.toNat - 48)))

theorem ofNat_dig (d : Nat) (h : d < 10) : (UInt8.ofNat (48 + d)).toNat = 48 + d := by
  rw [UInt8.toNat_ofNat']; omega
theorem dec_dig (u : Nat) : allDig (Lib.decDigits u) := by
  induction u using Nat.strongRecOn with
  | _ u ih =>
    rw [Lib.decDigits]
    split
    · exact allDig_one (by unfold isDig; rw [ofNat_dig u (by omega)]; omega)
    · exact allDig_append (ih (u / 10) (by omega)) (allDig_one (by unfold isDig; rw [ofNat_dig (u % 10) (by omega)]; omega))
theorem dec_val (u : Nat) : dval 0 (Lib.decDigits u) = u := by
  induction u using Nat.strongRecOn with
  | _ u ih =>
    rw [Lib.decDigits]
    split
    · rename_i h
      have e := ofNat_dig u h
      show 0 * 10 + ((UInt8.ofNat (48 + u)).toNat - 48) = u
      omega
    · have e := ofNat_dig (u % 10) (Nat.mod_lt _ (by decide))
      have e2 := ih (u / 10) (by omega)
      rw [dval_snoc]
      generalize (UInt8.ofNat (48 + u % 10)).toNat = z at e ⊢
      rw [e2]; omega
theorem dec_ne (u : Nat) : Lib.decDigits u ≠ [] := by
  rw [Lib.decDigits]
  split
  · exact List.cons_ne_nil _ _
  · exact List.append_ne_nil_of_right_ne_nil _ (List.cons_ne_nil _ _)

theorem pow_more (a b : Nat) (M : Nat) (h : a < M) (hb : b ≤ 9) : a * 10 + b < M * 10 := by omega
theorem dval_bound (l : List UInt8) : ∀ (acc M : Nat), allDig l → acc < M → dval acc l < M * 10 ^ l.length := by
  induction l with
  | nil => intro acc M _ h; rw [List.length_nil, Nat.pow_zero, Nat.mul_one]; exact h
  | cons c r ih =>
    intro acc M hd h
    have hc := hd c List.mem_cons_self
    unfold isDig at hc
    have h2 := ih (acc * 10 + (c.toNat - 48)) (M * 10) (fun d hd' => hd d (List.mem_cons_of_mem _ hd')) (pow_more _ _ _ h (by omega))
    rw [List.length_cons, Nat.pow_succ, Nat.mul_comm (10 ^ r.length) 10, ← Nat.mul_assoc]
    exact h2
theorem dval_bound12 (l : List UInt8) (hd : allDig l) (hl : l.length ≤ 12) : dval 0 l < 1000000000000 := by
  have h := dval_bound l 0 1 hd (by decide)
  have h2 : 10 ^ l.length ≤ 10 ^ 12 := Nat.pow_le_pow_right (by decide) hl
  have e : (10 : Nat) ^ 12 = 1000000000000 := by decide
  rw [Nat.one_mul] at h
  exact Nat.lt_of_lt_of_le h (Nat.le_trans h2 (Nat.le_of_eq e))

theorem parse_digits (l : List UInt8) : ∀ (acc : Nat), allDig l → dval acc l < 1000000000000 → Lib.parseUint10 acc l = .ok (dval acc l) := by
  induction l with
  | nil => intro _ _ _; rfl
  | cons c r ih =>
    intro acc hd h
    have hc := hd c List.mem_cons_self
    unfold isDig at hc
    have h' : dval (acc * 10 + (c.toNat - 48)) r < 1000000000000 := h
    have hge := dval_ge r (acc * 10 + (c.toNat - 48))
    have e := ih (acc * 10 + (c.toNat - 48)) (fun d hd' => hd d (List.mem_cons_of_mem _ hd')) h'
    have hsmall : acc * 10 + (c.toNat - 48) < 1000000000000 := Nat.lt_of_le_of_lt hge h'
    clear h h' hge ih
    have hn1 : ¬ 1844674407370955162 ≤ acc := by omega
    have hn2 : ¬ 18446744073709551616 ≤ acc * 10 + (c.toNat - 48) := by omega
    unfold Lib.parseUint10
    rw [if_pos hc, if_neg hn1, if_neg hn2, e]
    rfl

/-- The part of a text behind its sign. -/
def body (l : List UInt8) : List UInt8 := if l.head? = some 45 then l.tail else l
theorem body_minus (l : List UInt8) : body (45 :: l) = l := by simp [body]
theorem body_other (l : List UInt8) (h : l.head? ≠ some 45) : body l = l := by simp [body, h]

theorem head_dec (u : Nat) : (Lib.decDigits u).head? ≠ some 45 := by
  intro h
  cases hd : Lib.decDigits u with
  | nil => exact dec_ne u hd
  | cons c r =>
    rw [hd] at h
    have hc := dec_dig u c (by rw [hd]; simp)
    simp at h
    rw [h] at hc
    revert hc
    unfold isDig
    decide
theorem itoa_cases (n : Int) : (n < 0 ∧ Lib.itoa n = 45 :: Lib.decDigits n.natAbs) ∨ (0 ≤ n ∧ Lib.itoa n = Lib.decDigits n.natAbs) := by
  unfold Lib.itoa
  by_cases h : n < 0
  · exact Or.inl ⟨h, by rw [if_pos h]⟩
  · exact Or.inr ⟨by omega, by rw [if_neg h]; congr 1; omega⟩
theorem body_itoa (n : Int) : body (Lib.itoa n) = Lib.decDigits n.natAbs := by
  rcases itoa_cases n with ⟨_, e⟩ | ⟨_, e⟩ <;> rw [e]
  · exact body_minus _
  · exact body_other _ (head_dec _)
theorem itoa_neg_iff (n : Int) : (Lib.itoa n).head? = some 45 ↔ n < 0 := by
  rcases itoa_cases n with ⟨h, e⟩ | ⟨h, e⟩ <;> rw [e]
  · simp [h]
  · constructor
    · intro h2; exact absurd h2 (head_dec _)
    · omega
theorem itoa_inj {m n : Int} (h : Lib.itoa m = Lib.itoa n) : m = n := by
  have hb := congrArg (fun l => dval 0 (body l)) h
  simp only [body_itoa, dec_val] at hb
  have h1 := itoa_neg_iff m
  have h2 := itoa_neg_iff n
  rw [h] at h1
  by_cases hm : m < 0
  · have := h2.1 (h1.2 hm); omega
  · have : ¬ n < 0 := fun hn => hm (h1.1 (h2.2 hn)); omega

/-- A text that is a numeral is read back as its number. -/
theorem atoi_itoa (n : Int) (h0 : -1000000000000 < n) (h1 : n < 1000000000000) : Lib.atoiAll (Lib.itoa n) = .ok n := by
  have hp : ∀ l : List UInt8, l = Lib.decDigits n.natAbs → Lib.parseMag l = .ok n.natAbs := fun l hl => by
    unfold Lib.parseMag
    rw [hl, if_neg (dec_ne _)]
    have := parse_digits (Lib.decDigits n.natAbs) 0 (dec_dig _) (by rw [dec_val]; omega)
    rw [this, dec_val]
  rcases itoa_cases n with ⟨hn, e⟩ | ⟨hn, e⟩ <;> rw [e]
  · unfold Lib.atoiAll
    simp only [show (45 : UInt8).toNat = 45 by decide, or_true, if_true, hp _ rfl]
    rw [if_neg (by omega), if_neg (by omega)]
    congr 1; omega
  · cases hd : Lib.decDigits n.natAbs with
    | nil => exact absurd hd (dec_ne _)
    | cons c r =>
      have hc := dec_dig n.natAbs c (by rw [hd]; simp)
      unfold isDig at hc
      have hm := hp (c :: r) hd.symm
      have h45 : ¬ c.toNat = 45 := by omega
      have h43 : ¬ c.toNat = 43 := by omega
      have hpick : (if c.toNat = 43 ∨ c.toNat = 45 then r else c :: r) = c :: r := if_neg (by omega)
      unfold Lib.atoiAll
      simp only
      rw [hpick, hm]
      simp only [h45, not_false_eq_true, true_and, false_and, if_false]
      rw [if_neg (by omega)]
      congr 1; omega

/-- What the model's reader gives for the text l, at most so many digits. -/
def ReadEnd (most : Int) (l : List UInt8) (n : Int) (b : Bool) : Prop :=
  (b = true → Lib.itoa n = l ∧ ((body l).length : Int) ≤ most ∧ n.natAbs < 1000000000000) ∧ (b = false → n = 0 ∧ ∀ m, Lib.itoa m = l → most < ((body l).length : Int))

theorem read_empty (most : Int) (l : List UInt8) (h : body l = []) : ReadEnd most l 0 false :=
  ⟨(fun h => by cases h), fun _ => ⟨rfl, fun m hm => by rw [← hm, body_itoa] at h; exact absurd h (dec_ne _)⟩⟩
theorem read_long (most : Int) (l : List UInt8) (h : most < ((body l).length : Int)) : ReadEnd most l 0 false :=
  ⟨(fun h => by cases h), fun _ => ⟨rfl, fun _ _ => h⟩⟩
theorem read_bad (most : Int) (l : List UInt8) (c : UInt8) (hc : c ∈ body l) (h : ¬ isDig c) : ReadEnd most l 0 false :=
  ⟨(fun h => by cases h), fun _ => ⟨rfl, fun m hm => by rw [← hm, body_itoa] at hc; exact absurd (dec_dig _ c hc) h⟩⟩
theorem read_other (most : Int) (l : List UInt8) (n : Int) (hv : n = if l.head? = some 45 then -(dval 0 (body l) : Int) else dval 0 (body l)) (h : Lib.itoa n ≠ l) : ReadEnd most l 0 false :=
  ⟨(fun h => by cases h), fun _ => ⟨rfl, fun m hm => by
    refine absurd ?_ h
    have hb : dval 0 (body l) = m.natAbs := by rw [← hm, body_itoa, dec_val]
    have hh := itoa_neg_iff m
    rw [hm] at hh
    have : n = m := by
      rw [hv, hb]
      by_cases hn : m < 0
      · rw [if_pos (hh.2 hn)]; omega
      · rw [if_neg (fun h2 => hn (hh.1 h2))]; omega
    rw [this]; exact hm⟩⟩
theorem read_good (most : Int) (l : List UInt8) (n : Int) (h : Lib.itoa n = l) (hl : ((body l).length : Int) ≤ most) (hb : n.natAbs < 1000000000000) : ReadEnd most l n true :=
  ⟨fun _ => ⟨h, hl, hb⟩, (fun h => by cases h)⟩
end Go.Proofs.YtlkfifnkdmmhnaaDoor
