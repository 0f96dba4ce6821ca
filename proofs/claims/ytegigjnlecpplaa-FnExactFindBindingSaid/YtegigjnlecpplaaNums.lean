/- Plain mathematics for FormatInt: the decimal digits of a number, taken from its end. No condition. -/
import Derived.Lib.ItoaNum
namespace Go.Proofs.Ytegigjnlecpplaa
open Go

/-- The decimal digits of u; none for 0. -/
def dz (u : Nat) : List UInt8 := if u = 0 then [] else Lib.decDigits u

theorem dz_zero : dz 0 = [] := by simp [dz]
theorem dz_step (u : Nat) (h : u ≠ 0) : dz u = dz (u / 10) ++ [UInt8.ofNat (48 + u % 10)] := by
  unfold dz
  rw [if_neg h]
  by_cases h10 : u < 10
  · rw [if_pos (by omega), Lib.decDigits, dif_pos h10, Nat.mod_eq_of_lt h10]; rfl
  · rw [if_neg (by omega), Lib.decDigits, dif_neg h10]
theorem itoa_pos (u : Nat) (h : u ≠ 0) : Lib.itoa (u : Int) = dz u := by
  unfold Lib.itoa dz; rw [if_neg (by omega), if_neg h]; simp
theorem itoa_minus (u : Nat) (h : u ≠ 0) : Lib.itoa (-(u : Int)) = 45 :: dz u := by
  unfold Lib.itoa dz; rw [if_pos (by omega), if_neg h]; simp
theorem itoa_nil : Lib.itoa 0 = [48] := by decide +kernel
theorem dz_length : ∀ u : Nat, (dz u).length ≤ u := by
  intro u
  induction u using Nat.strongRecOn with
  | _ u ih =>
    by_cases h : u = 0
    · subst h; simp [dz_zero]
    · rw [dz_step u h, List.length_append]
      have := ih (u / 10) (by omega)
      simp only [List.length_cons, List.length_nil]; omega
end Go.Proofs.Ytegigjnlecpplaa
