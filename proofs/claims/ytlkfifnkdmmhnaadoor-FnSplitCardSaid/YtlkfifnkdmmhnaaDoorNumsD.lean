/- Plain mathematics for splitting: a text cut at every occurrence of a byte. No condition. -/
import Derived.Lib.Split
namespace Go.Proofs.YtlkfifnkdmmhnaaDoor
open Go

/-- The parts of a text between the occurrences of b; acc is what the current part holds already. -/
def parts (b : UInt8) : List UInt8 → List UInt8 → List (List UInt8)
  | acc, [] => [acc]
  | acc, c :: r => if c = b then acc :: parts b [] r else parts b (acc ++ [c]) r

theorem parts_nil (b : UInt8) (acc : List UInt8) : parts b acc [] = [acc] := rfl
theorem parts_hit (b : UInt8) (acc r : List UInt8) : parts b acc (b :: r) = acc :: parts b [] r := by simp [parts]
theorem parts_other (b c : UInt8) (acc r : List UInt8) (h : c ≠ b) : parts b acc (c :: r) = parts b (acc ++ [c]) r := by simp [parts, h]

theorem index_cons (b c : UInt8) (r : List UInt8) : Lib.index (c :: r) [b] = if c = b then 0 else if Lib.index r [b] = -1 then -1 else Lib.index r [b] + 1 := by
  rw [Lib.index]
  by_cases h : c = b
  · subst h; simp
  · have hp : ([b].isPrefixOf (c :: r)) = false := by
      simp only [List.isPrefixOf, Bool.and_true, beq_eq_false_iff_ne]
      exact fun e => h e.symm
    rw [hp, if_neg (by simp), if_neg h]
    by_cases h2 : Lib.index r [b] = -1
    · simp [h2]
    · simp [h2]

theorem parts_miss (b : UInt8) : ∀ (l acc : List UInt8), Lib.index l [b] = -1 → parts b acc l = [acc ++ l] := by
  intro l
  induction l with
  | nil => intro acc _; simp [parts]
  | cons c r ih =>
    intro acc h
    rw [index_cons] at h
    by_cases hc : c = b
    · rw [if_pos hc] at h; cases h
    · rw [if_neg hc] at h
      have hr : Lib.index r [b] = -1 := by
        by_cases h2 : Lib.index r [b] = -1
        · exact h2
        · rw [if_neg h2] at h
          have := Lib.index_ge r [b]
          omega
      rw [parts_other b c acc r hc, ih _ hr, List.append_assoc]
      rfl
theorem parts_index (b : UInt8) : ∀ (l acc : List UInt8) (i : Nat), Lib.index l [b] = i → parts b acc l = (acc ++ l.take i) :: parts b [] (l.drop (i + 1)) := by
  intro l
  induction l with
  | nil => intro acc i h; simp [Lib.index] at h
  | cons c r ih =>
    intro acc i h
    rw [index_cons] at h
    by_cases hc : c = b
    · rw [if_pos hc] at h
      obtain rfl : i = 0 := by omega
      subst hc
      rw [parts_hit]; simp
    · rw [if_neg hc] at h
      have hge := Lib.index_ge r [b]
      have h2 : ¬ Lib.index r [b] = -1 := fun e => by rw [if_pos e] at h; omega
      rw [if_neg h2] at h
      obtain ⟨j, rfl⟩ : ∃ j, i = j + 1 := ⟨i - 1, by omega⟩
      rw [parts_other b c acc r hc, ih _ j (by omega), List.append_assoc]
      simp
/-- The library's cut is this one. -/
theorem split_parts (b : UInt8) : ∀ (n : Nat) (l : List UInt8), l.length ≤ n → Lib.splitK [b] 0 (Lib.count l [b]) l = parts b [] l := by
  intro n
  induction n with
  | zero =>
    intro l h
    obtain rfl : l = [] := List.eq_nil_of_length_eq_zero (by omega)
    rfl
  | succ n ih =>
    intro l hl
    have hge := Lib.index_ge l [b]
    by_cases h : Lib.index l [b] = -1
    · rw [Lib.count_miss h, parts_miss b l [] h]; rfl
    · obtain ⟨i, hi⟩ : ∃ i : Nat, Lib.index l [b] = i := ⟨(Lib.index l [b]).toNat, by omega⟩
      have hroom := Lib.index_room l [b] (by omega)
      simp only [List.length_cons, List.length_nil] at hroom
      have hdl : (l.drop (i + 1)).length ≤ n := by rw [List.length_drop]; omega
      have hn : ¬ (Lib.index l [b] == -1) = true := fun e => h (beq_iff_eq.1 e)
      rw [Lib.count_hit (List.cons_ne_nil _ _) hi, parts_index b l [] i hi, Nat.add_comm 1, Lib.splitK, if_neg hn, show (Lib.index l [b]).toNat = i by omega]
      simp only [List.length_cons, List.length_nil, Nat.zero_add, Nat.add_zero, List.nil_append]
      rw [ih _ hdl]
theorem parts_ne (b : UInt8) : ∀ l acc, parts b acc l ≠ [] := by
  intro l
  induction l with
  | nil => intro acc; simp [parts]
  | cons c r ih =>
    intro acc
    by_cases h : c = b
    · subst h; rw [parts_hit]; simp
    · rw [parts_other b c acc r h]; exact ih _
theorem parts_length (b : UInt8) : ∀ l acc, (parts b acc l).length ≤ l.length + 1 := by
  intro l
  induction l with
  | nil => intro acc; simp [parts]
  | cons c r ih =>
    intro acc
    by_cases h : c = b
    · subst h; rw [parts_hit]; have := ih []; simp only [List.length_cons]; omega
    · rw [parts_other b c acc r h]; have := ih (acc ++ [c]); simp only [List.length_cons]; omega
theorem split_length (b : UInt8) (l : List UInt8) : (parts b [] l).length = Lib.count l [b] + 1 := by
  suffices h : ∀ (n : Nat) (l : List UInt8), l.length ≤ n → (parts b [] l).length = Lib.count l [b] + 1 from h l.length l (Nat.le_refl _)
  intro n
  induction n with
  | zero =>
    intro l h
    obtain rfl : l = [] := List.eq_nil_of_length_eq_zero (by omega)
    rfl
  | succ n ih =>
    intro l hl
    have hge := Lib.index_ge l [b]
    by_cases h : Lib.index l [b] = -1
    · rw [Lib.count_miss h, parts_miss b l [] h]; rfl
    · obtain ⟨i, hi⟩ : ∃ i : Nat, Lib.index l [b] = i := ⟨(Lib.index l [b]).toNat, by omega⟩
      have hroom := Lib.index_room l [b] (by omega)
      simp only [List.length_cons, List.length_nil] at hroom
      have hdl : (l.drop (i + 1)).length ≤ n := by rw [List.length_drop]; omega
      rw [Lib.count_hit (List.cons_ne_nil _ _) hi, parts_index b l [] i hi, List.length_cons, ih _ hdl]
      simp only [List.length_cons, List.length_nil, Nat.zero_add]
      omega

/-- The parts as texts. -/
def pieces (s : ByteArray) (b : UInt8) : List ByteArray := (parts b [] s.data.toList).map fun l => ⟨l.toArray⟩
theorem bytes_of (s : ByteArray) : (⟨s.data.toList.toArray⟩ : ByteArray) = s := by
  have h : s.data.toList.toArray = s.data := by simp
  rw [h]
theorem pieces_eq (s : ByteArray) (b : UInt8) (xs : List ByteArray) (h : xs.map (·.data.toList) = parts b [] s.data.toList) : xs = pieces s b := by
  unfold pieces
  rw [← h, List.map_map]
  conv => lhs; rw [← List.map_id xs]
  exact List.map_congr_left fun x _ => (bytes_of x).symm
theorem splitB_pieces (s : ByteArray) (b : UInt8) : Lib.splitB ⟨#[b]⟩ 0 (Lib.countB s ⟨#[b]⟩) s = pieces s b :=
  pieces_eq s b _ (by rw [Lib.splitB_data]; exact split_parts b s.data.toList.length s.data.toList (Nat.le_refl _))
theorem pieces_length (s : ByteArray) (b : UInt8) : (pieces s b).length = Lib.countB s ⟨#[b]⟩ + 1 := by
  unfold pieces
  rw [List.length_map]; exact split_length b _
theorem pieces_le (s : ByteArray) (b : UInt8) : (pieces s b).length ≤ s.size + 1 := by
  unfold pieces
  rw [List.length_map]
  have := parts_length b s.data.toList []
  have e : s.data.toList.length = s.size := Array.length_toList
  omega
end Go.Proofs.YtlkfifnkdmmhnaaDoor
