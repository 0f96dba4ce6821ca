/- A program among the arguments: what it reads as. No condition. -/
import Derived.Test.YtegigjnlecpplaaExOpen
import Derived.Test.YtegigjnlecpplaaRu
namespace Go.Proofs.Ytegigjnlecpplaa
open Go Go.ChangeShapes Go.WideShapes Go.ChangeAt Go.RowKit Go.Deep Go.Joins

theorem cellsTL : Try.prog.cellsOf 83 = 1 := by kernel_rfl
theorem len_five {α : Type} {l : List α} (h : l.length = 5) : ∃ a b c d e, l = [a, b, c, d, e] := by
  match l, h with
  | [a, b, c, d, e], _ => exact ⟨a, b, c, d, e, rfl⟩
theorem len_seven {α : Type} {l : List α} (h : l.length = 7) : ∃ a b c d e f g, l = [a, b, c, d, e, f, g] := by
  match l, h with
  | [a, b, c, d, e, f, g], _ => exact ⟨a, b, c, d, e, f, g, rfl⟩
theorem len_one {α : Type} {l : List α} (h : l.length = 1) : ∃ a, l = [a] := by
  match l, h with
  | [a], _ => exact ⟨a, rfl⟩
theorem ss_of {w : World} {g o : Nat} : ∀ n : Nat, (∀ i, i < n → ∃ s : ByteArray, w.cell? ⟨g, o + i, none⟩ = some (.string s) ∧ s.size ≤ 9223372036854775807) → ∃ xs : List ByteArray, xs.length = n ∧ (∀ x ∈ xs, x.size ≤ 9223372036854775807) ∧ ∀ i x, xs[i]? = some x → w.cell? ⟨g, o + i, none⟩ = some (.string x) := by
  intro n
  induction n with
  | zero => intro _; exact ⟨[], rfl, fun x h => (by cases h), fun i x h => (by simp at h)⟩
  | succ n ih =>
    intro h
    obtain ⟨xs, hl, hs, hc⟩ := ih (fun i hi => h i (by omega))
    obtain ⟨s, h1, h2⟩ := h n (by omega)
    refine ⟨xs ++ [s], by simp [hl], fun x hx => ?_, fun i x hx => ?_⟩
    · rcases List.mem_append.1 hx with hx | hx
      · exact hs x hx
      · rw [List.mem_singleton] at hx; subst hx; exact h2
    · by_cases hi : i < xs.length
      · rw [List.getElem?_append_left hi] at hx; exact hc i x hx
      · rw [List.getElem?_append_right (by omega)] at hx
        obtain ⟨h3, h4⟩ := List.getElem?_eq_some_iff.1 hx
        simp at h3 h4
        subst h4
        rw [show i = n by omega]; exact h1
theorem read_ss {H : Type} {enc : TypeId × Value → H} {w : World} {fuel : Nat} {cs : List Value} {x : DataW H × List MemPlace} (h : DataW.trod enc Try.prog w 0 (fun _ => true) true fuel 83 cs = some x) : ∃ v xs bs, cs = [v] ∧ SsIs w v xs bs := by
  rcases DataW.trod_slice Try.underlying83 h with ⟨rfl, -⟩ | ⟨a, len, cap, elems, rest, n, rfl, rfl, -, -, hl, hm, hlen, hel, -⟩
  · exact ⟨_, [], [], rfl, none, 0, rfl, by simp, by simp, fun x h => (by cases h), Or.inl ⟨rfl, rfl⟩⟩
  · have hcap : cap ≤ 9223372036854775807 := by unfold maxLen at hm; omega
    by_cases h0 : len = 0
    · subst h0
      exact ⟨_, [], [], rfl, some a, cap, rfl, by simp, hcap, fun x h => (by cases h), Or.inl ⟨rfl, rfl⟩⟩
    · have elem : ∀ i, i < len → ∃ s : ByteArray, w.cell? ((a.add (i * 1)).add 0) = some (.string s) ∧ s.size ≤ 9223372036854775807 := by
        intro i hi
        have hy := hel i hi
        rw [List.getElem?_eq_getElem (by omega), cells9L] at hy
        cases hc : w.cells? 0 (a.add (i * 1)) 1 with
        | none => rw [hc] at hy; simp at hy
        | some cs' =>
          rw [hc] at hy
          simp only [Option.bind_some] at hy
          obtain ⟨_, hcl, hat⟩ := World.cells?_some hc
          obtain ⟨s, e1, -, hs⟩ := DataW.trod_string Try.underlying9 hy
          subst e1
          exact ⟨s, hat 0 (by omega), by unfold maxLen at hs; exact hs⟩
      obtain ⟨s0, c0, -⟩ := elem 0 (by omega)
      have ha := spot_none (a := a) (by simpa [Addr.add] using c0)
      obtain ⟨ha1, hlt⟩ := ha
      generalize a.block = g at *
      generalize a.off = o at *
      subst ha1
      obtain ⟨xs, hl2, hs, hc⟩ := ss_of (w := w) (g := g) (o := o) len (fun i hi => by
        obtain ⟨s, c0, hs⟩ := elem i hi
        rw [add_litO, add_litO, Nat.mul_one, Nat.add_zero] at c0
        exact ⟨s, c0, hs⟩)
      exact ⟨_, xs, [g], rfl, some ⟨g, o, none⟩, cap, by rw [hl2], by omega, hcap, hs, Or.inr ⟨g, o, rfl, hlt, rfl, hc⟩⟩
theorem read_ex3 {H : Type} {enc : TypeId × Value → H} {w : World} {fuel : Nat} {q0 q1 q2 : Value} {x : DataW H × List MemPlace} (h : DataW.trod enc Try.prog w 0 (fun _ => true) true fuel 49 [q0, q1, q2] = some x) :
    ∃ (e : Ex) (bs : List Nat), q0 = .int .i64 e.kind ∧ q1 = .string e.name ∧ ExIs w (.agg #[.int .i64 e.kind, .string e.name, q2]) e bs := by
  obtain ⟨xs, n', rfl, -, -, hxl, hf⟩ := DataW.trod_struct Try.underlying49 h
  have g0 := hf 0 _ rfl
  have g1 := hf 1 _ rfl
  have g2 := hf 2 _ rfl
  obtain ⟨x0, x1, x2, rfl⟩ := len_three hxl
  simp [cells3L, cells9L, cellsSL] at g0 g1 g2
  obtain ⟨k, e0, -, -⟩ := DataW.trod_int Try.underlying3 g0
  obtain ⟨s, e1, -, hs⟩ := DataW.trod_string Try.underlying9 g1
  obtain ⟨v2, l, bs, e2, hs2⟩ := read_exs n' _ _ g2
  simp only [List.cons.injEq, and_true] at e0 e1 e2
  subst e0; subst e1; subst e2
  exact ⟨.mk k s l, bs, rfl, rfl, q2, rfl, by unfold maxLen at hs; exact hs, hs2⟩
theorem rus_of {w : World} {g o : Nat} : ∀ n : Nat, (∀ i, i < n → ∃ r b, RuAt w g (o + i * 7) r b) → ∃ l bs, l.length = n ∧ RusAt w g o 0 l bs := by
  intro n
  induction n with
  | zero => intro _; exact ⟨[], [], rfl, rfl⟩
  | succ n ih =>
    intro h
    obtain ⟨l, bs, hl, hs⟩ := ih (fun i hi => h i (by omega))
    obtain ⟨r, b, hr⟩ := h n (by omega)
    exact ⟨l ++ [r], bs ++ b, by simp [hl], RusAt.snoc l 0 bs hs (by rw [Nat.zero_add, hl]; exact hr)⟩

end Go.Proofs.Ytegigjnlecpplaa
