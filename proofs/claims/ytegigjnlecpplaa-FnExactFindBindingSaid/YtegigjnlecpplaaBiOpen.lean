/- Bindings among the arguments: what they read as. No condition. -/
import Derived.Test.YtegigjnlecpplaaRuOpen
import Derived.Test.YtegigjnlecpplaaBi
namespace Go.Proofs.Ytegigjnlecpplaa
open Go Go.ChangeShapes Go.WideShapes Go.ChangeAt Go.RowKit Go.Deep Go.Joins

theorem cellsBL : Try.prog.cellsOf 87 = 4 := by kernel_rfl
theorem len_two {α : Type} {l : List α} (h : l.length = 2) : ∃ a b, l = [a, b] := by
  match l, h with
  | [a, b], _ => exact ⟨a, b, rfl⟩
theorem len_four {α : Type} {l : List α} (h : l.length = 4) : ∃ a b c d, l = [a, b, c, d] := by
  match l, h with
  | [a, b, c, d], _ => exact ⟨a, b, c, d, rfl⟩
theorem bis_of {w : World} {g o : Nat} : ∀ n : Nat, (∀ i, i < n → ∃ r b, BiAt w g (o + i * 4) r b) → ∃ l bs, l.length = n ∧ BisAt w g o 0 l bs := by
  intro n
  induction n with
  | zero => intro _; exact ⟨[], [], rfl, rfl⟩
  | succ n ih =>
    intro h
    obtain ⟨l, bs, hl, hs⟩ := ih (fun i hi => h i (by omega))
    obtain ⟨r, b, hr⟩ := h n (by omega)
    exact ⟨l ++ [r], bs ++ b, by simp [hl], BisAt.snoc l 0 bs hs (by rw [Nat.zero_add, hl]; exact hr)⟩
theorem read_bind {H : Type} {enc : TypeId × Value → H} {w : World} {fuel : Nat} {q0 q1 q2 q3 : Value} {x : DataW H × List MemPlace} (h : DataW.trod enc Try.prog w 0 (fun _ => true) true fuel 87 [q0, q1, q2, q3] = some x) :
    ∃ (r : Bi) (bs : List Nat), q0 = .string r.name ∧ q1 = .int .i64 r.val.kind ∧ q2 = .string r.val.name ∧ BiIs w (.agg #[.string r.name, .int .i64 r.val.kind, .string r.val.name, q3]) r bs := by
  obtain ⟨xs, n', rfl, -, -, hxl, hf⟩ := DataW.trod_struct Try.underlying87 h
  have g0 := hf 0 _ rfl
  have g1 := hf 1 _ rfl
  obtain ⟨x0, x1, rfl⟩ := len_two hxl
  simp [cells9L, cellsL] at g0 g1
  obtain ⟨s0, e0, -, hs0⟩ := DataW.trod_string Try.underlying9 g0
  obtain ⟨e, b4, e4, e5, h4⟩ := read_ex3 g1
  simp only [List.cons.injEq, and_true] at e0
  subst e0; subst e4; subst e5
  exact ⟨⟨s0, e⟩, b4, rfl, rfl, rfl, q3, rfl, by unfold maxLen at hs0; exact hs0, h4⟩
theorem read_binds0 {H : Type} {enc : TypeId × Value → H} {w : World} {fuel : Nat} {cs : List Value} {x : DataW H × List MemPlace} (h : DataW.trod enc Try.prog w 0 (fun _ => true) true fuel 41 cs = some x) : ∃ v l bs, cs = [v] ∧ BlIs w v l bs := by
  rcases DataW.trod_slice Try.underlying41 h with ⟨rfl, -⟩ | ⟨a, len, cap, elems, rest, n, rfl, rfl, -, -, hl, hm, hlen, hel, -⟩
  · exact ⟨_, [], [], rfl, none, 0, rfl, by simp, by simp, Or.inl ⟨rfl, rfl⟩⟩
  · have hcap : cap ≤ 9223372036854775807 := by unfold maxLen at hm; omega
    by_cases h0 : len = 0
    · subst h0
      exact ⟨_, [], [], rfl, some a, cap, rfl, by simp, hcap, Or.inl ⟨rfl, rfl⟩⟩
    · have elem : ∀ i, i < len → ∃ (q0 q1 q2 q3 : Value) (r : Bi) (bs : List Nat), (∀ j u, [q0, q1, q2, q3][j]? = some u → w.cell? ((a.add (i * 4)).add j) = some u) ∧ q0 = .string r.name ∧ q1 = .int .i64 r.val.kind ∧ q2 = .string r.val.name ∧ BiIs w (.agg #[.string r.name, .int .i64 r.val.kind, .string r.val.name, q3]) r bs := by
        intro i hi
        have hy := hel i hi
        rw [List.getElem?_eq_getElem (by omega), cellsBL] at hy
        cases hc : w.cells? 0 (a.add (i * 4)) 4 with
        | none => rw [hc] at hy; simp at hy
        | some cs' =>
          rw [hc] at hy
          simp only [Option.bind_some] at hy
          obtain ⟨_, hcl, hat⟩ := World.cells?_some hc
          obtain ⟨q0, q1, q2, q3, rfl⟩ := len_four hcl
          obtain ⟨r, bs, e0, e1, e2, hr⟩ := read_bind hy
          refine ⟨q0, q1, q2, q3, r, bs, fun j u hj => ?_, e0, e1, e2, hr⟩
          have hj4 : j < 4 := (List.getElem?_eq_some_iff.1 hj).1
          rw [hat j hj4]; exact hj
      obtain ⟨q0, q1, q2, q3, -, -, c0, -⟩ := elem 0 (by omega)
      have ha := spot_none (a := a) (by simpa [Addr.add] using c0 0 q0 rfl)
      obtain ⟨ha1, hlt⟩ := ha
      clear c0
      generalize a.block = g at *
      generalize a.off = o at *
      subst ha1
      obtain ⟨l, bs, hl2, hs⟩ := bis_of (w := w) (g := g) (o := o) len (fun i hi => by
        obtain ⟨q0, q1, q2, q3, r, bs, c, rfl, rfl, rfl, hr⟩ := elem i hi
        have cc : ∀ j u, [Value.string r.name, .int .i64 r.val.kind, .string r.val.name, q3][j]? = some u → w.cell? ⟨g, o + i * 4 + j, none⟩ = some u := fun j u hj => by
          have := c j u hj
          rw [add_litO, add_litO] at this
          exact this
        exact ⟨r, bs, q3, ⟨cc 0 _ rfl, cc 1 _ rfl, cc 2 _ rfl, cc 3 _ rfl⟩, hr⟩)
      exact ⟨_, l, g :: bs, rfl, some ⟨g, o, none⟩, cap, by rw [hl2], by omega, hcap, Or.inr ⟨g, o, bs, rfl, hlt, rfl, hs⟩⟩
set_option maxRecDepth 100000 in
/-- An argument that was read as data is a list of bindings in memory. -/
theorem read_binds {H : Type} {enc : TypeId × Value → H} {w : World} {b0 : Nat} {v : Value} {d : DataW H} {p : List MemPlace} (hv : Value.okWide Try.prog w .any b0 41 v) (h : DataW.Trod enc Try.prog w 0 (fun _ => true) true 41 v d p) :
    ∃ l bs, BlIs w v l bs := by
  obtain ⟨a0, len, cap, rfl⟩ := okWide_slice Try.underlying41 hv
  obtain ⟨fuel, hf⟩ := h
  simp [Value.cells] at hf
  obtain ⟨v0, l, bs, e0, h0⟩ := read_binds0 hf
  simp only [List.cons.injEq, and_true] at e0
  subst e0
  exact ⟨l, bs, h0⟩
end Go.Proofs.Ytegigjnlecpplaa
