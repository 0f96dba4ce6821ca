/- An expression among the arguments: what it reads as. No condition. -/
import Derived.Test.YtegigjnlecpplaaExCopy
import Derived.ProofKit
import Derived.OpenShut
import Derived.Lib.SmallJoins
import Derived.Deep.Fields
namespace Go.Proofs.Ytegigjnlecpplaa
open Go Go.ChangeShapes Go.WideShapes Go.ChangeAt Go.RowKit Go.Deep Go.Joins

theorem exs_of {w : World} {g o : Nat} : ∀ n : Nat, (∀ i, i < n → ∃ e b, ExAt w g (o + i * 3) e b) → ∃ l bs, l.length = n ∧ ExsAt w g o 0 l bs := by
  intro n
  induction n with
  | zero => intro _; exact ⟨[], [], rfl, by rw [ExsAt]⟩
  | succ n ih =>
    intro h
    obtain ⟨l, bs, hl, hs⟩ := ih (fun i hi => h i (by omega))
    obtain ⟨e, b, he⟩ := h n (by omega)
    exact ⟨l ++ [e], bs ++ b, by simp [hl], ExsAt.snoc l 0 bs hs (by rw [Nat.zero_add, hl]; exact he)⟩
theorem add_litO (g o k : Nat) : (⟨g, o, none⟩ : Addr).add k = ⟨g, o + k, none⟩ := by
  unfold Addr.add
  split <;> simp_all
theorem spot_none {w : World} {a : Addr} {v : Value} (h : w.cell? a = some v) : a = ⟨a.block, a.off, none⟩ ∧ a.block < w.heap.size := by
  have hb : a.block < w.heap.size := by
    rcases Nat.lt_or_ge a.block w.heap.size with h' | h'
    · exact h'
    · simp [World.cell?, Array.getElem?_eq_none h'] at h
  refine ⟨?_, hb⟩
  obtain ⟨b, o, s⟩ := a
  cases s with
  | none => rfl
  | some s =>
    simp only [World.cell?] at h
    split at h <;> simp at h
theorem cells3L : Try.prog.cellsOf 3 = 1 := by kernel_rfl
theorem cells9L : Try.prog.cellsOf 9 = 1 := by kernel_rfl
theorem cellsSL : Try.prog.cellsOf 47 = 1 := by kernel_rfl
theorem cellsL : Try.prog.cellsOf 49 = 3 := by kernel_rfl

theorem len_three {α : Type} {l : List α} (h : l.length = 3) : ∃ a b c, l = [a, b, c] := by
  match l, h with
  | [a, b, c], _ => exact ⟨a, b, c, rfl⟩

theorem read_exs {H : Type} {enc : TypeId × Value → H} {w : World} : ∀ (fuel : Nat) (cs : List Value) (x : DataW H × List MemPlace), DataW.trod enc Try.prog w 0 (fun _ => true) true fuel 47 cs = some x → ∃ v l bs, cs = [v] ∧ SlIs w v l bs := by
  intro fuel
  induction fuel using Nat.strongRecOn with
  | _ fuel ih =>
    intro cs x h
    rcases DataW.trod_slice Try.underlying47 h with ⟨rfl, -⟩ | ⟨a, len, cap, elems, rest, n, rfl, rfl, -, -, hl, hm, hlen, hel, -⟩
    · exact ⟨_, [], [], rfl, none, 0, rfl, by simp, by simp, Or.inl ⟨rfl, rfl⟩⟩
    · have hcap : cap ≤ 9223372036854775807 := by unfold maxLen at hm; omega
      by_cases h0 : len = 0
      · subst h0
        exact ⟨_, [], [], rfl, some a, cap, rfl, by simp, hcap, Or.inl ⟨rfl, rfl⟩⟩
      · have elem : ∀ i, i < len → ∃ (v0 v1 v2 : Value) (k : Int) (s : ByteArray) (l : List Ex) (bs : List Nat), w.cell? ((a.add (i * 3)).add 0) = some v0 ∧ w.cell? ((a.add (i * 3)).add 1) = some v1 ∧ w.cell? ((a.add (i * 3)).add 2) = some v2 ∧ v0 = .int .i64 k ∧ v1 = .string s ∧ s.size ≤ 9223372036854775807 ∧ SlIs w v2 l bs := by
          intro i hi
          have hy := hel i hi
          rw [List.getElem?_eq_getElem (by omega), cellsL] at hy
          cases hc : w.cells? 0 (a.add (i * 3)) 3 with
          | none => rw [hc] at hy; simp at hy
          | some cs' =>
            rw [hc] at hy
            simp only [Option.bind_some] at hy
            obtain ⟨_, hcl, hat⟩ := World.cells?_some hc
            obtain ⟨xs, n', rfl, -, -, hxl, hf⟩ := DataW.trod_struct Try.underlying49 hy
            obtain ⟨q0, q1, q2, rfl⟩ := len_three hcl
            have g0 := hf 0 _ rfl
            have g1 := hf 1 _ rfl
            have g2 := hf 2 _ rfl
            obtain ⟨x0, x1, x2, rfl⟩ := len_three hxl
            simp [cells3L, cells9L, cellsSL] at g0 g1 g2
            obtain ⟨k, e0, -, -⟩ := DataW.trod_int Try.underlying3 g0
            obtain ⟨s, e1, -, hs⟩ := DataW.trod_string Try.underlying9 g1
            obtain ⟨v2, l, bs, e2, hs2⟩ := ih n' (by omega) _ _ g2
            simp only [List.cons.injEq, and_true] at e0 e1 e2
            subst e0; subst e1; subst e2
            exact ⟨_, _, _, k, s, l, bs, hat 0 (by omega), hat 1 (by omega), hat 2 (by omega), rfl, rfl, by unfold maxLen at hs; exact hs, hs2⟩
        obtain ⟨v0, _, _, _, _, _, _, c0, -, -, -, -, -, -⟩ := elem 0 (by omega)
        have ha := spot_none (a := a) (by simpa [Addr.add] using c0)
        obtain ⟨ha1, hlt⟩ := ha
        generalize a.block = g at *
        generalize a.off = o at *
        subst ha1
        obtain ⟨l, bs, hl2, hs⟩ := exs_of (w := w) (g := g) (o := o) len (fun i hi => by
          obtain ⟨v0, v1, v2, k, s, l, bs, c0, c1, c2, rfl, rfl, hs, hs2⟩ := elem i hi
          rw [add_litO, add_litO] at c0 c1 c2
          exact ⟨.mk k s l, bs, ExAt.mk (u := v2) c0 c1 c2 ⟨v2, rfl, hs, hs2⟩⟩)
        exact ⟨_, l, g :: bs, rfl, some ⟨g, o, none⟩, cap, by rw [hl2], by omega, hcap, Or.inr ⟨g, o, bs, rfl, hlt, rfl, hs⟩⟩
set_option maxRecDepth 100000 in
/-- An argument that was read as data is an expression in memory. -/
theorem read_ex {H : Type} {enc : TypeId × Value → H} {w : World} {b0 : Nat} {v : Value} {d : DataW H} {p : List MemPlace} (hv : Value.okWide Try.prog w .any b0 49 v) (h : DataW.Trod enc Try.prog w 0 (fun _ => true) true 49 v d p) :
    ∃ e bs, ExIs w v e bs := by
  obtain ⟨v0, v1, v2, y0, y1, y2, n, rfl, -, -, g0, g1, g2⟩ := open_agg3 Try.underlying49 (by kernel_rfl) cellsL hv h
  obtain ⟨k, e0, -, -⟩ := DataW.trod_int Try.underlying3 g0
  obtain ⟨s, e1, -, hs⟩ := DataW.trod_string Try.underlying9 g1
  obtain ⟨v2', l, bs, e2, hs2⟩ := read_exs n _ _ g2
  simp only [List.cons.injEq, and_true] at e0 e1 e2
  subst e0; subst e1; subst e2
  exact ⟨.mk k s l, bs, v2, rfl, by unfold maxLen at hs; exact hs, hs2⟩
end Go.Proofs.Ytegigjnlecpplaa
