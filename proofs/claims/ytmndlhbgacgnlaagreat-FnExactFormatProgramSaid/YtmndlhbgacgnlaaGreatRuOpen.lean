/- A program among the arguments: what it reads as. No condition. -/
import Derived.Test.YtmndlhbgacgnlaaGreatExOpen
import Derived.Test.YtmndlhbgacgnlaaGreatRu
namespace Go.Proofs.YtmndlhbgacgnlaaGreat
open Go Go.ChangeShapes Go.WideShapes Go.ChangeAt Go.RowKit Go.Deep Go.Joins

theorem cellsRL : Tryz.prog.cellsOf 120 = 7 := by kernel_rfl
theorem cellsPL : Tryz.prog.cellsOf 46 = 1 := by kernel_rfl
theorem cellsTL : Tryz.prog.cellsOf 29 = 1 := by kernel_rfl
theorem cellsQL : Tryz.prog.cellsOf 44 = 1 := by kernel_rfl
theorem len_five {α : Type} {l : List α} (h : l.length = 5) : ∃ a b c d e, l = [a, b, c, d, e] := by
  match l, h with
  | [a, b, c, d, e], _ => exact ⟨a, b, c, d, e, rfl⟩
theorem len_seven {α : Type} {l : List α} (h : l.length = 7) : ∃ a b c d e f g, l = [a, b, c, d, e, f, g] := by
  match l, h with
  | [a, b, c, d, e, f, g], _ => exact ⟨a, b, c, d, e, f, g, rfl⟩
theorem len_one {α : Type} {l : List α} (h : l.length = 1) : ∃ a, l = [a] := by
  match l, h with
  | [a], _ => exact ⟨a, rfl⟩
theorem ss_of {w : World} {g o : Nat} : ∀ n : Nat, (∀ i, i < n → ∃ s : ByteArray, w.cell? ⟨g, o + i, none⟩ = some (.string s) ∧ s.size ≤ 9223372036854775807) → ∃ xs : List ByteArray, xs.length = n ∧ (∀ x ∈ xs, x.size ≤ 9223372036854775807) ∧ ∀ i x, xs[i]? = some x → w.cell? ⟨g, o + i, none⟩ = some (.string x) := by
  intro n
  induction n with
  | zero => intro _; exact ⟨[], rfl, fun x h => (by cases h), fun i x h => (by simp at h)⟩
  | succ n ih =>
    intro h
    obtain ⟨xs, hl, hs, hc⟩ := ih (fun i hi => h i (by omega))
    obtain ⟨s, h1, h2⟩ := h n (by omega)
    refine ⟨xs ++ [s], by simp [hl], fun x hx => ?_, fun i x hx => ?_⟩
    · rcases List.mem_append.1 hx with hx | hx
      · exact hs x hx
      · rw [List.mem_singleton] at hx; subst hx; exact h2
    · by_cases hi : i < xs.length
      · rw [List.getElem?_append_left hi] at hx; exact hc i x hx
      · rw [List.getElem?_append_right (by omega)] at hx
        obtain ⟨h3, h4⟩ := List.getElem?_eq_some_iff.1 hx
        simp at h3 h4
        subst h4
        rw [show i = n by omega]; exact h1
theorem read_ss {H : Type} {enc : TypeId × Value → H} {w : World} {fuel : Nat} {cs : List Value} {x : DataW H × List MemPlace} (h : DataW.trod enc Tryz.prog w 0 (fun _ => true) true fuel 29 cs = some x) : ∃ v xs bs, cs = [v] ∧ SsIs w v xs bs := by
  rcases DataW.trod_slice Tryz.underlying29 h with ⟨rfl, -⟩ | ⟨a, len, cap, elems, rest, n, rfl, rfl, -, -, hl, hm, hlen, hel, -⟩
  · exact ⟨_, [], [], rfl, none, 0, rfl, by simp, by simp, fun x h => (by cases h), Or.inl ⟨rfl, rfl⟩⟩
  · have hcap : cap ≤ 9223372036854775807 := by unfold maxLen at hm; omega
    by_cases h0 : len = 0
    · subst h0
      exact ⟨_, [], [], rfl, some a, cap, rfl, by simp, hcap, fun x h => (by cases h), Or.inl ⟨rfl, rfl⟩⟩
    · have elem : ∀ i, i < len → ∃ s : ByteArray, w.cell? ((a.add (i * 1)).add 0) = some (.string s) ∧ s.size ≤ 9223372036854775807 := by
        intro i hi
        have hy := hel i hi
        rw [List.getElem?_eq_getElem (by omega), cells9L] at hy
        cases hc : w.cells? 0 (a.add (i * 1)) 1 with
        | none => rw [hc] at hy; simp at hy
        | some cs' =>
          rw [hc] at hy
          simp only [Option.bind_some] at hy
          obtain ⟨_, hcl, hat⟩ := World.cells?_some hc
          obtain ⟨s, e1, -, hs⟩ := DataW.trod_string Tryz.underlying9 hy
          subst e1
          exact ⟨s, hat 0 (by omega), by unfold maxLen at hs; exact hs⟩
      obtain ⟨s0, c0, -⟩ := elem 0 (by omega)
      have ha := spot_none (a := a) (by simpa [Addr.add] using c0)
      obtain ⟨ha1, hlt⟩ := ha
      generalize a.block = g at *
      generalize a.off = o at *
      subst ha1
      obtain ⟨xs, hl2, hs, hc⟩ := ss_of (w := w) (g := g) (o := o) len (fun i hi => by
        obtain ⟨s, c0, hs⟩ := elem i hi
        rw [add_litO, add_litO, Nat.mul_one, Nat.add_zero] at c0
        exact ⟨s, c0, hs⟩)
      exact ⟨_, xs, [g], rfl, some ⟨g, o, none⟩, cap, by rw [hl2], by omega, hcap, hs, Or.inr ⟨g, o, rfl, hlt, rfl, hc⟩⟩
theorem read_ex3 {H : Type} {enc : TypeId × Value → H} {w : World} {fuel : Nat} {q0 q1 q2 : Value} {x : DataW H × List MemPlace} (h : DataW.trod enc Tryz.prog w 0 (fun _ => true) true fuel 118 [q0, q1, q2] = some x) :
    ∃ (e : Ex) (bs : List Nat), q0 = .int .i64 e.kind ∧ q1 = .string e.name ∧ ExIs w (.agg #[.int .i64 e.kind, .string e.name, q2]) e bs := by
  obtain ⟨xs, n', rfl, -, -, hxl, hf⟩ := DataW.trod_struct Tryz.underlying118 h
  have g0 := hf 0 _ rfl
  have g1 := hf 1 _ rfl
  have g2 := hf 2 _ rfl
  obtain ⟨x0, x1, x2, rfl⟩ := len_three hxl
  simp [cells3L, cells9L, cellsSL] at g0 g1 g2
  obtain ⟨k, e0, -, -⟩ := DataW.trod_int Tryz.underlying3 g0
  obtain ⟨s, e1, -, hs⟩ := DataW.trod_string Tryz.underlying9 g1
  obtain ⟨v2, l, bs, e2, hs2⟩ := read_exs n' _ _ g2
  simp only [List.cons.injEq, and_true] at e0 e1 e2
  subst e0; subst e1; subst e2
  exact ⟨.mk k s l, bs, rfl, rfl, q2, rfl, by unfold maxLen at hs; exact hs, hs2⟩
theorem rus_of {w : World} {g o : Nat} : ∀ n : Nat, (∀ i, i < n → ∃ r b, RuAt w g (o + i * 7) r b) → ∃ l bs, l.length = n ∧ RusAt w g o 0 l bs := by
  intro n
  induction n with
  | zero => intro _; exact ⟨[], [], rfl, rfl⟩
  | succ n ih =>
    intro h
    obtain ⟨l, bs, hl, hs⟩ := ih (fun i hi => h i (by omega))
    obtain ⟨r, b, hr⟩ := h n (by omega)
    exact ⟨l ++ [r], bs ++ b, by simp [hl], RusAt.snoc l 0 bs hs (by rw [Nat.zero_add, hl]; exact hr)⟩

theorem read_rule {H : Type} {enc : TypeId × Value → H} {w : World} {fuel : Nat} {q0 q1 q2 q3 q4 q5 q6 : Value} {x : DataW H × List MemPlace} (h : DataW.trod enc Tryz.prog w 0 (fun _ => true) true fuel 120 [q0, q1, q2, q3, q4, q5, q6] = some x) :
    ∃ (r : Ru) (bs : List Nat), q0 = .string r.name ∧ q1 = .string r.con ∧ q4 = .int .i64 r.body.kind ∧ q5 = .string r.body.name ∧ RuIs w (.agg #[.string r.name, .string r.con, q2, q3, .int .i64 r.body.kind, .string r.body.name, q6]) r bs := by
  obtain ⟨xs, n', rfl, -, -, hxl, hf⟩ := DataW.trod_struct Tryz.underlying120 h
  have g0 := hf 0 _ rfl
  have g1 := hf 1 _ rfl
  have g2 := hf 2 _ rfl
  have g3 := hf 3 _ rfl
  have g4 := hf 4 _ rfl
  obtain ⟨x0, x1, x2, x3, x4, rfl⟩ := len_five hxl
  simp [cells9L, cellsTL, cellsL] at g0 g1 g2 g3 g4
  obtain ⟨s0, e0, -, hs0⟩ := DataW.trod_string Tryz.underlying9 g0
  obtain ⟨s1, e1, -, hs1⟩ := DataW.trod_string Tryz.underlying9 g1
  obtain ⟨v2, l2, b2, e2, h2⟩ := read_ss g2
  obtain ⟨v3, l3, b3, e3, h3⟩ := read_ss g3
  obtain ⟨e, b4, e4, e5, h4⟩ := read_ex3 g4
  simp only [List.cons.injEq, and_true] at e0 e1 e2 e3
  subst e0; subst e1; subst e2; subst e3; subst e4; subst e5
  exact ⟨⟨s0, s1, l2, l3, e⟩, b2 ++ (b3 ++ b4), rfl, rfl, rfl, rfl, q2, q3, q6, b2, b3, b4, rfl, by unfold maxLen at hs0; exact hs0, by unfold maxLen at hs1; exact hs1, rfl, h2, h3, h4⟩
theorem read_rules {H : Type} {enc : TypeId × Value → H} {w : World} {fuel : Nat} {cs : List Value} {x : DataW H × List MemPlace} (h : DataW.trod enc Tryz.prog w 0 (fun _ => true) true fuel 44 cs = some x) : ∃ v l bs, cs = [v] ∧ RsIs w v l bs := by
  rcases DataW.trod_slice Tryz.underlying44 h with ⟨rfl, -⟩ | ⟨a, len, cap, elems, rest, n, rfl, rfl, -, -, hl, hm, hlen, hel, -⟩
  · exact ⟨_, [], [], rfl, none, 0, rfl, by simp, by simp, Or.inl ⟨rfl, rfl⟩⟩
  · have hcap : cap ≤ 9223372036854775807 := by unfold maxLen at hm; omega
    by_cases h0 : len = 0
    · subst h0
      exact ⟨_, [], [], rfl, some a, cap, rfl, by simp, hcap, Or.inl ⟨rfl, rfl⟩⟩
    · have elem : ∀ i, i < len → ∃ (q0 q1 q2 q3 q4 q5 q6 : Value) (r : Ru) (bs : List Nat), (∀ j u, [q0, q1, q2, q3, q4, q5, q6][j]? = some u → w.cell? ((a.add (i * 7)).add j) = some u) ∧ q0 = .string r.name ∧ q1 = .string r.con ∧ q4 = .int .i64 r.body.kind ∧ q5 = .string r.body.name ∧ RuIs w (.agg #[.string r.name, .string r.con, q2, q3, .int .i64 r.body.kind, .string r.body.name, q6]) r bs := by
        intro i hi
        have hy := hel i hi
        rw [List.getElem?_eq_getElem (by omega), cellsRL] at hy
        cases hc : w.cells? 0 (a.add (i * 7)) 7 with
        | none => rw [hc] at hy; simp at hy
        | some cs' =>
          rw [hc] at hy
          simp only [Option.bind_some] at hy
          obtain ⟨_, hcl, hat⟩ := World.cells?_some hc
          obtain ⟨q0, q1, q2, q3, q4, q5, q6, rfl⟩ := len_seven hcl
          obtain ⟨r, bs, e0, e1, e4, e5, hr⟩ := read_rule hy
          refine ⟨q0, q1, q2, q3, q4, q5, q6, r, bs, fun j u hj => ?_, e0, e1, e4, e5, hr⟩
          have hj7 : j < 7 := (List.getElem?_eq_some_iff.1 hj).1
          rw [hat j hj7]; exact hj
      obtain ⟨q0, q1, q2, q3, q4, q5, q6, -, -, c0, -⟩ := elem 0 (by omega)
      have ha := spot_none (a := a) (by simpa [Addr.add] using c0 0 q0 rfl)
      obtain ⟨ha1, hlt⟩ := ha
      clear c0
      generalize a.block = g at *
      generalize a.off = o at *
      subst ha1
      obtain ⟨l, bs, hl2, hs⟩ := rus_of (w := w) (g := g) (o := o) len (fun i hi => by
        obtain ⟨q0, q1, q2, q3, q4, q5, q6, r, bs, c, rfl, rfl, rfl, rfl, hr⟩ := elem i hi
        have cc : ∀ j u, [Value.string r.name, .string r.con, q2, q3, .int .i64 r.body.kind, .string r.body.name, q6][j]? = some u → w.cell? ⟨g, o + i * 7 + j, none⟩ = some u := fun j u hj => by
          have := c j u hj
          rw [add_litO, add_litO] at this
          exact this
        exact ⟨r, bs, q2, q3, q6, ⟨cc 0 _ rfl, cc 1 _ rfl, cc 2 _ rfl, cc 3 _ rfl, cc 4 _ rfl, cc 5 _ rfl, cc 6 _ rfl⟩, hr⟩)
      exact ⟨_, l, g :: bs, rfl, some ⟨g, o, none⟩, cap, by rw [hl2], by omega, hcap, Or.inr ⟨g, o, bs, rfl, hlt, rfl, hs⟩⟩
set_option maxRecDepth 100000 in
/-- An argument that was read as data is a program in memory. -/
theorem read_prog {H : Type} {enc : TypeId × Value → H} {w : World} {b0 : Nat} {v : Value} {d : DataW H} {p : List MemPlace} (hv : Value.okWide Tryz.prog w .any b0 46 v) (h : DataW.Trod enc Tryz.prog w 0 (fun _ => true) true 46 v d p) :
    ∃ l bs, PrIs w v l bs := by
  obtain ⟨cs, rfl, hsz⟩ := okWide_struct Tryz.underlying46 hv
  obtain ⟨c0, rfl⟩ : ∃ c0, cs = #[c0] := by
    obtain ⟨l⟩ := cs
    obtain ⟨a, rfl⟩ := len_one (l := l) (by simpa using hsz.trans cellsPL)
    exact ⟨a, rfl⟩
  obtain ⟨fuel, hf⟩ := h
  obtain ⟨xs, n', rfl, -, -, hxl, hff⟩ := DataW.trod_struct Tryz.underlying46 hf
  have g0 := hff 0 _ rfl
  obtain ⟨x0, rfl⟩ := len_one hxl
  simp [cellsQL, Value.cells] at g0
  obtain ⟨v0, l, bs, e0, h0⟩ := read_rules g0
  simp only [List.cons.injEq, and_true] at e0
  subst e0
  exact ⟨l, bs, _, rfl, h0⟩
end Go.Proofs.YtmndlhbgacgnlaaGreat
