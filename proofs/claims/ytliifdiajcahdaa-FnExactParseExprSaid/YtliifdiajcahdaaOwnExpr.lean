/- The contract of the program's own expr (the parser of expressions). Condition: a text of at most 1048576 bytes. -/
import Derived.Test.YtliifdiajcahdaaOwnArgs
namespace Go.Proofs.Ytliifdiajcahdaa
open Go Go.RowKit

theorem cut_le (l : List UInt8) : (wordCut l).length ≤ l.length := by
  rcases cut_any l with ⟨-, h⟩ | ⟨-, h⟩
  · rw [h]; exact Nat.le_refl _
  · exact h
theorem node_args (x : ByteArray) (o : Bool) : (nodeE x o).1.args = [] := by
  unfold nodeE
  split <;> rfl
theorem node_size (x : ByteArray) (o : Bool) : (nodeE x o).1.name.size ≤ x.size := by
  unfold nodeE
  split
  · exact Nat.zero_le _
  · show (if _ then _ else _ : ByteArray).size ≤ _
    split
    · exact Nat.zero_le _
    · exact Nat.le_refl _
theorem node_pos {x : ByteArray} {o : Bool} (h : (nodeE x o).2 = true) : 1 ≤ x.size := by
  apply Decidable.byContradiction
  intro hh
  have h0 : x.data.toList = [] := List.eq_nil_of_length_eq_zero (by rw [sizeN]; omega)
  unfold nodeE nodeK at h
  rw [h0] at h
  cases h
theorem ex_eta (e : Ex) : e = .mk e.kind e.name e.args := by cases e; rfl

/-- The world where expr has counted its node. -/
def E0 (w : World) (b N : Nat) : World := (w.setCell ⟨b + 2, 0, none⟩ (.int .i64 (N : Int))).alloc (.cells #[.int .i64 0, .string ⟨#[]⟩, .slice none 0 0] 26)
theorem e0_facts {w : World} {b : Nat} {s : ByteArray} {a n : Nat} (h : Env w b s a n) (N : Nat) :
    Fr [b + 1, b + 2] w (E0 w b N) ∧ Env (E0 w b N) b s a N ∧ Bx (E0 w b N) w.heap.size 0 ⟨#[]⟩ (.slice none 0 0) ∧ (E0 w b N).heap.size = w.heap.size + 1 := by
  refine ⟨(Fr.set (S := [b + 1, b + 2]) w ⟨b + 2, 0, none⟩ _ (by simp)).trans (Fr.alloc (S := [b + 1, b + 2]) _ _) (fun x hx => Or.inl hx), (h.cnt N).keep (Fr.alloc (S := []) _ _) (by simp), ?_, by simp [E0, World.setCell]⟩
  have := heap_alloc_new (w.setCell ⟨b + 2, 0, none⟩ (.int .i64 (N : Int))) (.cells #[.int .i64 0, .string ⟨#[]⟩, .slice none 0 0] 26)
  rw [show (w.setCell ⟨b + 2, 0, none⟩ (.int .i64 (N : Int))).heap.size = w.heap.size by simp [World.setCell]] at this
  exact this

theorem nset_fr (W : World) (R : Nat) (K : Int) (S : ByteArray) (u : Value) : Fr [R] W (nset W R K S u) :=
  ((Fr.set (S := [R]) W ⟨R, 0, none⟩ _ (by simp)).trans (Fr.set (S := [R]) _ ⟨R, 1, none⟩ _ (by simp)) (fun x hx => Or.inl hx)).trans (Fr.set (S := [R]) _ ⟨R, 2, none⟩ _ (by simp)) (fun x hx => Or.inl hx)
/-- The word at a place and what stands behind it. -/
theorem fit_at (s : ByteArray) (a : Nat) (ha : a ≤ s.size) : ∃ (X : ByteArray) (P : Nat), X = ⟨(wordCut (rest s a)).toArray⟩ ∧ P = a + (wordCut (rest s a)).length ∧ P ≤ s.size ∧ X.size = P - a ∧
    ∀ k S L t, exAll (.mk k S L) = true → rest s a = exText (.mk k S L) ++ t → Stop t → (hd (rest s P) 40 = false ∧ L = [] ∧ rest s P = t ∧ nodeE X false = (.mk k S [], true)) ∨ (hd (rest s P) 40 = true ∧ rest s (P + 1) = Lib.join (exTexts L) [44] ++ 41 :: t ∧ nodeE X true = (.mk k S [], true)) := by
  have h1 := cut_le (rest s a)
  rw [rest_len] at h1
  refine ⟨_, _, rfl, rfl, by omega, ?_, fun k S L t g1 g2 g3 => ?_⟩
  · show (List.toArray _).size = _
    simp
  · rcases fit_word g1 g2 g3 with ⟨-, q1, q2, q3, q4⟩ | ⟨-, q1, q2, q3⟩
    · rw [rest_drop] at q1 q3
      exact Or.inl ⟨q1, q2, q3, q4⟩
    · rw [rest_drop] at q1
      rw [rest_drop, rest_drop] at q2
      exact Or.inr ⟨q1, q2, q3⟩
section
variable {b : Nat} {s : ByteArray} {a n N P a2 : Nat} {w W w4 : World} {X S : ByteArray} {o ok : Bool} {K : Int}
/-- What is known behind nodeOfWord. -/
structure Eg (b : Nat) (s : ByteArray) (a n : Nat) (w : World) (X : ByteArray) (P N : Nat) (o : Bool) (a2 : Nat) (w4 : World) : Prop where
  fr : Fr [b + 1, b + 2] w w4
  env : Env w4 b s a2 N
  bx : Bx w4 w.heap.size 0 ⟨#[]⟩ (.slice none 0 0)
  lo : a ≤ P
  hi : P ≤ s.size
  sz : X.size = P - a
  cnt : N = n + 1
  at_ : a2 = (if o then P + 1 else P)
  op : hd (rest s P) 40 = o
  fit : ∀ k S L t, exAll (.mk k S L) = true → rest s a = exText (.mk k S L) ++ t → Stop t → (hd (rest s P) 40 = false ∧ L = [] ∧ rest s P = t ∧ nodeE X false = (.mk k S [], true)) ∨ (hd (rest s P) 40 = true ∧ rest s (P + 1) = Lib.join (exTexts L) [44] ++ 41 :: t ∧ nodeE X true = (.mk k S [], true))
theorem Eg.le (h : Eg b s a n w X P N o a2 w4) : a ≤ a2 ∧ a2 ≤ s.size := by
  have h1 := h.lo
  have h2 := h.hi
  rw [h.at_]
  split
  · exact ⟨by omega, rest_lt (c := 40) (by rw [h.op]; assumption)⟩
  · exact ⟨h1, h2⟩
theorem Eg.right (h : Eg b s a n w X P N o a2 w4) : ∀ k S L t, exAll (.mk k S L) = true → rest s a = exText (.mk k S L) ++ t → Stop t → nodeE X o = (.mk k S [], true) := fun k S L t h1 h2 h3 => by
  rcases h.fit k S L t h1 h2 h3 with ⟨q1, -, -, q2⟩ | ⟨q1, -, q2⟩
  · rw [h.op] at q1; subst q1; exact q2
  · rw [h.op] at q1; subst q1; exact q2
/-- It is none, or there are too many. -/
theorem Eg.fail (hb : b + 6 < w.heap.size) (h : Eg b s a n w X P N o a2 w4) (hno : (nodeE X o).2 = false ∨ 80 < N) (ob : Obj) :
    ExprO b s a n w (.returned (.tuple #[.agg #[.int .i64 0, .string ⟨#[]⟩, .slice none 0 0], .bool false])) ((nset w4 w.heap.size 0 ⟨#[]⟩ (.slice none 0 0)).alloc ob) ∧ Bx ((nset w4 w.heap.size 0 ⟨#[]⟩ (.slice none 0 0)).alloc ob) w.heap.size 0 ⟨#[]⟩ (.slice none 0 0) := by
  have hf : Fr [w.heap.size] w4 ((nset w4 w.heap.size 0 ⟨#[]⟩ (.slice none 0 0)).alloc ob) := (nset_fr w4 w.heap.size 0 ⟨#[]⟩ (.slice none 0 0)).trans (Fr.alloc (S := [w.heap.size]) _ _) (fun x hx => Or.inl hx)
  refine ⟨⟨_, zeroEx, [], a2, N, false, rfl, leaf_isN _ (by decide), Mine.nil _ _, h.fr.trans hf (fun x hx => Or.inr (by simp at hx; omega)), h.env.keep hf (fun x hx => by simp at hx; omega), h.le.1, h.le.2, (fun hx => by cases hx), fun e0 t g1 g2 g3 g4 => ?_⟩, (nset_box h.bx 0 ⟨#[]⟩ (.slice none 0 0)).keep (Fr.alloc (S := []) _ _) (by simp)⟩
  exfalso
  cases e0 with
  | mk k S L =>
  have h1 := h.right k S L t g1 g2 g3
  rcases hno with hno | hno
  · rw [h1] at hno; cases hno
  · have := exSize_pos (.mk k S L)
    have := h.cnt
    omega
/-- It is one without parentheses. -/
theorem Eg.plain (hb : b + 6 < w.heap.size) (hs : s.size ≤ 1048576) (h : Eg b s a n w X P N false a2 w4) (hK : nodeE X false = (.mk K S [], true)) (hN : N ≤ 80) (ob : Obj) :
    ExprO b s a n w (.returned (.tuple #[.agg #[.int .i64 K, .string S, .slice none 0 0], .bool true])) ((nset w4 w.heap.size K S (.slice none 0 0)).alloc ob) ∧ Bx ((nset w4 w.heap.size K S (.slice none 0 0)).alloc ob) w.heap.size K S (.slice none 0 0) := by
  have hf : Fr [w.heap.size] w4 ((nset w4 w.heap.size K S (.slice none 0 0)).alloc ob) := (nset_fr w4 w.heap.size K S (.slice none 0 0)).trans (Fr.alloc (S := [w.heap.size]) _ _) (fun x hx => Or.inl hx)
  have h1 := node_size X false
  have h2 := node_pos (x := X) (o := false) (by rw [hK])
  rw [hK] at h1
  have h3 := h.sz
  have h4 := h.hi
  have h5 := h.cnt
  have h6 := h.at_
  simp only [Ex.name] at h1
  have h7 : a2 = P := h6
  refine ⟨⟨_, .mk K S [], [], a2, N, true, rfl, leaf_isN _ (by omega), Mine.nil _ _, h.fr.trans hf (fun x hx => Or.inr (by simp at hx; omega)), h.env.keep hf (fun x hx => by simp at hx; omega), h.le.1, h.le.2, (fun _ => ⟨by omega, hN, by simp [exSize, exSizes]; omega⟩), fun e0 t g1 g2 g3 g4 => ?_⟩, (nset_box h.bx K S (.slice none 0 0)).keep (Fr.alloc (S := []) _ _) (by simp)⟩
  cases e0 with
  | mk k S2 L =>
  rcases h.fit k S2 L t g1 g2 g3 with ⟨-, q1, q2, q3⟩ | ⟨q1, -⟩
  · rw [hK] at q3
    obtain ⟨q4, -⟩ := Prod.mk.inj q3
    subst q1
    refine ⟨rfl, q4, by rw [h7]; exact q2, ?_⟩
    simp [exSize, exSizes]
    omega
  · rw [h.op] at q1; cases q1
/-- It is one with parentheses. -/
theorem Eg.call {w6 : World} {v : Value} {l : List Ex} {bs : List Nat} {a3 n3 : Nat} (hb : b + 6 < w.heap.size) (hs : s.size ≤ 1048576) (h : Eg b s a n w X P N true a2 w4) (hK : nodeE X true = (.mk K S [], true))
    (hl : SlIs w6 v l bs) (hm : Mine w6 (w4.alloc (.cells #[.int .i64 K, .string S, .slice none 0 0] 26)).heap.size bs) (hf : Fr [b + 1, b + 2] (w4.alloc (.cells #[.int .i64 K, .string S, .slice none 0 0] 26)) w6) (he : Env w6 b s a3 n3) (h1 : a2 ≤ a3) (h2 : a3 ≤ s.size) (h3 : ok = true → n3 ≤ 80 ∧ exSizes l + N ≤ n3) (hg : FitsL s a2 N l a3 n3 ok) :
    ExprO b s a n w (.returned (.tuple #[.agg #[.int .i64 K, .string S, v], .bool ok])) (nset (w6.setCell ⟨w4.heap.size, 2, none⟩ v) w.heap.size K S v) ∧ Bx (nset (w6.setCell ⟨w4.heap.size, 2, none⟩ v) w.heap.size K S v) w.heap.size K S v := by
  have hR := h.bx.cells.2.2.2
  have hbx : Bx w6 w.heap.size 0 ⟨#[]⟩ (.slice none 0 0) := (h.bx.keep (Fr.alloc (S := []) _ _) (by simp)).keep hf (by simp; omega)
  have hf2 : Fr [w4.heap.size, w.heap.size] w6 (nset (w6.setCell ⟨w4.heap.size, 2, none⟩ v) w.heap.size K S v) :=
    (Fr.set (S := [w4.heap.size, w.heap.size]) w6 ⟨w4.heap.size, 2, none⟩ v (by simp)).trans (nset_fr _ _ _ _ _) (fun x hx => Or.inl (by simp at hx; simp [hx]))
  have hk : Keeps w6 (nset (w6.setCell ⟨w4.heap.size, 2, none⟩ v) w.heap.size K S v) bs := ⟨hf2.size, fun x hx hlt => hf2.block x hlt (fun hh => by
    have := (hm.range x hx).1
    simp at hh this
    omega)⟩
  have g1 := node_size X true
  have g2 := node_pos (x := X) (o := true) (by rw [hK])
  rw [hK] at g1
  have g3 := h.sz
  have g4 := h.hi
  have g5 := h.cnt
  have g6 := h.at_
  simp only [Ex.name] at g1
  have g7 : a2 = P + 1 := g6
  have g8 := h.lo
  refine ⟨⟨_, .mk K S l, bs, a3, n3, ok, rfl, ⟨v, rfl, by simp only [Ex.name]; omega, hl.keeps hk⟩, (hm.keeps hk).mono (by simp; omega), ((h.fr.trans (Fr.alloc (S := [b + 1, b + 2]) _ _) (fun x hx => Or.inl hx)).trans hf (fun x hx => Or.inl hx)).trans hf2 (fun x hx => Or.inr (by simp at hx; omega)), he.keep hf2 (fun x hx => by simp at hx; omega), by omega, h2, (fun hk => ⟨by omega, (h3 hk).1, by have := (h3 hk).2; rw [exSize]; omega⟩), fun e0 t q1 q2 q3 q4 => ?_⟩, ?_⟩
  · cases e0 with
    | mk k S2 L =>
    rcases h.fit k S2 L t q1 q2 q3 with ⟨r1, -⟩ | ⟨-, r1, r2⟩
    · rw [h.op] at r1; cases r1
    · rw [hK] at r2
      obtain ⟨r4, -⟩ := Prod.mk.inj r2
      obtain ⟨rfl, rfl, -⟩ := Ex.mk.inj r4
      rw [exAll, Bool.and_eq_true] at q1
      rw [exSize] at q4
      obtain ⟨p1, rfl, p3, p4⟩ := hg L t q1.1 (by rw [g7]; exact r1) (by omega)
      exact ⟨p1, rfl, p3, by rw [exSize]; omega⟩
  · exact nset_box (w := w) (hbx.far (p := ⟨w4.heap.size, 2, none⟩) (v := v) (by show w.heap.size ≠ w4.heap.size; omega)) K S v
end

set_option maxHeartbeats 4000000 in
theorem expr_step (b : Nat) (s : ByteArray) (hs : s.size ≤ 1048576) (k : Nat)
    (ih : ∀ (a n : Nat) (W : World), Env W b s a n → a ≤ s.size → n ≤ 80 → 80 - n < k → Calls Try.prog 75 #[ptr (b + 3), ptr (b + 5)] W (ArgsO b s a n W))
    (a n : Nat) (w : World) (h : Env w b s a n) (ha : a ≤ s.size) (hn : n ≤ 80) (hk : 80 - n ≤ k) :
    Calls Try.prog 76 #[ptr (b + 2), ptr (b + 4), ptr (b + 3), ptr (b + 6)] w (ExprO b s a n w) := by
  obtain ⟨N, hN⟩ : ∃ N, N = n + 1 := ⟨_, rfl⟩
  have hadd : IntKind.i64.wrap ((n : Int) + 1) = (N : Int) := by rw [hN]; exact IntWalk.i64_in _ (by omega)
  have HIH := Lib.hid ih
  have HN := Lib.hid hN
  have hbw := h.lt
  have n1 := h.nb.cell
  have n2 := h.nb.frozen
  have n3 := h.nb.lt
  obtain ⟨f0, v0, x0, z0⟩ := e0_facts h N
  have HF0 := Lib.hid f0
  have HX0 := Lib.hid x0
  have HZ0 := Lib.hid z0
  have e4 : (E0 w b N).cell? ⟨b + 4, 0, none⟩ = some _ := v0.wb.cell
  have HW := Lib.hid (own_word b s a N (E0 w b N) v0 ha hs)
  clear f0 v0 x0 z0 ih hN h
  obtain ⟨X, P, hX, hP, hPs, hXs, hfit⟩ := fit_at s a ha
  have haP : a ≤ P := by omega
  unfold WordO at HW
  rw [← hX, ← hP] at HW
  have HFIT := Lib.hid hfit
  clear hX hP hfit
  unfold E0 at e4
  go_enter Try.func76, Try.ntmps76
  go_wp2_with fail
  go_at_call 73
  refine HW.out.mono ?_
  rintro r w2 ⟨rfl, hf2, hr2⟩
  have HF2 := Lib.hid (HF0.out.trans hf2 (fun x hx => Or.inl (by simp at hx; simp [hx])))
  have HX2 := Lib.hid (HX0.out.keep hf2 (by simp; omega))
  have t2 := hr2.tb.cell
  have HT := Lib.hid (own_take b s P N 40 40 rfl w2 hr2 hPs hs)
  clear hf2 hr2 HW HF0 HX0 e4
  go_wp2_with fail
  go_at_call 72
  refine HT.out.mono ?_
  rintro r w3 ⟨rfl, hf3, hr3⟩
  have HF3 := Lib.hid (HF2.out.trans hf3 (fun x hx => Or.inl (by simp at hx; simp [hx])))
  have HX3 := Lib.hid (HX2.out.keep hf3 (by simp; omega))
  obtain ⟨o, ho⟩ : ∃ o, hd (rest s P) 40 = o := ⟨_, rfl⟩
  rw [ho] at hr3 ⊢
  have HO := Lib.hid ho
  have HR3 := Lib.hid hr3
  have HND := Lib.hid (own_node X o w3)
  clear hf3 hr3 ho HT HF2 HX2 t2
  go_wp2_with fail
  go_at_call 77
  refine HND.out.mono ?_
  rintro r w4 ⟨rfl, hb4⟩
  have HE := Lib.hid (show Eg b s a n w X P N o _ w4 from ⟨HF3.out.trans (Fr.of_below (S := [b + 1, b + 2]) hb4) (fun x hx => Or.inl hx), HR3.out.below hb4, HX3.out.keep (Fr.of_below (S := []) hb4) (by simp), haP, hPs, hXs, HN.out, rfl, HO.out, HFIT.out⟩)
  obtain ⟨q0, q1, q2, q3⟩ := HE.out.bx.cells
  have g0 := HE.out.bx.thaw 0
  have g1 := HE.out.bx.thaw 1
  have g2 := HE.out.bx.thaw 2
  have m1 := HE.out.env.nb.cell
  have m3 := HE.out.env.nb.lt
  have HNA := Lib.hid (node_args X o)
  clear hb4 HND HF3 HX3 HR3
  obtain ⟨y, hy⟩ : ∃ y, nodeE X o = y := ⟨_, rfl⟩
  rw [hy] at HNA ⊢
  have HY := Lib.hid hy
  clear hy
  obtain ⟨e1, ok⟩ := y
  cases e1 with
  | mk K S L0 =>
  obtain rfl : L0 = [] := HNA.out
  clear HNA
  simp only [Ex.kind, Ex.name]
  cases ok
  · obtain ⟨d1, d2⟩ := HE.out.fail hbw (Or.inl (by rw [HY.out])) (.cells #[.int .i64 K, .string S, .slice none 0 0] 26)
    obtain ⟨r0, r1, r2, -⟩ := d2.cells
    have HD := Lib.hid d1
    unfold nset at r0 r1 r2 HD
    clear d1 d2
    go_wp2_with fail
    refine bodyPost_ret (v := .tuple #[.agg #[.int .i64 0, .string ⟨#[]⟩, .slice none 0 0], .bool false]) (by simp [results, Try.results76, go_sem, r0, r1, r2]) rfl ?_
    exact HD.out
  · by_cases h80 : 80 < N
    · have h80i : 80 < (N : Int) := by omega
      obtain ⟨d1, d2⟩ := HE.out.fail hbw (Or.inr h80) (.cells #[.int .i64 K, .string S, .slice none 0 0] 26)
      obtain ⟨r0, r1, r2, -⟩ := d2.cells
      have HD := Lib.hid d1
      unfold nset at r0 r1 r2 HD
      clear d1 d2
      go_wp2_with fail
      refine bodyPost_ret (v := .tuple #[.agg #[.int .i64 0, .string ⟨#[]⟩, .slice none 0 0], .bool false]) (by simp [results, Try.results76, go_sem, r0, r1, r2]) rfl ?_
      exact HD.out
    · have h80i : ¬ 80 < (N : Int) := by omega
      have h80j : (N : Int) ≤ 80 := by omega
      cases o
      · obtain ⟨d1, d2⟩ := HE.out.plain hbw hs HY.out (by omega) (.cells #[.int .i64 K, .string S, .slice none 0 0] 26)
        obtain ⟨r0, r1, r2, -⟩ := d2.cells
        have HD := Lib.hid d1
        unfold nset at r0 r1 r2 HD
        clear d1 d2
        go_wp2_with fail
        refine bodyPost_ret (v := .tuple #[.agg #[.int .i64 K, .string S, .slice none 0 0], .bool true]) (by simp [results, Try.results76, go_sem, r0, r1, r2]) rfl ?_
        exact HD.out
      · obtain ⟨w5, hw5⟩ : ∃ w5, w5 = w4.alloc (.cells #[.int .i64 K, .string S, .slice none 0 0] 26) := ⟨_, rfl⟩
        have a1 := HE.out.env.ab.cell
        have a3 := HE.out.env.ab.lt
        have henv5 : Env w5 b s (P + 1) N := by rw [hw5]; exact HE.out.env.keep (Fr.alloc (S := []) _ _) (by simp)
        have HCALL := Lib.hid (HIH.out (P + 1) N w5 henv5 (by have := HE.out.le.2; exact this) (by omega) (by have := HN.out; omega))
        have hbx5 : Bx w5 w4.heap.size K S (.slice none 0 0) := by rw [hw5]; exact heap_alloc_new _ _
        have HBX5 := Lib.hid hbx5
        have hRX := (HE.out.bx.keep (Fr.alloc (S := []) w4 (.cells #[.int .i64 K, .string S, .slice none 0 0] 26)) (by simp))
        rw [← hw5] at hRX
        have HRX := Lib.hid hRX
        have HW5 := Lib.hid hw5
        clear henv5 hbx5 hRX
        go_wp2_with fail
        rw [← HW5.out]
        go_at_call 75
        refine HCALL.out.mono ?_
        rintro r w6 ⟨v, l, bs, a3, n3, ok, rfl, hl, hm, hf, he, h1, h2, h3, hg⟩
        obtain ⟨A2, c2, rfl, -⟩ := id hl
        obtain ⟨d1, d2⟩ := HE.out.call hbw hs HY.out hl (by rw [← HW5.out]; exact hm) (by rw [← HW5.out]; exact hf) he h1 h2 h3 hg
        have hb6 := HBX5.out.keep hf (by have := HE.out.bx.cells.2.2.2; simp; omega)
        obtain ⟨p0, p1, p2, p3⟩ := hb6.cells
        have f2 := hb6.thaw 2
        have hr6 := HRX.out.keep hf (by simp; omega)
        obtain ⟨u0, u1, u2, u3⟩ := hr6.cells
        have v0 := hr6.thaw 0
        have v1 := hr6.thaw 1
        have v2 := hr6.thaw 2
        obtain ⟨r0, r1, r2, -⟩ := d2.cells
        have HD := Lib.hid d1
        have hne : ¬ w.heap.size = w4.heap.size := by have := HE.out.bx.cells.2.2.2; omega
        have hne2 : ¬ w4.heap.size = w.heap.size := fun hh => hne hh.symm
        unfold nset at r0 r1 r2 HD
        clear d1 d2 hl hm hf he h1 h2 h3 hg hb6 hr6 a1 a3 m1 m3 q0 q1 q2 q3 g0 g1 g2 HRX HBX5 HW5 HCALL HY HE
        generalize w4.heap.size = E at *
        generalize w.heap.size = R at *
        generalize l.length = p at *
        go_wp2_with fail
        refine bodyPost_ret (v := .tuple #[.agg #[.int .i64 K, .string S, .slice A2 p c2], .bool ok]) (by simp [results, Try.results76, go_sem, r0, r1, r2]) rfl ?_
        exact HD.out

theorem expr_all (b : Nat) (s : ByteArray) (hs : s.size ≤ 1048576) : ∀ k, ExprC b s k := by
  intro k
  induction k with
  | zero => exact fun a n W h ha hn hk => expr_step b s hs 0 (fun _ _ _ _ _ _ hlt => absurd hlt (Nat.not_lt_zero _)) a n W h ha hn hk
  | succ k ih => exact fun a n W h ha hn hk => expr_step b s hs (k + 1) (fun a n W h ha hn hlt => own_pargs b s hs k ih a n W h ha hn (by omega)) a n W h ha hn hk
end Go.Proofs.Ytliifdiajcahdaa
