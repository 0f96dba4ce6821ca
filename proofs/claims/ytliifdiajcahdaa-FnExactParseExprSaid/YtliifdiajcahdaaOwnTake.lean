/- The contracts of the program's own take, word and nodeOfWord (the parser of expressions). Condition: a text of at most 1048576 bytes. -/
import Derived.Test.YtliifdiajcahdaaSpecNode
import Derived.Test.YtliifdiajcahdaaOwnAny
namespace Go.Proofs.Ytliifdiajcahdaa
open Go Go.RowKit

abbrev ptr (b : Nat) : Value := .pointer (some ⟨b, 0, none⟩)
/-- The blocks from b on are the variables of a parser of s that stands before byte a and has counted n nodes. -/
structure Env (W : World) (b : Nat) (s : ByteArray) (a n : Nat) : Prop where
  sb : Boxed W b 9 (.string s)
  pb : Boxed W (b + 1) 3 (.int .i64 (a : Int))
  nb : Boxed W (b + 2) 3 (.int .i64 (n : Int))
  tb : Boxed W (b + 3) 122 (.func (.func 72) #[] #[ptr (b + 1), ptr b])
  wb : Boxed W (b + 4) 124 (.func (.func 73) #[] #[ptr b, ptr (b + 1)])
  eb : Boxed W (b + 5) 66 (.func (.func 76) #[] #[ptr (b + 2), ptr (b + 4), ptr (b + 3), ptr (b + 6)])
  ab : Boxed W (b + 6) 125 (.func (.func 75) #[] #[ptr (b + 3), ptr (b + 5)])
section
variable {W W2 : World} {b : Nat} {s : ByteArray} {a n : Nat}
theorem Env.lt (h : Env W b s a n) : b + 6 < W.heap.size := h.ab.lt
theorem Env.keep {S : List Nat} (h : Env W b s a n) (hf : Fr S W W2) (hS : ∀ x ∈ S, x < b ∨ b + 6 < x) : Env W2 b s a n := by
  have k : ∀ i, i ≤ 6 → W2.heap[b + i]? = W.heap[b + i]? := fun i hi => hf.block (b + i) (by have := h.lt; omega) (fun hx => by have := hS _ hx; omega)
  exact ⟨box_on h.sb (k 0 (by omega)), box_on h.pb (k 1 (by omega)), box_on h.nb (k 2 (by omega)), box_on h.tb (k 3 (by omega)), box_on h.wb (k 4 (by omega)), box_on h.eb (k 5 (by omega)), box_on h.ab (k 6 (by omega))⟩
theorem Env.below (h : Env W b s a n) (hb : Below W.heap.size W W2) : Env W2 b s a n := h.keep (S := []) (Fr.of_below hb) (by simp)
theorem Env.pos (h : Env W b s a n) (k : Nat) : Env (W.setCell ⟨b + 1, 0, none⟩ (.int .i64 (k : Int))) b s k n :=
  ⟨h.sb.other (by omega) _, h.pb.set _, h.nb.other (by omega) _, h.tb.other (by omega) _, h.wb.other (by omega) _, h.eb.other (by omega) _, h.ab.other (by omega) _⟩
theorem Env.cnt (h : Env W b s a n) (k : Nat) : Env (W.setCell ⟨b + 2, 0, none⟩ (.int .i64 (k : Int))) b s a k :=
  ⟨h.sb.other (by omega) _, h.pb.other (by omega) _, h.nb.set _, h.tb.other (by omega) _, h.wb.other (by omega) _, h.eb.other (by omega) _, h.ab.other (by omega) _⟩
end

def TakeO (b : Nat) (s : ByteArray) (a n : Nat) (c : UInt8) (w : World) (r : Ending) (w2 : World) : Prop :=
  r = .returned (.bool (hd (rest s a) c)) ∧ Fr [b + 1] w w2 ∧ Env w2 b s (if hd (rest s a) c then a + 1 else a) n
theorem hd_at (s : ByteArray) (a : Nat) (c : UInt8) (h : a < s.size) : hd (rest s a) c = (s[a] == c) := by
  rw [hd, rest, List.head?_drop, Lib.data_getElem? s a h]
  rfl
theorem hd_end (s : ByteArray) (a : Nat) (c : UInt8) (h : s.size ≤ a) : hd (rest s a) c = false := by
  rw [hd, rest, List.head?_drop, List.getElem?_eq_none (by rw [sizeN]; omega)]; rfl

set_option maxHeartbeats 1000000 in
theorem own_take (b : Nat) (s : ByteArray) (a n : Nat) (c : UInt8) (C : Int) (hC : (c.toNat : Int) = C) (w : World) (h : Env w b s a n) (ha : a ≤ s.size) (hs : s.size ≤ 1048576) :
    Calls Try.prog 72 #[.int .u8 C, ptr (b + 1), ptr b] w (TakeO b s a n c w) := by
  have s1 := h.sb.cell
  have p1 := h.pb.cell
  have p2 := h.pb.frozen
  have p3 := h.pb.lt
  have HE := Lib.hid h
  by_cases hlt : a < s.size
  · have h1 : (a : Int) < (s.size : Int) := by omega
    have h0 : (0 : Int) ≤ (a : Int) := by omega
    have hw : IntKind.i64.wrap ((a : Int) + 1) = (a : Int) + 1 := IntWalk.i64_in _ (by omega)
    have HD := Lib.hid (hd_at s a c hlt)
    by_cases hx : s[a] = c
    · have HX := Lib.hid (show hd (rest s a) c = true by rw [HD.out]; simp [hx])
      have he : ((s[a].toNat : Int) == C) = true := by rw [hx, hC]; simp
      clear h hx
      go_enter Try.func72, Try.ntmps72
      go_wp2
      go_ret
      refine ⟨by rw [HX.out]; rfl, Fr.set _ _ _ (by simp), ?_⟩
      rw [HX.out]
      exact HE.out.pos (a + 1)
    · have HX := Lib.hid (show hd (rest s a) c = false by rw [HD.out]; simpa using hx)
      have he : ((s[a].toNat : Int) == C) = false := by
        rw [← hC]
        simp only [beq_eq_false_iff_ne, ne_eq]
        intro hh
        exact hx (UInt8.toNat_inj.1 (by omega))
      clear h hx
      go_enter Try.func72, Try.ntmps72
      go_wp2
      go_ret
      exact ⟨by rw [HX.out]; rfl, Fr.refl _ _, by rw [HX.out]; exact HE.out⟩
  · have HX := Lib.hid (hd_end s a c (by omega))
    have h1 : ¬ (a : Int) < (s.size : Int) := by omega
    clear h
    go_enter Try.func72, Try.ntmps72
    go_wp2
    go_ret
    exact ⟨by rw [HX.out]; rfl, Fr.refl _ _, by rw [HX.out]; exact HE.out⟩

/-- The bytes up to the next parenthesis or comma. -/
def wordCut (l : List UInt8) : List UInt8 := l.takeWhile (fun c => !([40, 41, 44] : List UInt8).contains c)
theorem cut_any : ∀ l : List UInt8, (Lib.indexAny l [40, 41, 44] = -1 ∧ wordCut l = l) ∨ (Lib.indexAny l [40, 41, 44] = ((wordCut l).length : Int) ∧ (wordCut l).length ≤ l.length) := by
  intro l
  induction l with
  | nil => exact Or.inl ⟨rfl, rfl⟩
  | cons x r ih =>
    cases hc : ([40, 41, 44] : List UInt8).contains x with
    | true =>
      have h : wordCut (x :: r) = [] := by rw [wordCut, List.takeWhile_cons, hc]; rfl
      refine Or.inr ⟨by rw [h, Lib.indexAny, if_pos hc, List.length_nil]; rfl, by rw [h]; exact Nat.zero_le _⟩
    | false =>
      have h : wordCut (x :: r) = x :: wordCut r := by rw [wordCut, List.takeWhile_cons, hc]; rfl
      rcases ih with ⟨h1, h2⟩ | ⟨h1, h2⟩
      · exact Or.inl ⟨by rw [Lib.indexAny, hc, h1]; rfl, by rw [h, h2]⟩
      · refine Or.inr ⟨?_, by rw [h, List.length_cons, List.length_cons]; omega⟩
        rw [Lib.indexAny, hc, h1, h]
        have hne : ¬ (((wordCut r).length : Int) == -1) = true := by intro hh; have := beq_iff_eq.1 hh; omega
        simp only [Bool.false_eq_true, if_false]
        rw [if_neg hne, List.length_cons]
        push_cast
        rfl
theorem cut_take (l : List UInt8) : wordCut l = l.take (wordCut l).length := by
  induction l with
  | nil => rfl
  | cons x r ih =>
    rw [wordCut, List.takeWhile_cons]
    split
    · rw [List.length_cons, List.take_succ_cons]
      congr 1
    · rfl
def WordO (b : Nat) (s : ByteArray) (a n : Nat) (w : World) (r : Ending) (w2 : World) : Prop :=
  r = .returned (.string ⟨(wordCut (rest s a)).toArray⟩) ∧ Fr [b + 1] w w2 ∧ Env w2 b s (a + (wordCut (rest s a)).length) n

set_option maxRecDepth 100000 in
set_option maxHeartbeats 1000000 in
theorem own_word (b : Nat) (s : ByteArray) (a n : Nat) (w : World) (h : Env w b s a n) (ha : a ≤ s.size) (hs : s.size ≤ 1048576) :
    Calls Try.prog 73 #[ptr b, ptr (b + 1)] w (WordO b s a n w) := by
  have s1 := h.sb.cell
  have p1 := h.pb.cell
  have HE := Lib.hid h
  have h0 : (0 : Int) ≤ (a : Int) := by omega
  have h1 : (a : Int) ≤ (s.size : Int) := by omega
  obtain ⟨R, hR⟩ : ∃ R, R = s.extract a s.size := ⟨_, rfl⟩
  have hRl : R.data.toList = rest s a := by
    rw [hR, cut_list, rest]
    exact List.take_of_length_le (by rw [List.length_drop, sizeN]; omega)
  have hRs : R.size = s.size - a := by rw [← sizeN, hRl, rest_len]
  have HA := Lib.hid (fun (W : World) => any_ascii R ⟨#[40, 41, 44]⟩ W (by decide) (by decide) (by omega) (by
    intro j hj
    have hj3 : j < 3 := hj
    match j, hj3 with
    | 0, _ => show (40 : UInt8).toNat < 128; decide
    | 1, _ => show (41 : UInt8).toNat < 128; decide
    | 2, _ => show (44 : UInt8).toNat < 128; decide))
  have hsl : (Instr.slice 9 (.string s) (some (.int .i64 (a : Int))) none none).run Try.prog w = .ok (.string R) w := by
    rw [hR]; exact run_slice_string_l w _ s Try.underlying9 .i64 (a : Int) h0 h1
  rcases cut_any (rest s a) with ⟨e1, e2⟩ | ⟨e1, e2⟩
  · have HW := Lib.hid (show (⟨(wordCut (rest s a)).toArray⟩ : ByteArray) = R ∧ (wordCut (rest s a)).length = R.size by
      constructor
      · rw [e2, ← hRl]
      · rw [e2, ← hRl, sizeN])
    have hadd : IntKind.i64.wrap ((a : Int) + (R.size : Int)) = ((a + R.size : Nat) : Int) := by rw [← Int.natCast_add]; exact IntWalk.i64_in _ (by omega)
    unfold AnyPost at HA
    rw [show (⟨#[40, 41, 44]⟩ : ByteArray).data.toList = [40, 41, 44] from rfl, hRl, e1] at HA
    have HB := Lib.hid (fun (W2 : World) (hb : Below w.heap.size w W2) => And.intro (h.below hb).pb.cell (And.intro (h.below hb).pb.frozen (h.below hb).pb.lt))
    clear h hR hRl hRs e1 e2 hs ha
    go_enter Try.func73, Try.ntmps73
    go_wp2_with (go_at_call 74; refine (HA.out _).mono ?_; rintro r w2 ⟨rfl, hb2⟩; obtain ⟨q1, q2, q3⟩ := HB.out w2 hb2; have HB2 := Lib.hid hb2; clear hb2)
    go_ret
    refine ⟨by rw [HW.out.1]; rfl, (Fr.of_below HB2.out).trans (Fr.set (S := [b + 1]) _ _ _ (by simp)) (fun x hx => Or.inl hx), ?_⟩
    rw [HW.out.2]
    exact (HE.out.below HB2.out).pos (a + R.size)
  · have HW := Lib.hid (show (⟨(wordCut (rest s a)).toArray⟩ : ByteArray) = R.extract 0 (wordCut (rest s a)).length by
      apply bytes_eq
      rw [cut_list, hRl, List.drop_zero, Nat.sub_zero, ← cut_take])
    have hle : (wordCut (rest s a)).length ≤ R.size := by rw [← sizeN, hRl]; exact e2
    have hadd : IntKind.i64.wrap ((a : Int) + ((wordCut (rest s a)).length : Int)) = ((a + (wordCut (rest s a)).length : Nat) : Int) := by rw [← Int.natCast_add]; exact IntWalk.i64_in _ (by omega)
    unfold AnyPost at HA
    rw [show (⟨#[40, 41, 44]⟩ : ByteArray).data.toList = [40, 41, 44] from rfl, hRl, e1] at HA
    have HB := Lib.hid (fun (W2 : World) (hb : Below w.heap.size w W2) => And.intro (h.below hb).pb.cell (And.intro (h.below hb).pb.frozen (h.below hb).pb.lt))
    clear h hR hRl hRs e1 e2 hs ha
    unfold WordO
    generalize (wordCut (rest s a)).length = k at *
    have hk0 : (0 : Int) ≤ (k : Int) := by omega
    have hk1 : (k : Int) ≤ (R.size : Int) := by omega
    clear hle
    go_enter Try.func73, Try.ntmps73
    go_wp2_with (go_at_call 74; refine (HA.out _).mono ?_; rintro r w2 ⟨rfl, hb2⟩; obtain ⟨q1, q2, q3⟩ := HB.out w2 hb2; have HB2 := Lib.hid hb2; clear hb2)
    go_ret
    exact ⟨by rw [HW.out]; rfl, (Fr.of_below HB2.out).trans (Fr.set (S := [b + 1]) _ _ _ (by simp)) (fun x hx => Or.inl hx), (HE.out.below HB2.out).pos (a + k)⟩

/-- The kind of the node that begins with the word w; o: a parenthesis follows it. -/
def nodeK (w : List UInt8) (o : Bool) : Option Int := if nameL 65 90 w then some 2 else if nameL 97 122 w then (if o then some 3 else some 1) else if w = [33] then some 4 else none
/-- The node, still without arguments. -/
def nodeE (w : ByteArray) (o : Bool) : Ex × Bool := match nodeK w.data.toList o with
  | none => (.mk 0 ⟨#[]⟩ [], false)
  | some k => (.mk k (if k = 4 then ⟨#[]⟩ else w) [], true)
def NodeO (x : ByteArray) (o : Bool) (w : World) (r : Ending) (w2 : World) : Prop :=
  r = .returned (.tuple #[.agg #[.int .i64 (nodeE x o).1.kind, .string (nodeE x o).1.name, .slice none 0 0], .bool (nodeE x o).2]) ∧ Below w.heap.size w w2
theorem stuck_str (x : ByteArray) : (x.toList == [33]) = decide (x.data.toList = [33]) := by
  rw [Lib.toList_data]
  by_cases h : x.data.toList = [33]
  · simp [h]
  · simp [h]
theorem res_box {w w2 : World} {K : Int} {S : ByteArray} {u : Value} (h : Below (w.alloc (.cells #[.int .i64 K, .string S, u] 26)).heap.size (w.alloc (.cells #[.int .i64 K, .string S, u] 26)) w2) : Bx w2 w.heap.size K S u := (h.block _ (by simp)).trans (heap_alloc_new w _)

/-- The three cells of an expression are stored. -/
def nset (W : World) (B : Nat) (K : Int) (S : ByteArray) (u : Value) : World := ((W.setCell ⟨B, 0, none⟩ (.int .i64 K)).setCell ⟨B, 1, none⟩ (.string S)).setCell ⟨B, 2, none⟩ u
theorem nset_box {w w2 : World} {K0 : Int} {S0 : ByteArray} {u0 : Value} (h : Bx w2 w.heap.size K0 S0 u0) (K : Int) (S : ByteArray) (u : Value) : Bx (nset w2 w.heap.size K S u) w.heap.size K S u := ((h.set0 K).set1 S).set2 u
theorem nset_low {w w2 : World} (h : Below w.heap.size w w2) (K : Int) (S : ByteArray) (u : Value) : Below w.heap.size w (nset w2 w.heap.size K S u) :=
  ((h.setCell (p := ⟨w.heap.size, 0, none⟩) (by simp) _).setCell (p := ⟨w.heap.size, 1, none⟩) (by simp) _).setCell (p := ⟨w.heap.size, 2, none⟩) (by simp) _

set_option maxRecDepth 100000 in
set_option maxHeartbeats 2000000 in
theorem own_node (x : ByteArray) (o : Bool) (w : World) : Calls Try.prog 77 #[.string x, .bool o] w (NodeO x o w) := by
  have HC := Lib.hid (fun (W : World) => own_iscon x W)
  have HN := Lib.hid (fun (W : World) => own_isname x W)
  unfold NamePost at HC HN
  have HB0 := Lib.hid (fun (W : World) (h : Below (w.alloc (.cells #[.int .i64 0, .string ⟨#[]⟩, .slice none 0 0] 26)).heap.size (w.alloc (.cells #[.int .i64 0, .string ⟨#[]⟩, .slice none 0 0] 26)) W) => show Below w.heap.size w W from ((Below.refl w.heap.size w).alloc (Nat.le_refl _) _).trans (h.mono (by simp)))
  have hst := stuck_str x
  have HX := Lib.hid (show nodeE x o = match (if nameL 65 90 x.data.toList then some 2 else if nameL 97 122 x.data.toList then (if o then some 3 else some 1) else if x.data.toList = [33] then some 4 else none : Option Int) with
    | none => (.mk 0 ⟨#[]⟩ [], false)
    | some k => (.mk k (if k = 4 then ⟨#[]⟩ else x) [], true) from rfl)
  generalize nameL 65 90 x.data.toList = bc at *
  generalize nameL 97 122 x.data.toList = bn at *
  cases bc
  · cases bn
    · cases o
      · by_cases h3 : x.data.toList = [33]
        · rw [decide_eq_true h3] at hst
          have HX2 := Lib.hid (show nodeE x false = (.mk 4 ⟨#[]⟩ [], true) by rw [HX.out]; rw [if_neg (by decide), if_neg (by decide), if_pos h3]; rfl)
          clear h3
          go_enter Try.func77, Try.ntmps77
          go_wp2_with (first | (go_at_call 106; refine (HC.out _).mono ?_; rintro r w2 ⟨rfl, hb2⟩; have HB2 := Lib.hid hb2; clear hb2) | (go_at_call 105; refine (HN.out _).mono ?_; rintro r w3 ⟨rfl, hb3⟩; have HB3 := Lib.hid (HB2.out.trans (hb3.mono HB2.out.size)); clear hb3) | (go_at_call 105; refine (HN.out _).mono ?_; rintro r w4 ⟨rfl, hb4⟩; have HB4 := Lib.hid (HB3.out.trans (hb4.mono HB3.out.size)); clear hb4; obtain ⟨q0, q1, q2, q3⟩ := (res_box HB4.out).cells; have g0 := (res_box HB4.out).thaw 0; have g1 := (res_box HB4.out).thaw 1; have g2 := (res_box HB4.out).thaw 2))
          obtain ⟨r0, r1, r2, -⟩ := (nset_box (res_box HB4.out) 4 ⟨#[]⟩ (.slice none 0 0)).cells
          unfold nset at r0 r1 r2
          refine bodyPost_ret (v := .tuple #[.agg #[.int .i64 4, .string ⟨#[]⟩, .slice none 0 0], .bool true]) (by simp [results, Try.results77, go_sem, r0, r1, r2]) rfl ?_
          exact ⟨by rw [HX2.out]; rfl, nset_low (HB0.out _ HB4.out) _ _ _⟩
        · rw [decide_eq_false h3] at hst
          have HX2 := Lib.hid (show nodeE x false = (.mk 0 ⟨#[]⟩ [], false) by rw [HX.out]; rw [if_neg (by decide), if_neg (by decide), if_neg h3])
          clear h3
          go_enter Try.func77, Try.ntmps77
          go_wp2_with (first | (go_at_call 106; refine (HC.out _).mono ?_; rintro r w2 ⟨rfl, hb2⟩; have HB2 := Lib.hid hb2; clear hb2) | (go_at_call 105; refine (HN.out _).mono ?_; rintro r w3 ⟨rfl, hb3⟩; have HB3 := Lib.hid (HB2.out.trans (hb3.mono HB2.out.size)); clear hb3) | (go_at_call 105; refine (HN.out _).mono ?_; rintro r w4 ⟨rfl, hb4⟩; have HB4 := Lib.hid (HB3.out.trans (hb4.mono HB3.out.size)); clear hb4; obtain ⟨q0, q1, q2, q3⟩ := (res_box HB4.out).cells; have g0 := (res_box HB4.out).thaw 0; have g1 := (res_box HB4.out).thaw 1; have g2 := (res_box HB4.out).thaw 2))
          obtain ⟨r0, r1, r2, -⟩ := (nset_box (res_box HB4.out) 0 ⟨#[]⟩ (.slice none 0 0)).cells
          unfold nset at r0 r1 r2
          refine bodyPost_ret (v := .tuple #[.agg #[.int .i64 0, .string ⟨#[]⟩, .slice none 0 0], .bool false]) (by simp [results, Try.results77, go_sem, r0, r1, r2]) rfl ?_
          exact ⟨by rw [HX2.out]; rfl, nset_low (HB0.out _ HB4.out) _ _ _⟩
      · by_cases h3 : x.data.toList = [33]
        · rw [decide_eq_true h3] at hst
          have HX2 := Lib.hid (show nodeE x true = (.mk 4 ⟨#[]⟩ [], true) by rw [HX.out]; rw [if_neg (by decide), if_neg (by decide), if_pos h3]; rfl)
          clear h3
          go_enter Try.func77, Try.ntmps77
          go_wp2_with (first | (go_at_call 106; refine (HC.out _).mono ?_; rintro r w2 ⟨rfl, hb2⟩; have HB2 := Lib.hid hb2; clear hb2) | (go_at_call 105; refine (HN.out _).mono ?_; rintro r w3 ⟨rfl, hb3⟩; have HB3 := Lib.hid (HB2.out.trans (hb3.mono HB2.out.size)); clear hb3) | (go_at_call 105; refine (HN.out _).mono ?_; rintro r w4 ⟨rfl, hb4⟩; have HB4 := Lib.hid (HB3.out.trans (hb4.mono HB3.out.size)); clear hb4; obtain ⟨q0, q1, q2, q3⟩ := (res_box HB4.out).cells; have g0 := (res_box HB4.out).thaw 0; have g1 := (res_box HB4.out).thaw 1; have g2 := (res_box HB4.out).thaw 2))
          obtain ⟨r0, r1, r2, -⟩ := (nset_box (res_box HB4.out) 4 ⟨#[]⟩ (.slice none 0 0)).cells
          unfold nset at r0 r1 r2
          refine bodyPost_ret (v := .tuple #[.agg #[.int .i64 4, .string ⟨#[]⟩, .slice none 0 0], .bool true]) (by simp [results, Try.results77, go_sem, r0, r1, r2]) rfl ?_
          exact ⟨by rw [HX2.out]; rfl, nset_low (HB0.out _ HB4.out) _ _ _⟩
        · rw [decide_eq_false h3] at hst
          have HX2 := Lib.hid (show nodeE x true = (.mk 0 ⟨#[]⟩ [], false) by rw [HX.out]; rw [if_neg (by decide), if_neg (by decide), if_neg h3])
          clear h3
          go_enter Try.func77, Try.ntmps77
          go_wp2_with (first | (go_at_call 106; refine (HC.out _).mono ?_; rintro r w2 ⟨rfl, hb2⟩; have HB2 := Lib.hid hb2; clear hb2) | (go_at_call 105; refine (HN.out _).mono ?_; rintro r w3 ⟨rfl, hb3⟩; have HB3 := Lib.hid (HB2.out.trans (hb3.mono HB2.out.size)); clear hb3) | (go_at_call 105; refine (HN.out _).mono ?_; rintro r w4 ⟨rfl, hb4⟩; have HB4 := Lib.hid (HB3.out.trans (hb4.mono HB3.out.size)); clear hb4; obtain ⟨q0, q1, q2, q3⟩ := (res_box HB4.out).cells; have g0 := (res_box HB4.out).thaw 0; have g1 := (res_box HB4.out).thaw 1; have g2 := (res_box HB4.out).thaw 2))
          obtain ⟨r0, r1, r2, -⟩ := (nset_box (res_box HB4.out) 0 ⟨#[]⟩ (.slice none 0 0)).cells
          unfold nset at r0 r1 r2
          refine bodyPost_ret (v := .tuple #[.agg #[.int .i64 0, .string ⟨#[]⟩, .slice none 0 0], .bool false]) (by simp [results, Try.results77, go_sem, r0, r1, r2]) rfl ?_
          exact ⟨by rw [HX2.out]; rfl, nset_low (HB0.out _ HB4.out) _ _ _⟩
    · cases o
      · clear hst
        have HX2 := Lib.hid (show nodeE x false = (.mk 1 x [], true) by rw [HX.out]; rfl)
        go_enter Try.func77, Try.ntmps77
        go_wp2_with (first | (go_at_call 106; refine (HC.out _).mono ?_; rintro r w2 ⟨rfl, hb2⟩; have HB2 := Lib.hid hb2; clear hb2) | (go_at_call 105; refine (HN.out _).mono ?_; rintro r w3 ⟨rfl, hb3⟩; have HB3 := Lib.hid (HB2.out.trans (hb3.mono HB2.out.size)); clear hb3) | (go_at_call 105; refine (HN.out _).mono ?_; rintro r w4 ⟨rfl, hb4⟩; have HB4 := Lib.hid (HB3.out.trans (hb4.mono HB3.out.size)); clear hb4; obtain ⟨q0, q1, q2, q3⟩ := (res_box HB4.out).cells; have g0 := (res_box HB4.out).thaw 0; have g1 := (res_box HB4.out).thaw 1; have g2 := (res_box HB4.out).thaw 2))
        obtain ⟨r0, r1, r2, -⟩ := (nset_box (res_box HB4.out) 1 x (.slice none 0 0)).cells
        unfold nset at r0 r1 r2
        refine bodyPost_ret (v := .tuple #[.agg #[.int .i64 1, .string x, .slice none 0 0], .bool true]) (by simp [results, Try.results77, go_sem, r0, r1, r2]) rfl ?_
        exact ⟨by rw [HX2.out]; rfl, nset_low (HB0.out _ HB4.out) _ _ _⟩
      · clear hst
        have HX2 := Lib.hid (show nodeE x true = (.mk 3 x [], true) by rw [HX.out]; rfl)
        go_enter Try.func77, Try.ntmps77
        go_wp2_with (first | (go_at_call 106; refine (HC.out _).mono ?_; rintro r w2 ⟨rfl, hb2⟩; have HB2 := Lib.hid hb2; clear hb2) | (go_at_call 105; refine (HN.out _).mono ?_; rintro r w3 ⟨rfl, hb3⟩; have HB3 := Lib.hid (HB2.out.trans (hb3.mono HB2.out.size)); clear hb3; obtain ⟨q0, q1, q2, q3⟩ := (res_box HB3.out).cells; have g0 := (res_box HB3.out).thaw 0; have g1 := (res_box HB3.out).thaw 1; have g2 := (res_box HB3.out).thaw 2))
        obtain ⟨r0, r1, r2, -⟩ := (nset_box (res_box HB3.out) 3 x (.slice none 0 0)).cells
        unfold nset at r0 r1 r2
        refine bodyPost_ret (v := .tuple #[.agg #[.int .i64 3, .string x, .slice none 0 0], .bool true]) (by simp [results, Try.results77, go_sem, r0, r1, r2]) rfl ?_
        exact ⟨by rw [HX2.out]; rfl, nset_low (HB0.out _ HB3.out) _ _ _⟩
  · clear hst
    have HX2 := Lib.hid (show nodeE x o = (.mk 2 x [], true) by rw [HX.out]; rfl)
    go_enter Try.func77, Try.ntmps77
    go_wp2_with (go_at_call 106; refine (HC.out _).mono ?_; rintro r w2 ⟨rfl, hb2⟩; have HB2 := Lib.hid hb2; clear hb2; obtain ⟨q0, q1, q2, q3⟩ := (res_box HB2.out).cells; have g0 := (res_box HB2.out).thaw 0; have g1 := (res_box HB2.out).thaw 1; have g2 := (res_box HB2.out).thaw 2)
    obtain ⟨r0, r1, r2, -⟩ := (nset_box (res_box HB2.out) 2 x (.slice none 0 0)).cells
    unfold nset at r0 r1 r2
    refine bodyPost_ret (v := .tuple #[.agg #[.int .i64 2, .string x, .slice none 0 0], .bool true]) (by simp [results, Try.results77, go_sem, r0, r1, r2]) rfl ?_
    exact ⟨by rw [HX2.out]; rfl, nset_low (HB0.out _ HB2.out) _ _ _⟩
end Go.Proofs.Ytliifdiajcahdaa
