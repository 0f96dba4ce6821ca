/- A part of the proof of the seat's statement: OwnFit. Condition: as each says. -/
import Derived.Test.YthljhiklpopmgaaGreatDoorSpecNode
import Derived.Test.YthljhiklpopmgaaGreatDoorOwnAny
import Derived.Test.YthljhiklpopmgaaGreatDoorSpecDistinct
set_option maxHeartbeats 8000000
namespace Go.Proofs.YthljhiklpopmgaaGreatDoor
open Go Go.RowKit
abbrev ptr (b : Nat) : Value := .pointer (some ⟨b, 0, none⟩)
structure Env (W : World) (b : Nat) (s : ByteArray) (a n : Nat) : Prop where
 sb : Boxed W b 9 (.string s)
 pb : Boxed W (b + 1) 3 (.int .i64 (a : Int))
 nb : Boxed W (b + 2) 3 (.int .i64 (n : Int))
 tb : Boxed W (b + 3) 147 (.func (.func 100) #[] #[ptr (b + 1), ptr b])
 wb : Boxed W (b + 4) 148 (.func (.func 101) #[] #[ptr b, ptr (b + 1)])
 eb : Boxed W (b + 5) 118 (.func (.func 104) #[] #[ptr (b + 2), ptr (b + 4), ptr (b + 3), ptr (b + 6)])
 ab : Boxed W (b + 6) 149 (.func (.func 103) #[] #[ptr (b + 3), ptr (b + 5)])
section
variable {W W2 : World} {b : Nat} {s : ByteArray} {a n : Nat}
theorem Env.lt (h : Env W b s a n) : b + 6 < W.heap.size := h.ab.lt
theorem Env.keep {S : List Nat} (h : Env W b s a n) (hf : Fr S W W2) (hS : ∀ x ∈ S, x < b ∨ b + 6 < x) : Env W2 b s a n := by
 have k : ∀ i, i ≤ 6 → W2.heap[b + i]? = W.heap[b + i]? := fun i hi => hf.block (b + i) (by have := h.lt; omega) (fun hx => by have := hS _ hx; omega)
 exact ⟨box_on h.sb (k 0 (by omega)), box_on h.pb (k 1 (by omega)), box_on h.nb (k 2 (by omega)), box_on h.tb (k 3 (by omega)), box_on h.wb (k 4 (by omega)), box_on h.eb (k 5 (by omega)), box_on h.ab (k 6 (by omega))⟩
theorem Env.below (h : Env W b s a n) (hb : Below W.heap.size W W2) : Env W2 b s a n := h.keep (S := []) (Fr.of_below hb) (by simp)
theorem Env.pos (h : Env W b s a n) (k : Nat) : Env (W.setCell ⟨b + 1, 0, none⟩ (.int .i64 (k : Int))) b s k n :=
 ⟨h.sb.other (by omega) _, h.pb.set _, h.nb.other (by omega) _, h.tb.other (by omega) _, h.wb.other (by omega) _, h.eb.other (by omega) _, h.ab.other (by omega) _⟩
theorem Env.cnt (h : Env W b s a n) (k : Nat) : Env (W.setCell ⟨b + 2, 0, none⟩ (.int .i64 (k : Int))) b s a k :=
 ⟨h.sb.other (by omega) _, h.pb.other (by omega) _, h.nb.set _, h.tb.other (by omega) _, h.wb.other (by omega) _, h.eb.other (by omega) _, h.ab.other (by omega) _⟩
end
def TakeO (b : Nat) (s : ByteArray) (a n : Nat) (c : UInt8) (w : World) (r : Ending) (w2 : World) : Prop :=
 r = .returned (.bool (hd (rest s a) c)) ∧ Fr [b + 1] w w2 ∧ Env w2 b s (if hd (rest s a) c then a + 1 else a) n
theorem hd_at (s : ByteArray) (a : Nat) (c : UInt8) (h : a < s.size) : hd (rest s a) c = (s[a] == c) := by
 rw [hd, rest, List.head?_drop, Lib.data_getElem? s a h]
 rfl
theorem hd_end (s : ByteArray) (a : Nat) (c : UInt8) (h : s.size ≤ a) : hd (rest s a) c = false := by
 rw [hd, rest, List.head?_drop, List.getElem?_eq_none (by rw [sizeN]; omega)]; rfl
theorem own_take (b : Nat) (s : ByteArray) (a n : Nat) (c : UInt8) (C : Int) (hC : (c.toNat : Int) = C) (w : World) (h : Env w b s a n) (ha : a ≤ s.size) (hs : s.size ≤ 1048576) :
 Calls Tryz.prog 100 #[.int .u8 C, ptr (b + 1), ptr b] w (TakeO b s a n c w) := by
 have s1 := h.sb.cell
 have p1 := h.pb.cell
 have p2 := h.pb.frozen
 have p3 := h.pb.lt
 have HE := zH h
 by_cases hlt : a < s.size
 · have h1 : (a : Int) < (s.size : Int) := by omega
   have h0 : (0 : Int) ≤ (a : Int) := by omega
   have hw : IntKind.i64.wrap ((a : Int) + 1) = (a : Int) + 1 := IntWalk.i64_in _ (by omega)
   have HD := zH (hd_at s a c hlt)
   by_cases hx : s[a] = c
   · have HX := zH (show hd (rest s a) c = true by rw [HD.out]; simp [hx])
     have he : ((s[a].toNat : Int) == C) = true := by rw [hx, hC]; simp
     clear h hx
     go_enter Tryz.func100, Tryz.ntmps100
     go_wp2
     go_ret
     refine ⟨by rw [HX.out]; rfl, Fr.set _ _ _ (by simp), ?_⟩
     rw [HX.out]
     exact HE.out.pos (a + 1)
   have HX := zH (show hd (rest s a) c = false by rw [HD.out]; simpa using hx)
   have he : ((s[a].toNat : Int) == C) = false := by
    rw [← hC]
    simp only [beq_eq_false_iff_ne, ne_eq]
    intro hh
    exact hx (UInt8.toNat_inj.1 (by omega))
   clear h hx
   go_enter Tryz.func100, Tryz.ntmps100
   go_wp2
   go_ret
   exact ⟨by rw [HX.out]; rfl, Fr.refl _ _, by rw [HX.out]; exact HE.out⟩
 have HX := zH (hd_end s a c (by omega))
 have h1 : ¬ (a : Int) < (s.size : Int) := by omega
 clear h
 go_enter Tryz.func100, Tryz.ntmps100
 go_wp2
 go_ret
 exact ⟨by rw [HX.out]; rfl, Fr.refl _ _, by rw [HX.out]; exact HE.out⟩
def wordCut (l : List UInt8) : List UInt8 := l.takeWhile (fun c => !([40, 41, 44] : List UInt8).contains c)
theorem cut_any : ∀ l : List UInt8, (Lib.indexAny l [40, 41, 44] = -1 ∧ wordCut l = l) ∨ (Lib.indexAny l [40, 41, 44] = ((wordCut l).length : Int) ∧ (wordCut l).length ≤ l.length) := by
 intro l
 induction l with
 | nil => exact Or.inl ⟨rfl, rfl⟩
 | cons x r ih =>
  cases hc : ([40, 41, 44] : List UInt8).contains x with
  | true =>
   have h : wordCut (x :: r) = [] := by rw [wordCut, List.takeWhile_cons, hc]; rfl
   refine Or.inr ⟨by rw [h, Lib.indexAny, if_pos hc, List.length_nil]; rfl, by rw [h]; exact Nat.zero_le _⟩
  | false =>
   have h : wordCut (x :: r) = x :: wordCut r := by rw [wordCut, List.takeWhile_cons, hc]; rfl
   rcases ih with ⟨h1, h2⟩ | ⟨h1, h2⟩
   · exact Or.inl ⟨by rw [Lib.indexAny, hc, h1]; rfl, by rw [h, h2]⟩
   refine Or.inr ⟨?_, by rw [h, List.length_cons, List.length_cons]; omega⟩
   rw [Lib.indexAny, hc, h1, h]
   have hne : ¬ (((wordCut r).length : Int) == -1) = true := by intro hh; have := beq_iff_eq.1 hh; omega
   simp only [Bool.false_eq_true, if_false]
   rw [if_neg hne, List.length_cons]
   push_cast
   rfl
theorem cut_take (l : List UInt8) : wordCut l = l.take (wordCut l).length := by
 induction l with
 | nil => rfl
 | cons x r ih =>
  rw [wordCut, List.takeWhile_cons]
  split
  · rw [List.length_cons, List.take_succ_cons]
    congr 1
  rfl
def WordO (b : Nat) (s : ByteArray) (a n : Nat) (w : World) (r : Ending) (w2 : World) : Prop :=
 r = .returned (.string ⟨(wordCut (rest s a)).toArray⟩) ∧ Fr [b + 1] w w2 ∧ Env w2 b s (a + (wordCut (rest s a)).length) n
set_option maxRecDepth 100000 in
theorem own_word (b : Nat) (s : ByteArray) (a n : Nat) (w : World) (h : Env w b s a n) (ha : a ≤ s.size) (hs : s.size ≤ 1048576) :
 Calls Tryz.prog 101 #[ptr b, ptr (b + 1)] w (WordO b s a n w) := by
 have s1 := h.sb.cell
 have p1 := h.pb.cell
 have HE := zH h
 have h0 : (0 : Int) ≤ (a : Int) := by omega
 have h1 : (a : Int) ≤ (s.size : Int) := by omega
 obtain ⟨R, hR⟩ : ∃ R, R = s.extract a s.size := ⟨_, rfl⟩
 have hRl : R.data.toList = rest s a := by
  rw [hR, cut_list, rest]
  exact List.take_of_length_le (by rw [List.length_drop, sizeN]; omega)
 have hRs : R.size = s.size - a := by rw [← sizeN, hRl, rest_len]
 have HA := zH (fun (W : World) => any_ascii R ⟨#[40, 41, 44]⟩ W (by decide) (by decide) (by omega) (by
  intro j hj
  have hj3 : j < 3 := hj
  match j, hj3 with
  | 0, _ => show (40 : UInt8).toNat < 128; decide
  | 1, _ => show (41 : UInt8).toNat < 128; decide
  | 2, _ => show (44 : UInt8).toNat < 128; decide))
 have hsl : (Instr.slice 9 (.string s) (some (.int .i64 (a : Int))) none none).run Tryz.prog w = .ok (.string R) w := by
  rw [hR]; exact run_slice_string_l w _ s Tryz.underlying9 .i64 (a : Int) h0 h1
 rcases cut_any (rest s a) with ⟨e1, e2⟩ | ⟨e1, e2⟩
 · have HW := zH (show (⟨(wordCut (rest s a)).toArray⟩ : ByteArray) = R ∧ (wordCut (rest s a)).length = R.size by
    constructor
    · rw [e2, ← hRl]
    rw [e2, ← hRl, sizeN])
   have hadd : IntKind.i64.wrap ((a : Int) + (R.size : Int)) = ((a + R.size : Nat) : Int) := by rw [← Int.natCast_add]; exact IntWalk.i64_in _ (by omega)
   unfold AnyPost at HA
   rw [show (⟨#[40, 41, 44]⟩ : ByteArray).data.toList = [40, 41, 44] from rfl, hRl, e1] at HA
   have HB := zH (fun (W2 : World) (hb : Below w.heap.size w W2) => And.intro (h.below hb).pb.cell (And.intro (h.below hb).pb.frozen (h.below hb).pb.lt))
   clear h hR hRl hRs e1 e2 hs ha
   go_enter Tryz.func101, Tryz.ntmps101
   go_wp2_with (go_at_call 102; refine (HA.out _).mono ?_; rintro r w2 ⟨rfl, hb2⟩; obtain ⟨q1, q2, q3⟩ := HB.out w2 hb2; have HB2 := zH hb2; clear hb2)
   go_ret
   refine ⟨by rw [HW.out.1]; rfl, (Fr.of_below HB2.out).trans (Fr.set (S := [b + 1]) _ _ _ (by simp)) (fun x hx => Or.inl hx), ?_⟩
   rw [HW.out.2]
   exact (HE.out.below HB2.out).pos (a + R.size)
 have HW := zH (show (⟨(wordCut (rest s a)).toArray⟩ : ByteArray) = R.extract 0 (wordCut (rest s a)).length by
  apply bytes_eq
  rw [cut_list, hRl, List.drop_zero, Nat.sub_zero, ← cut_take])
 have hle : (wordCut (rest s a)).length ≤ R.size := by rw [← sizeN, hRl]; exact e2
 have hadd : IntKind.i64.wrap ((a : Int) + ((wordCut (rest s a)).length : Int)) = ((a + (wordCut (rest s a)).length : Nat) : Int) := by rw [← Int.natCast_add]; exact IntWalk.i64_in _ (by omega)
 unfold AnyPost at HA
 rw [show (⟨#[40, 41, 44]⟩ : ByteArray).data.toList = [40, 41, 44] from rfl, hRl, e1] at HA
 have HB := zH (fun (W2 : World) (hb : Below w.heap.size w W2) => And.intro (h.below hb).pb.cell (And.intro (h.below hb).pb.frozen (h.below hb).pb.lt))
 clear h hR hRl hRs e1 e2 hs ha
 unfold WordO
 generalize (wordCut (rest s a)).length = k at *
 have hk0 : (0 : Int) ≤ (k : Int) := by omega
 have hk1 : (k : Int) ≤ (R.size : Int) := by omega
 clear hle
 go_enter Tryz.func101, Tryz.ntmps101
 go_wp2_with (go_at_call 102; refine (HA.out _).mono ?_; rintro r w2 ⟨rfl, hb2⟩; obtain ⟨q1, q2, q3⟩ := HB.out w2 hb2; have HB2 := zH hb2; clear hb2)
 go_ret
 exact ⟨by rw [HW.out]; rfl, (Fr.of_below HB2.out).trans (Fr.set (S := [b + 1]) _ _ _ (by simp)) (fun x hx => Or.inl hx), (HE.out.below HB2.out).pos (a + k)⟩
def nodeK (w : List UInt8) (o : Bool) : Option Int := if nameL 65 90 w then some 2 else if nameL 97 122 w then (if o then some 3 else some 1) else if w = [33] then some 4 else none
def nodeE (w : ByteArray) (o : Bool) : Ex × Bool := match nodeK w.data.toList o with
 | none => (.mk 0 ⟨#[]⟩ [], false)
 | some k => (.mk k (if k = 4 then ⟨#[]⟩ else w) [], true)
def NodeO (x : ByteArray) (o : Bool) (w : World) (r : Ending) (w2 : World) : Prop :=
 r = .returned (.tuple #[.agg #[.int .i64 (nodeE x o).1.kind, .string (nodeE x o).1.name, .slice none 0 0], .bool (nodeE x o).2]) ∧ Below w.heap.size w w2
theorem stuck_str (x : ByteArray) : (x.toList == [33]) = decide (x.data.toList = [33]) := by
 rw [Lib.toList_data]
 by_cases h : x.data.toList = [33]
 · simp [h]
 simp [h]
theorem res_box {w w2 : World} {K : Int} {S : ByteArray} {u : Value} (h : Below (w.alloc (.cells #[.int .i64 K, .string S, u] 34)).heap.size (w.alloc (.cells #[.int .i64 K, .string S, u] 34)) w2) : Bx w2 w.heap.size K S u := (h.block _ (by simp)).trans (heap_alloc_new w _)
def nset (W : World) (B : Nat) (K : Int) (S : ByteArray) (u : Value) : World := ((W.setCell ⟨B, 0, none⟩ (.int .i64 K)).setCell ⟨B, 1, none⟩ (.string S)).setCell ⟨B, 2, none⟩ u
theorem nset_box {w w2 : World} {K0 : Int} {S0 : ByteArray} {u0 : Value} (h : Bx w2 w.heap.size K0 S0 u0) (K : Int) (S : ByteArray) (u : Value) : Bx (nset w2 w.heap.size K S u) w.heap.size K S u := ((h.set0 K).set1 S).set2 u
theorem nset_low {w w2 : World} (h : Below w.heap.size w w2) (K : Int) (S : ByteArray) (u : Value) : Below w.heap.size w (nset w2 w.heap.size K S u) :=
 ((h.setCell (p := ⟨w.heap.size, 0, none⟩) (by simp) _).setCell (p := ⟨w.heap.size, 1, none⟩) (by simp) _).setCell (p := ⟨w.heap.size, 2, none⟩) (by simp) _
set_option maxRecDepth 100000 in
theorem own_node (x : ByteArray) (o : Bool) (w : World) : Calls Tryz.prog 105 #[.string x, .bool o] w (NodeO x o w) := by
 have HC := zH (fun (W : World) => own_iscon x W)
 have HN := zH (fun (W : World) => own_isname x W)
 unfold NamePost at HC HN
 have HB0 := zH (fun (W : World) (h : Below (w.alloc (.cells #[.int .i64 0, .string ⟨#[]⟩, .slice none 0 0] 34)).heap.size (w.alloc (.cells #[.int .i64 0, .string ⟨#[]⟩, .slice none 0 0] 34)) W) => show Below w.heap.size w W from ((Below.refl w.heap.size w).alloc (Nat.le_refl _) _).trans (h.mono (by simp)))
 have hst := stuck_str x
 have HX := zH (show nodeE x o = match (if nameL 65 90 x.data.toList then some 2 else if nameL 97 122 x.data.toList then (if o then some 3 else some 1) else if x.data.toList = [33] then some 4 else none : Option Int) with
  | none => (.mk 0 ⟨#[]⟩ [], false)
  | some k => (.mk k (if k = 4 then ⟨#[]⟩ else x) [], true) from rfl)
 generalize nameL 65 90 x.data.toList = bc at *
 generalize nameL 97 122 x.data.toList = bn at *
 cases bc
 · cases bn
   · cases o
     · by_cases h3 : x.data.toList = [33]
       · rw [decide_eq_true h3] at hst
         have HX2 := zH (show nodeE x false = (.mk 4 ⟨#[]⟩ [], true) by rw [HX.out]; rw [if_neg (by decide), if_neg (by decide), if_pos h3]; rfl)
         clear h3
         go_enter Tryz.func105, Tryz.ntmps105
         go_wp2_with (first | (go_at_call 108; refine (HC.out _).mono ?_; rintro r w2 ⟨rfl, hb2⟩; have HB2 := zH hb2; clear hb2) | (go_at_call 79; refine (HN.out _).mono ?_; rintro r w3 ⟨rfl, hb3⟩; have HB3 := zH (HB2.out.trans (hb3.mono HB2.out.size)); clear hb3) | (go_at_call 79; refine (HN.out _).mono ?_; rintro r w4 ⟨rfl, hb4⟩; have HB4 := zH (HB3.out.trans (hb4.mono HB3.out.size)); clear hb4; obtain ⟨q0, q1, q2, q3⟩ := (res_box HB4.out).cells; have g0 := (res_box HB4.out).thaw 0; have g1 := (res_box HB4.out).thaw 1; have g2 := (res_box HB4.out).thaw 2))
         obtain ⟨r0, r1, r2, -⟩ := (nset_box (res_box HB4.out) 4 ⟨#[]⟩ (.slice none 0 0)).cells
         unfold nset at r0 r1 r2
         refine bodyPost_ret (v := .tuple #[.agg #[.int .i64 4, .string ⟨#[]⟩, .slice none 0 0], .bool true]) (by simp [results, Tryz.results105, go_sem, r0, r1, r2]) rfl ?_
         exact ⟨by rw [HX2.out]; rfl, nset_low (HB0.out _ HB4.out) _ _ _⟩
       rw [decide_eq_false h3] at hst
       have HX2 := zH (show nodeE x false = (.mk 0 ⟨#[]⟩ [], false) by rw [HX.out]; rw [if_neg (by decide), if_neg (by decide), if_neg h3])
       clear h3
       go_enter Tryz.func105, Tryz.ntmps105
       go_wp2_with (first | (go_at_call 108; refine (HC.out _).mono ?_; rintro r w2 ⟨rfl, hb2⟩; have HB2 := zH hb2; clear hb2) | (go_at_call 79; refine (HN.out _).mono ?_; rintro r w3 ⟨rfl, hb3⟩; have HB3 := zH (HB2.out.trans (hb3.mono HB2.out.size)); clear hb3) | (go_at_call 79; refine (HN.out _).mono ?_; rintro r w4 ⟨rfl, hb4⟩; have HB4 := zH (HB3.out.trans (hb4.mono HB3.out.size)); clear hb4; obtain ⟨q0, q1, q2, q3⟩ := (res_box HB4.out).cells; have g0 := (res_box HB4.out).thaw 0; have g1 := (res_box HB4.out).thaw 1; have g2 := (res_box HB4.out).thaw 2))
       obtain ⟨r0, r1, r2, -⟩ := (nset_box (res_box HB4.out) 0 ⟨#[]⟩ (.slice none 0 0)).cells
       unfold nset at r0 r1 r2
       refine bodyPost_ret (v := .tuple #[.agg #[.int .i64 0, .string ⟨#[]⟩, .slice none 0 0], .bool false]) (by simp [results, Tryz.results105, go_sem, r0, r1, r2]) rfl ?_
       exact ⟨by rw [HX2.out]; rfl, nset_low (HB0.out _ HB4.out) _ _ _⟩
     by_cases h3 : x.data.toList = [33]
     · rw [decide_eq_true h3] at hst
       have HX2 := zH (show nodeE x true = (.mk 4 ⟨#[]⟩ [], true) by rw [HX.out]; rw [if_neg (by decide), if_neg (by decide), if_pos h3]; rfl)
       clear h3
       go_enter Tryz.func105, Tryz.ntmps105
       go_wp2_with (first | (go_at_call 108; refine (HC.out _).mono ?_; rintro r w2 ⟨rfl, hb2⟩; have HB2 := zH hb2; clear hb2) | (go_at_call 79; refine (HN.out _).mono ?_; rintro r w3 ⟨rfl, hb3⟩; have HB3 := zH (HB2.out.trans (hb3.mono HB2.out.size)); clear hb3) | (go_at_call 79; refine (HN.out _).mono ?_; rintro r w4 ⟨rfl, hb4⟩; have HB4 := zH (HB3.out.trans (hb4.mono HB3.out.size)); clear hb4; obtain ⟨q0, q1, q2, q3⟩ := (res_box HB4.out).cells; have g0 := (res_box HB4.out).thaw 0; have g1 := (res_box HB4.out).thaw 1; have g2 := (res_box HB4.out).thaw 2))
       obtain ⟨r0, r1, r2, -⟩ := (nset_box (res_box HB4.out) 4 ⟨#[]⟩ (.slice none 0 0)).cells
       unfold nset at r0 r1 r2
       refine bodyPost_ret (v := .tuple #[.agg #[.int .i64 4, .string ⟨#[]⟩, .slice none 0 0], .bool true]) (by simp [results, Tryz.results105, go_sem, r0, r1, r2]) rfl ?_
       exact ⟨by rw [HX2.out]; rfl, nset_low (HB0.out _ HB4.out) _ _ _⟩
     rw [decide_eq_false h3] at hst
     have HX2 := zH (show nodeE x true = (.mk 0 ⟨#[]⟩ [], false) by rw [HX.out]; rw [if_neg (by decide), if_neg (by decide), if_neg h3])
     clear h3
     go_enter Tryz.func105, Tryz.ntmps105
     go_wp2_with (first | (go_at_call 108; refine (HC.out _).mono ?_; rintro r w2 ⟨rfl, hb2⟩; have HB2 := zH hb2; clear hb2) | (go_at_call 79; refine (HN.out _).mono ?_; rintro r w3 ⟨rfl, hb3⟩; have HB3 := zH (HB2.out.trans (hb3.mono HB2.out.size)); clear hb3) | (go_at_call 79; refine (HN.out _).mono ?_; rintro r w4 ⟨rfl, hb4⟩; have HB4 := zH (HB3.out.trans (hb4.mono HB3.out.size)); clear hb4; obtain ⟨q0, q1, q2, q3⟩ := (res_box HB4.out).cells; have g0 := (res_box HB4.out).thaw 0; have g1 := (res_box HB4.out).thaw 1; have g2 := (res_box HB4.out).thaw 2))
     obtain ⟨r0, r1, r2, -⟩ := (nset_box (res_box HB4.out) 0 ⟨#[]⟩ (.slice none 0 0)).cells
     unfold nset at r0 r1 r2
     refine bodyPost_ret (v := .tuple #[.agg #[.int .i64 0, .string ⟨#[]⟩, .slice none 0 0], .bool false]) (by simp [results, Tryz.results105, go_sem, r0, r1, r2]) rfl ?_
     exact ⟨by rw [HX2.out]; rfl, nset_low (HB0.out _ HB4.out) _ _ _⟩
   cases o
   · clear hst
     have HX2 := zH (show nodeE x false = (.mk 1 x [], true) by rw [HX.out]; rfl)
     go_enter Tryz.func105, Tryz.ntmps105
     go_wp2_with (first | (go_at_call 108; refine (HC.out _).mono ?_; rintro r w2 ⟨rfl, hb2⟩; have HB2 := zH hb2; clear hb2) | (go_at_call 79; refine (HN.out _).mono ?_; rintro r w3 ⟨rfl, hb3⟩; have HB3 := zH (HB2.out.trans (hb3.mono HB2.out.size)); clear hb3) | (go_at_call 79; refine (HN.out _).mono ?_; rintro r w4 ⟨rfl, hb4⟩; have HB4 := zH (HB3.out.trans (hb4.mono HB3.out.size)); clear hb4; obtain ⟨q0, q1, q2, q3⟩ := (res_box HB4.out).cells; have g0 := (res_box HB4.out).thaw 0; have g1 := (res_box HB4.out).thaw 1; have g2 := (res_box HB4.out).thaw 2))
     obtain ⟨r0, r1, r2, -⟩ := (nset_box (res_box HB4.out) 1 x (.slice none 0 0)).cells
     unfold nset at r0 r1 r2
     refine bodyPost_ret (v := .tuple #[.agg #[.int .i64 1, .string x, .slice none 0 0], .bool true]) (by simp [results, Tryz.results105, go_sem, r0, r1, r2]) rfl ?_
     exact ⟨by rw [HX2.out]; rfl, nset_low (HB0.out _ HB4.out) _ _ _⟩
   clear hst
   have HX2 := zH (show nodeE x true = (.mk 3 x [], true) by rw [HX.out]; rfl)
   go_enter Tryz.func105, Tryz.ntmps105
   go_wp2_with (first | (go_at_call 108; refine (HC.out _).mono ?_; rintro r w2 ⟨rfl, hb2⟩; have HB2 := zH hb2; clear hb2) | (go_at_call 79; refine (HN.out _).mono ?_; rintro r w3 ⟨rfl, hb3⟩; have HB3 := zH (HB2.out.trans (hb3.mono HB2.out.size)); clear hb3; obtain ⟨q0, q1, q2, q3⟩ := (res_box HB3.out).cells; have g0 := (res_box HB3.out).thaw 0; have g1 := (res_box HB3.out).thaw 1; have g2 := (res_box HB3.out).thaw 2))
   obtain ⟨r0, r1, r2, -⟩ := (nset_box (res_box HB3.out) 3 x (.slice none 0 0)).cells
   unfold nset at r0 r1 r2
   refine bodyPost_ret (v := .tuple #[.agg #[.int .i64 3, .string x, .slice none 0 0], .bool true]) (by simp [results, Tryz.results105, go_sem, r0, r1, r2]) rfl ?_
   exact ⟨by rw [HX2.out]; rfl, nset_low (HB0.out _ HB3.out) _ _ _⟩
 clear hst
 have HX2 := zH (show nodeE x o = (.mk 2 x [], true) by rw [HX.out]; rfl)
 go_enter Tryz.func105, Tryz.ntmps105
 go_wp2_with (go_at_call 108; refine (HC.out _).mono ?_; rintro r w2 ⟨rfl, hb2⟩; have HB2 := zH hb2; clear hb2; obtain ⟨q0, q1, q2, q3⟩ := (res_box HB2.out).cells; have g0 := (res_box HB2.out).thaw 0; have g1 := (res_box HB2.out).thaw 1; have g2 := (res_box HB2.out).thaw 2)
 obtain ⟨r0, r1, r2, -⟩ := (nset_box (res_box HB2.out) 2 x (.slice none 0 0)).cells
 unfold nset at r0 r1 r2
 refine bodyPost_ret (v := .tuple #[.agg #[.int .i64 2, .string x, .slice none 0 0], .bool true]) (by simp [results, Tryz.results105, go_sem, r0, r1, r2]) rfl ?_
 exact ⟨by rw [HX2.out]; rfl, nset_low (HB0.out _ HB2.out) _ _ _⟩
def delim (c : UInt8) : Bool := ([40, 41, 44] : List UInt8).contains c
theorem cut_app {w r : List UInt8} (hw : ∀ c ∈ w, delim c = false) (hr : r = [] ∨ ∃ c t, r = c :: t ∧ delim c = true) : wordCut (w ++ r) = w := by
 induction w with
 | nil =>
  rcases hr with rfl | ⟨c, t, rfl, hc⟩
  · rfl
  rw [List.nil_append, wordCut, List.takeWhile_cons]
  unfold delim at hc
  rw [hc]; rfl
 | cons c w ih =>
  have h1 := hw c (by simp)
  unfold delim at h1
  have h2 := ih (fun x hx => hw x (by simp [hx]))
  unfold wordCut at h2 ⊢
  rw [List.cons_append, List.takeWhile_cons, h1, h2]
  rfl
theorem word_delim {c : UInt8} (h : wordOk c = true) : delim c = false := by
 have h1 : ¬ c = 40 := fun e => by subst e; exact absurd h (by decide)
 have h2 : ¬ c = 41 := fun e => by subst e; exact absurd h (by decide)
 have h3 : ¬ c = 44 := fun e => by subst e; exact absurd h (by decide)
 simp [delim, h1, h2, h3]
theorem stop_delim {r : List UInt8} (h : Stop r) : r = [] ∨ ∃ c t, r = c :: t ∧ delim c = true := by
 rcases h with rfl | ⟨c, t, rfl, rfl | rfl⟩
 · exact Or.inl rfl
 · exact Or.inr ⟨_, _, rfl, by decide⟩
 exact Or.inr ⟨_, _, rfl, by decide⟩
theorem node_con {w : List UInt8} {o : Bool} (h : nameL 65 90 w = true) : nodeK w o = some 2 := by unfold nodeK; rw [if_pos h]
theorem not_con {w : List UInt8} (h : nameL 97 122 w = true) : nameL 65 90 w = false := by
 obtain ⟨-, c, r, rfl, h1, h2⟩ := name_word (Or.inr ⟨Nat.le_refl _, Nat.le_refl _⟩) h
 simp only [nameL, Bool.and_eq_false_iff, decide_eq_false_iff_not]
 omega
theorem node_name {w : List UInt8} {o : Bool} (h : nameL 97 122 w = true) : nodeK w o = if o then some 3 else some 1 := by
 unfold nodeK
 rw [not_con h, h]
 rfl
theorem fit_word {k : Int} {S : ByteArray} {L : List Ex} {l t : List UInt8} (ha : exAll (.mk k S L) = true) (hl : l = exText (.mk k S L) ++ t) (ht : Stop t) :
 ((wordCut l).length ≤ l.length ∧ hd (l.drop (wordCut l).length) 40 = false ∧ L = [] ∧ l.drop (wordCut l).length = t ∧ nodeE ⟨(wordCut l).toArray⟩ false = (.mk k S [], true)) ∨
 ((wordCut l).length ≤ l.length ∧ hd (l.drop (wordCut l).length) 40 = true ∧ (l.drop (wordCut l).length).drop 1 = Lib.join (exTexts L) [44] ++ 41 :: t ∧ nodeE ⟨(wordCut l).toArray⟩ true = (.mk k S [], true)) := by
 rw [exAll, Bool.and_eq_true] at ha
 have hform := ha.2
 unfold exFormOf at hform
 have plain : (∀ c ∈ S.data.toList, wordOk c = true) → exText (.mk k S L) = S.data.toList → L = [] → k ≠ 4 → nodeK S.data.toList false = some k →
  ((wordCut l).length ≤ l.length ∧ hd (l.drop (wordCut l).length) 40 = false ∧ L = [] ∧ l.drop (wordCut l).length = t ∧ nodeE ⟨(wordCut l).toArray⟩ false = (.mk k S [], true)) := fun h1 h2 h3 h4 h5 => by
  have hc : wordCut l = S.data.toList := by rw [hl, h2]; exact cut_app (fun c hc => word_delim (h1 c hc)) (stop_delim ht)
  have hd2 : l.drop (wordCut l).length = t := by rw [hc, hl, h2, List.drop_left]
  refine ⟨by rw [hc, hl, h2, List.length_append]; omega, by rw [hd2]; exact ht.no.2, h3, hd2, ?_⟩
  rw [hc, nodeE, show (⟨S.data.toList.toArray⟩ : ByteArray).data.toList = S.data.toList from rfl, h5]
  simp only [if_neg h4, str_eta]
 have call : (∀ c ∈ S.data.toList, wordOk c = true) → exText (.mk k S L) = S.data.toList ++ [40] ++ Lib.join (exTexts L) [44] ++ [41] → k ≠ 4 → nodeK S.data.toList true = some k →
  ((wordCut l).length ≤ l.length ∧ hd (l.drop (wordCut l).length) 40 = true ∧ (l.drop (wordCut l).length).drop 1 = Lib.join (exTexts L) [44] ++ 41 :: t ∧ nodeE ⟨(wordCut l).toArray⟩ true = (.mk k S [], true)) := fun h1 h2 h4 h5 => by
  have hl2 : l = S.data.toList ++ 40 :: (Lib.join (exTexts L) [44] ++ 41 :: t) := by rw [hl, h2]; simp
  have hc : wordCut l = S.data.toList := by rw [hl2]; exact cut_app (fun c hc => word_delim (h1 c hc)) (Or.inr ⟨_, _, rfl, by decide⟩)
  have hd2 : l.drop (wordCut l).length = 40 :: (Lib.join (exTexts L) [44] ++ 41 :: t) := by rw [hc, hl2, List.drop_left]
  refine ⟨by rw [hc, hl2, List.length_append]; omega, by rw [hd2]; rfl, by rw [hd2]; rfl, ?_⟩
  rw [hc, nodeE, show (⟨S.data.toList.toArray⟩ : ByteArray).data.toList = S.data.toList from rfl, h5]
  simp only [if_neg h4, str_eta]
 split at hform
 · rename_i hk
   subst hk
   rw [Bool.and_eq_true] at hform
   refine Or.inl (plain (name_word (Or.inr ⟨Nat.le_refl _, Nat.le_refl _⟩) hform.1).1 ?_ (List.eq_nil_of_length_eq_zero (of_decide_eq_true hform.2)) (by decide) (by rw [node_name hform.1]; rfl))
   rw [exText, if_neg (by decide), if_pos (Or.inl rfl)]
 rename_i hk1
 split at hform
 · rename_i hk
   subst hk
   rw [Bool.and_eq_true] at hform
   by_cases hL : L.length = 0
   · refine Or.inl (plain (name_word (Or.inl ⟨Nat.le_refl _, Nat.le_refl _⟩) hform.1).1 ?_ (List.eq_nil_of_length_eq_zero hL) (by decide) (node_con hform.1))
     rw [exText, if_neg (by decide), if_pos (Or.inr ⟨rfl, hL⟩)]
   refine Or.inr (call (name_word (Or.inl ⟨Nat.le_refl _, Nat.le_refl _⟩) hform.1).1 ?_ (by decide) (node_con hform.1))
   rw [exText, if_neg (by decide), if_neg (by simp [hL])]
 rename_i hk2
 split at hform
 · rename_i hk
   subst hk
   rw [Bool.and_eq_true] at hform
   refine Or.inr (call (name_word (Or.inr ⟨Nat.le_refl _, Nat.le_refl _⟩) hform.1).1 ?_ (by decide) (by rw [node_name hform.1]; rfl))
   rw [exText, if_neg (by decide), if_neg (by simp)]
 split at hform
 · rename_i hk
   subst hk
   rw [Bool.and_eq_true] at hform
   have hS : S = ⟨#[]⟩ := size_nil (of_decide_eq_true hform.1)
   have hL : L = [] := List.eq_nil_of_length_eq_zero (of_decide_eq_true hform.2)
   have hx : exText (.mk 4 S L) = [33] := by rw [exText, if_pos rfl]
   have hc : wordCut l = [33] := by rw [hl, hx]; exact cut_app (fun c hc => by rw [List.mem_singleton] at hc; rw [hc]; decide) (stop_delim ht)
   have hd2 : l.drop (wordCut l).length = t := by rw [hc, hl, hx, List.drop_left]
   refine Or.inl ⟨by rw [hc, hl, hx, List.length_append]; omega, by rw [hd2]; exact ht.no.2, hL, hd2, ?_⟩
   rw [hc, hS]
   rfl
 cases hform
def Fits (s : ByteArray) (a n : Nat) (e : Ex) (a2 n2 : Nat) (ok : Bool) : Prop :=
 ∀ e0 t, exAll e0 = true → rest s a = exText e0 ++ t → Stop t → n + exSize e0 ≤ 80 → ok = true ∧ e = e0 ∧ rest s a2 = t ∧ n2 = n + exSize e0
def FitsL (s : ByteArray) (a n : Nat) (l : List Ex) (a2 n2 : Nat) (ok : Bool) : Prop :=
 ∀ L t, exAllL L = true → rest s a = Lib.join (exTexts L) [44] ++ 41 :: t → n + exSizes L ≤ 80 → ok = true ∧ l = L ∧ rest s a2 = t ∧ n2 = n + exSizes L
def ExprO (b : Nat) (s : ByteArray) (a n : Nat) (w : World) (r : Ending) (w2 : World) : Prop :=
 ∃ v e bs a2 n2 ok, r = .returned (.tuple #[v, .bool ok]) ∧ ExIs w2 v e bs ∧ Mine w2 w.heap.size bs ∧ Fr [b + 1, b + 2] w w2 ∧ Env w2 b s a2 n2 ∧ a ≤ a2 ∧ a2 ≤ s.size ∧ (ok = true → a < a2 ∧ n2 ≤ 80 ∧ exSize e + n ≤ n2) ∧ Fits s a n e a2 n2 ok
def ArgsO (b : Nat) (s : ByteArray) (a n : Nat) (w : World) (r : Ending) (w2 : World) : Prop :=
 ∃ v l bs a2 n2 ok, r = .returned (.tuple #[v, .bool ok]) ∧ SlIs w2 v l bs ∧ Mine w2 w.heap.size bs ∧ Fr [b + 1, b + 2] w w2 ∧ Env w2 b s a2 n2 ∧ a ≤ a2 ∧ a2 ≤ s.size ∧ (ok = true → n2 ≤ 80 ∧ exSizes l + n ≤ n2) ∧ FitsL s a n l a2 n2 ok
end Go.Proofs.YthljhiklpopmgaaGreatDoor
