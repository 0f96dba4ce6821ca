/- A part of the proof of the seat's statement: RKids. Condition: as each says. -/
import Derived.Test.YtiaknfnhmoinpaaGreatParts
import Derived.Test.YtiaknfnhmoinpaaGreatNames
import Derived.Laws.OwnMore
import Derived.Test.YtiaknfnhmoinpaaGreatRuSz
import Derived.Test.YtiaknfnhmoinpaaGreatFrame
import Derived.Deep.AppendLies
set_option maxHeartbeats 8000000
namespace Go.Proofs.YtiaknfnhmoinpaaGreat
open Go Go.RowKit
def lineL (s : ByteArray) : List ByteArray := if ((pieces s 10).getLast?.getD ⟨#[]⟩).size = 0 then (pieces s 10).dropLast else pieces s 10
def readOn : List ByteArray → List Ru → Sum Nat (List Ru)
 | [], acc => .inr acc
 | x :: t, acc => match readRu x with
  | none => .inl acc.length
  | some r => readOn t (acc ++ [r])
def readPr (s : ByteArray) : List Ru × Int := match readOn (lineL s) [] with
 | .inl k => ([], (k : Int))
 | .inr l => if prStr l = s then (l, -1) else ([], ((lineL s).length : Int))
theorem join_ge (L : List (List UInt8)) : Lib.lens L + L.length ≤ (Lib.join L [44]).length + 1 := by
 cases L with
 | nil => simp [Lib.lens]
 | cons x r => rw [Lib.join_length]; simp only [lC, List.length_nil]; omega
theorem tot_text (n : Nat) : (∀ e : Ex, exSize e ≤ n → exAll e = true → exTot e ≤ (exText e).length) ∧ (∀ l : List Ex, exSizes l ≤ n → exAllL l = true → exTots l ≤ Lib.lens (exTexts l) + l.length) := by
 induction n with
 | zero =>
  refine ⟨fun e h => by have := exSize_pos e; omega, fun l h _ => ?_⟩
  cases l with
  | nil => simp [exTots]
  | cons e r => rw [exSizes] at h; have := exSize_pos e; omega
 | succ n ih =>
  have hE : ∀ e : Ex, exSize e ≤ n + 1 → exAll e = true → exTot e ≤ (exText e).length := by
   intro e h ha
   cases e with
   | mk k s l =>
    rw [exSize] at h
    rw [exAll, Bool.and_eq_true] at ha
    have h1 := ih.2 l (by omega) ha.1
    have hF := ha.2
    unfold exFormOf at hF
    rw [exText, exTot]
    have hsz : s.data.toList.length = s.size := Array.length_toList
    by_cases h4 : k = 4
    · subst h4
      simp only [show ¬ (4 : Int) = 1 by decide, show ¬ (4 : Int) = 2 by decide, show ¬ (4 : Int) = 3 by decide, if_false, if_true, Bool.and_eq_true, decide_eq_true_eq] at hF
      obtain rfl : l = [] := List.eq_nil_of_length_eq_zero hF.2
      rw [if_pos rfl, exTots]
      simp only [lC, List.length_nil]
      omega
    rw [if_neg h4]
    by_cases h5 : k = 1 ∨ (k = 2 ∧ l.length = 0)
    · rw [if_pos h5, hsz]
      have hl : l = [] := by
       rcases h5 with h5 | h5
       · subst h5
         rw [if_pos rfl, Bool.and_eq_true, decide_eq_true_eq] at hF
         exact List.eq_nil_of_length_eq_zero hF.2
       exact List.eq_nil_of_length_eq_zero h5.2
      subst hl
      rw [exTots]; omega
    rw [if_neg h5]
    have h6 := join_ge (exTexts l)
    have h7 : (exTexts l).length = l.length := by rw [texts_map, List.length_map]
    simp only [lA, lC, List.length_nil, hsz]
    omega
  refine ⟨hE, ?_⟩
  intro l
  induction l with
  | nil => intro _ _; simp [exTots]
  | cons e r ihl =>
   intro hl ha
   rw [exSizes] at hl
   have hp := exSize_pos e
   rw [exAllL, Bool.and_eq_true] at ha
   have h1 := hE e (by omega) ha.1
   have h2 := ihl (by omega) ha.2
   have h3 : Lib.lens (exTexts (e :: r)) = (exText e).length + Lib.lens (exTexts r) := by rw [exTexts]; simp [Lib.lens]
   rw [exTots, h3, lC]
   omega
theorem parS_ge (xs : List ByteArray) : totS xs + xs.length + 1 ≤ (parS xs).size := by
 have h7 := join_ge (listsS xs)
 rw [lens_lists] at h7
 have h8 : (listsS xs).length = xs.length := by simp [listsS]
 rw [h8] at h7
 show _ ≤ (List.toArray _).size
 simp
 omega
theorem args_ge {r : Ru} (h : headOk r = true) : r.con.size + (ssTot r.vars + ssTot r.params) ≤ totS (argTexts r) + (argTexts r).length := by
 unfold argTexts
 rw [totS_app, lA]
 have h2 : totS r.params + r.params.length = ssTot r.params := by unfold ssTot; rw [totS_totN]; omega
 unfold headOk at h
 rw [Bool.and_eq_true] at h
 by_cases hc : r.con.size = 0
 · have h3 := h.1
   rw [if_pos hc, decide_eq_true_eq] at h3
   have h4 : r.vars = [] := List.eq_nil_of_length_eq_zero h3
   rw [if_pos hc, h4, hc]
   simp only [List.length_nil, show totS [] = 0 from rfl, show ssTot [] = 0 from rfl]
   omega
 rw [if_neg hc]
 simp only [lC, List.length_nil, show totS [patStr r] = (patStr r).size from by simp [totS]]
 have h5 : r.con.size + ssTot r.vars ≤ (patStr r).size := by
  unfold patStr
  have h6 := parS_ge r.vars
  split
  · rename_i h7
    have h8 : r.vars = [] := List.eq_nil_of_length_eq_zero h7
    rw [h8, show ssTot [] = 0 from rfl]
    omega
  rw [ByteArray.size_append]
  unfold ssTot
  rw [← totS_totN]
  omega
 omega
theorem read_room {line : ByteArray} {r : Ru} (h : readRu line = some r) : ruTot r + 2 ≤ line.size := by
 obtain ⟨hh, hv, hs⟩ := read_some h
 rw [← hs]
 unfold ruStr
 rw [ByteArray.size_append, ByteArray.size_append, ByteArray.size_append]
 have h1 := parS_ge (argTexts r)
 have h2 := args_ge hh
 have h3 : exTot r.body ≤ (exFmt r.body).size := by
  unfold exFmt
  rw [if_pos hv, str_size]
  exact (tot_text _).1 r.body (nR _) (valid_all hv).1
 have h4 : eqStr.size = 3 := rfl
 unfold ruTot
 omega
theorem parts_tot (b : UInt8) : ∀ l acc, ((parts b acc l).map List.length).sum + (parts b acc l).length = acc.length + l.length + 1 := by
 intro l
 induction l with
 | nil => intro acc; simp [parts]
 | cons c r ih =>
  intro acc
  by_cases h : c = b
  · subst h; rw [parts_hit]; have := ih []; simp only [List.map_cons, List.sum_cons, lC, List.length_nil] at *; omega
  rw [parts_other b c acc r h]; have := ih (acc ++ [c]); simp only [lA, lC, List.length_nil] at *; omega
theorem pieces_tot (s : ByteArray) (b : UInt8) : ssTot (pieces s b) = s.size + 1 := by
 have h := parts_tot b s.data.toList []
 have e : s.data.toList.length = s.size := Array.length_toList
 unfold ssTot totN pieces
 rw [List.map_map, List.length_map]
 have h2 : ((fun x : ByteArray => x.size) ∘ fun l : List UInt8 => (⟨l.toArray⟩ : ByteArray)) = List.length := by
  funext l
  show (List.toArray l).size = _
  simp
 rw [h2]
 simp only [List.length_nil] at h
 omega
theorem ssTot_app (a b : List ByteArray) : ssTot (a ++ b) = ssTot a + ssTot b := by unfold ssTot totN; simp; omega
theorem dropLast_tot (L : List ByteArray) : ssTot L.dropLast ≤ ssTot L := by
 rcases List.eq_nil_or_concat L with rfl | ⟨a, b, rfl⟩
 · simp
 rw [List.concat_eq_append, List.dropLast_concat, ssTot_app]; omega
theorem lineL_tot (s : ByteArray) : ssTot (lineL s) ≤ s.size + 1 := by
 unfold lineL
 have h := pieces_tot s 10
 split
 · have := dropLast_tot (pieces s 10); omega
 omega
theorem ssTot_take (L : List ByteArray) (k : Nat) : ssTot (L.take k) ≤ ssTot L := by
 have h : ssTot L = ssTot (L.take k) + ssTot (L.drop k) := by rw [← ssTot_app, List.take_append_drop]
 omega
structure Read (L : List ByteArray) (k : Nat) (acc : List Ru) : Prop where
 len : acc.length = k
 le : k ≤ L.length
 on : readOn L [] = readOn (L.drop k) acc
 tot : rusTot acc + acc.length ≤ ssTot (L.take k)
theorem Read.start (L : List ByteArray) : Read L 0 [] := ⟨rfl, Nat.zero_le _, rfl, by simp [rusTot]⟩
theorem Read.stop {L : List ByteArray} {k : Nat} {acc : List Ru} {x : ByteArray} (h : Read L k acc) (hx : L[k]? = some x) (hr : readRu x = none) : readOn L [] = .inl k := by
 obtain ⟨h1, h2⟩ := List.getElem?_eq_some_iff.1 hx
 rw [h.on, List.drop_eq_getElem_cons h1, h2, readOn, hr, h.len]
theorem Read.next {L : List ByteArray} {k : Nat} {acc : List Ru} {x : ByteArray} {r : Ru} (h : Read L k acc) (hx : L[k]? = some x) (hr : readRu x = some r) : Read L (k + 1) (acc ++ [r]) := by
 obtain ⟨h1, h2⟩ := List.getElem?_eq_some_iff.1 hx
 refine ⟨by rw [lA, h.len]; rfl, h1, ?_, ?_⟩
 · rw [h.on, List.drop_eq_getElem_cons h1, h2, readOn, hr]
 have h3 := read_room hr
 have h4 := h.tot
 rw [rusTot_app, lA, List.take_succ_eq_append_getElem h1, h2, ssTot_app]
 simp only [rusTot, lC, List.length_nil]
 unfold ssTot at *
 simp only [totN, List.map_cons, List.map_nil, List.sum_cons, List.sum_nil, lC, List.length_nil] at *
 omega
theorem Read.done {L : List ByteArray} {k : Nat} {acc : List Ru} (h : Read L k acc) (hk : ¬ k < L.length) : readOn L [] = .inr acc := by
 rw [h.on, List.drop_eq_nil_of_le (by omega), readOn]
theorem Read.room {s : ByteArray} {k : Nat} {acc : List Ru} (h : Read (lineL s) k acc) (hs : s.size ≤ 1048576) : rusTot acc ≤ 1048576 ∧ acc.length ≤ 1048576 := by
 have h1 := h.tot
 have h2 := ssTot_take (lineL s) k
 have h3 := lineL_tot s
 have h4 := rusTot_ge acc
 cases acc with
 | nil => simp [rusTot]
 | cons a t => simp only [lC] at *; omega
theorem read_stop {s : ByteArray} {k : Nat} (h : readOn (lineL s) [] = .inl k) : readPr s = ([], (k : Int)) := by unfold readPr; rw [h]
theorem read_good {s : ByteArray} {l : List Ru} (h : readOn (lineL s) [] = .inr l) (ht : prStr l = s) : readPr s = (l, -1) := by unfold readPr; rw [h]; exact if_pos ht
theorem read_bad {s : ByteArray} {l : List Ru} (h : readOn (lineL s) [] = .inr l) (ht : ¬ prStr l = s) : readPr s = ([], ((lineL s).length : Int)) := by unfold readPr; rw [h]; exact if_neg ht
def smallPr (l : List Ru) : Bool := decide (1 ≤ l.length) && decide (l.length ≤ 10) && decide (rusTot l ≤ 400) && l.all (fun r => decide (r.params.length ≤ 2) && decide (r.vars.length ≤ 2))
def poolOk (s : ByteArray) : Bool := decide (s.size ≤ 1048576) && smallPr (readPr s).1
theorem poolOk_is {s : ByteArray} (h : poolOk s = true) : s.size ≤ 1048576 ∧ smallPr (readPr s).1 = true := by
 unfold poolOk at h
 rw [Bool.and_eq_true, decide_eq_true_eq] at h
 exact h
theorem five {a b c d e y : ByteArray} (hy : y ∈ [a, b, c, d, e]) (ha : poolOk a = true) (hb : poolOk b = true) (hc : poolOk c = true) (hd : poolOk d = true) (he : poolOk e = true) : poolOk y = true := by
 simp only [List.mem_cons, List.not_mem_nil, or_false] at hy
 rcases hy with rfl | rfl | rfl | rfl | rfl
 · exact ha
 · exact hb
 · exact hc
 · exact hd
 exact he
def tot (l : List ByteArray) : Nat := (l.map (·.size)).sum
section
variable {W W2 : World} {B : Nat} {T : TypeId} {x0 x1 x2 x3 x4 x5 x6 : Value}
theorem Box7.keep {S : List Nat} (h : Box7 W B T x0 x1 x2 x3 x4 x5 x6) (hf : Fr S W W2) (hS : B ∉ S) : Box7 W2 B T x0 x1 x2 x3 x4 x5 x6 := (hf.block B h.lt hS).trans h
theorem Box7.set0 (v : Value) (h : Box7 W B T x0 x1 x2 x3 x4 x5 x6) : Box7 (W.setCell ⟨B, 0, none⟩ v) B T v x1 x2 x3 x4 x5 x6 := by
 unfold Box7 at h ⊢
 simp [World.setCell, Array.getElem?_modify, h]
theorem Box7.set1 (v : Value) (h : Box7 W B T x0 x1 x2 x3 x4 x5 x6) : Box7 (W.setCell ⟨B, 1, none⟩ v) B T x0 v x2 x3 x4 x5 x6 := by
 unfold Box7 at h ⊢
 simp [World.setCell, Array.getElem?_modify, h]
theorem Box7.set2 (v : Value) (h : Box7 W B T x0 x1 x2 x3 x4 x5 x6) : Box7 (W.setCell ⟨B, 2, none⟩ v) B T x0 x1 v x3 x4 x5 x6 := by
 unfold Box7 at h ⊢
 simp [World.setCell, Array.getElem?_modify, h]
theorem Box7.set3 (v : Value) (h : Box7 W B T x0 x1 x2 x3 x4 x5 x6) : Box7 (W.setCell ⟨B, 3, none⟩ v) B T x0 x1 x2 v x4 x5 x6 := by
 unfold Box7 at h ⊢
 simp [World.setCell, Array.getElem?_modify, h]
theorem Box7.set4 (v : Value) (h : Box7 W B T x0 x1 x2 x3 x4 x5 x6) : Box7 (W.setCell ⟨B, 4, none⟩ v) B T x0 x1 x2 x3 v x5 x6 := by
 unfold Box7 at h ⊢
 simp [World.setCell, Array.getElem?_modify, h]
theorem Box7.set5 (v : Value) (h : Box7 W B T x0 x1 x2 x3 x4 x5 x6) : Box7 (W.setCell ⟨B, 5, none⟩ v) B T x0 x1 x2 x3 x4 v x6 := by
 unfold Box7 at h ⊢
 simp [World.setCell, Array.getElem?_modify, h]
theorem Box7.set6 (v : Value) (h : Box7 W B T x0 x1 x2 x3 x4 x5 x6) : Box7 (W.setCell ⟨B, 6, none⟩ v) B T x0 x1 x2 x3 x4 x5 v := by
 unfold Box7 at h ⊢
 simp [World.setCell, Array.getElem?_modify, h]
end
def sev (W : World) (B o : Nat) (x0 x1 x2 x3 x4 x5 x6 : Value) : World :=
 ((((((W.setCell ⟨B, o, none⟩ x0).setCell ⟨B, o + 1, none⟩ x1).setCell ⟨B, o + 2, none⟩ x2).setCell ⟨B, o + 3, none⟩ x3).setCell ⟨B, o + 4, none⟩ x4).setCell ⟨B, o + 5, none⟩ x5).setCell ⟨B, o + 6, none⟩ x6
theorem sev_fr (W : World) (B o : Nat) (x0 x1 x2 x3 x4 x5 x6 : Value) : Fr [B] W (sev W B o x0 x1 x2 x3 x4 x5 x6) := by
 have one : ∀ (V : World) (j : Nat) (v : Value), Fr [B] V (V.setCell ⟨B, j, none⟩ v) := fun V j v => Fr.set (S := [B]) V ⟨B, j, none⟩ v (by simp)
 have more : ∀ {V V2 : World} (j : Nat) (v : Value), Fr [B] V V2 → Fr [B] V (V2.setCell ⟨B, j, none⟩ v) := fun j v h => h.trans (one _ j v) (fun x hx => Or.inl hx)
 exact more _ _ (more _ _ (more _ _ (more _ _ (more _ _ (more _ _ (one W o x0))))))
theorem sev_box {W : World} {B : Nat} {T : TypeId} {y0 y1 y2 y3 y4 y5 y6 : Value} (h : Box7 W B T y0 y1 y2 y3 y4 y5 y6) (x0 x1 x2 x3 x4 x5 x6 : Value) : Box7 (sev W B 0 x0 x1 x2 x3 x4 x5 x6) B T x0 x1 x2 x3 x4 x5 x6 :=
 ((((((h.set0 x0).set1 x1).set2 x2).set3 x3).set4 x4).set5 x5).set6 x6
theorem fr_keeps {S bs : List Nat} {W W2 : World} (h : Fr S W W2) (hd : ∀ x ∈ bs, x ∉ S) : Keeps W W2 bs := ⟨h.size, fun x hx hlt => h.block x hlt (hd x hx)⟩
theorem Tryz.infoRu : (Tryz.prog.info? 34).map (fun i => (i.zero, i.size, i.bytes)) = some (some (.agg #[.string ⟨#[]⟩, .string ⟨#[]⟩, .slice none 0 0, .slice none 0 0, .int .i64 0, .string ⟨#[]⟩, .slice none 0 0]), 7, 128) := by kernel_rfl
def PsIs (w : World) (v : Value) (xs : List ByteArray) (bs : List Nat) : Prop := bs = v.ownBlock.toList ∧ OwnsL 0 w v xs ∧ ∀ x ∈ xs, x.size ≤ 9223372036854775807
theorem PsIs.ss {w : World} {v : Value} {xs : List ByteArray} {bs : List Nat} (h : PsIs w v xs bs) : SsIs w v xs bs := by
 obtain ⟨rfl, ho, hx⟩ := h
 have hc := fun (g : Nat) (e : v.ownBlock = some g) (j : Nat) (u : Value) (hu : (xs.map Value.string)[j]? = some u) => World.ownsRow.cells ho (g := g) e j u hu
 rcases ho.2 with ⟨rfl, h0⟩ | ⟨g, cap, cur, rfl, -, hg, h1, h2, -⟩
 · obtain rfl : xs = [] := List.eq_nil_of_length_eq_zero h0
   exact ⟨_, _, rfl, nR _, by omega, hx, Or.inl ⟨rfl, rfl⟩⟩
 have hlt : g < w.heap.size := (Array.getElem?_eq_some_iff.1 hg).1
 refine ⟨_, _, rfl, h1, by unfold maxLen at h2; omega, hx, Or.inr ⟨g, 0, rfl, hlt, rfl, fun i x hi => ?_⟩⟩
 have h3 := hc g rfl i (.string x) (by rw [List.getElem?_map, hi]; rfl)
 rw [add_litRu] at h3
 exact h3
theorem PsIs.keeps {w w' : World} {v : Value} {xs : List ByteArray} {bs : List Nat} (h : PsIs w v xs bs) (hk : Keeps w w' bs) : PsIs w' v xs bs := by
 obtain ⟨rfl, ho, hx⟩ := h
 exact ⟨rfl, row_on ho (fun k e => hk.2 k (by simp [e]) (World.ownsRow.lt ho k e).2), hx⟩
theorem ps_nil (W : World) : PsIs W (.slice none 0 0) [] [] := ⟨rfl, World.ownsRow_nil _ _ _ _, fun x hx => by cases hx⟩
theorem row_zero {w : World} {B : Nat} {e : TypeId} {size : Nat} {v : Value} {n : Nat} {xs : List Value} (h : w.ownsRow B e size v n xs) : w.ownsRow 0 e size v n xs := by
 refine ⟨h.1, ?_⟩
 rcases h.2 with h2 | ⟨g, cap, cur, h3, -, h4⟩
 · exact Or.inl h2
 exact Or.inr ⟨g, cap, cur, h3, Nat.zero_le _, h4⟩
theorem owns_ps {B : Nat} {w : World} {v : Value} {xs : List ByteArray} (h : OwnsL B w v xs) (hx : ∀ x ∈ xs, x.size ≤ 9223372036854775807) : ∃ bs, PsIs w v xs bs ∧ Mine w B bs := by
 refine ⟨_, ⟨rfl, row_zero h, hx⟩, ?_⟩
 have hf := fun (g : Nat) (e : v.ownBlock = some g) => World.ownsRow.lt h g e
 rcases h.2 with ⟨rfl, h0⟩ | ⟨g, cap, cur, rfl, hb, hg, h1, h2, -⟩
 · exact Mine.nil _ _
 refine ⟨by simp [Value.ownBlock], fun x hx => ?_, fun x hx o => ?_⟩
 · simp [Value.ownBlock] at hx; subst hx; exact hf _ rfl
 simp [Value.ownBlock] at hx; subst hx; exact World.ownsRow.frozenAt h o
def RuS (w : World) (v : Value) (r : Ru) (bs : List Nat) : Prop :=
 ∃ v1 v2 u b1 b2 b3, v = .agg #[.string r.name, .string r.con, v1, v2, .int .i64 r.body.kind, .string r.body.name, u] ∧ r.name.size ≤ 9223372036854775807 ∧ r.con.size ≤ 9223372036854775807 ∧ bs = b1 ++ (b2 ++ b3) ∧
  SsIs w v1 r.vars b1 ∧ PsIs w v2 r.params b2 ∧ ExIs w (.agg #[.int .i64 r.body.kind, .string r.body.name, u]) r.body b3
theorem RuS.ru {w : World} {v : Value} {r : Ru} {bs : List Nat} (h : RuS w v r bs) : RuIs w v r bs := by
 obtain ⟨v1, v2, u, b1, b2, b3, e, h1, h2, h3, h4, h5, h6⟩ := h
 exact ⟨v1, v2, u, b1, b2, b3, e, h1, h2, h3, h4, h5.ss, h6⟩
theorem RuS.keeps {w w' : World} {v : Value} {r : Ru} {bs : List Nat} (h : RuS w v r bs) (hk : Keeps w w' bs) : RuS w' v r bs := by
 obtain ⟨v1, v2, u, b1, b2, b3, e, h1, h2, rfl, h3, h4, h5⟩ := h
 exact ⟨v1, v2, u, b1, b2, b3, e, h1, h2, rfl, h3.keeps ⟨hk.1, fun x hx => hk.2 x (by simp [hx])⟩, h4.keeps ⟨hk.1, fun x hx => hk.2 x (by simp [hx])⟩, h5.keeps ⟨hk.1, fun x hx => hk.2 x (by simp [hx])⟩⟩
def SCells (W : World) : List Ru → List Value → List Nat → Prop
 | [], vs, bs => vs = [] ∧ bs = []
 | r :: t, vs, bs => ∃ v1 v2 u b1 vs2 b2, vs = [.string r.name, .string r.con, v1, v2, .int .i64 r.body.kind, .string r.body.name, u] ++ vs2 ∧ bs = b1 ++ b2 ∧ RuS W (.agg #[.string r.name, .string r.con, v1, v2, .int .i64 r.body.kind, .string r.body.name, u]) r b1 ∧ SCells W t vs2 b2
theorem SCells.keeps {W W2 : World} : ∀ {l : List Ru} {vs : List Value} {bs : List Nat}, SCells W l vs bs → Keeps W W2 bs → SCells W2 l vs bs := by
 intro l
 induction l with
 | nil => intro vs bs h _; exact h
 | cons e r ih =>
  intro vs bs h hk
  obtain ⟨v1, v2, u, b1, vs2, b2, e1, rfl, h1, h2⟩ := h
  exact ⟨v1, v2, u, b1, vs2, b2, e1, rfl, h1.keeps ⟨hk.1, fun x hx => hk.2 x (List.mem_append_left _ hx)⟩, ih h2 ⟨hk.1, fun x hx => hk.2 x (List.mem_append_right _ hx)⟩⟩
theorem SCells.snoc {W : World} {r : Ru} {v1 v2 u : Value} {b1 : List Nat} (h1 : RuS W (.agg #[.string r.name, .string r.con, v1, v2, .int .i64 r.body.kind, .string r.body.name, u]) r b1) : ∀ {l : List Ru} {vs : List Value} {bs : List Nat}, SCells W l vs bs → SCells W (l ++ [r]) (vs ++ [.string r.name, .string r.con, v1, v2, .int .i64 r.body.kind, .string r.body.name, u]) (bs ++ b1) := by
 intro l
 induction l with
 | nil =>
  intro vs bs h
  obtain ⟨rfl, rfl⟩ := h
  exact ⟨v1, v2, u, b1, [], [], rfl, by simp, h1, rfl, rfl⟩
 | cons x r ih =>
  intro vs bs h
  obtain ⟨y1, y2, y, b3, vs2, b2, rfl, rfl, h3, h2⟩ := h
  exact ⟨y1, y2, y, b3, _, _, by rw [List.append_assoc], by rw [List.append_assoc], h3, ih h2⟩
theorem SCells.rus {W : World} {g o : Nat} : ∀ {l : List Ru} {vs : List Value} {bs : List Nat} (i : Nat), SCells W l vs bs → (∀ j u, vs[j]? = some u → W.cell? ⟨g, o + i * 7 + j, none⟩ = some u) → RusAt W g o i l bs := by
 intro l
 induction l with
 | nil => intro vs bs i h _; exact h.2
 | cons e r ih =>
  intro vs bs i h hc
  obtain ⟨v1, v2, u, b1, vs2, b2, rfl, rfl, h1, h2⟩ := h
  refine ⟨b1, b2, rfl, ⟨v1, v2, u, ⟨hc 0 _ rfl, hc 1 _ rfl, hc 2 _ rfl, hc 3 _ rfl, hc 4 _ rfl, hc 5 _ rfl, hc 6 _ rfl⟩, h1.ru⟩, ih (i + 1) h2 (fun j v hj => ?_)⟩
  have h3 := hc (j + 7) v (by rw [List.getElem?_append_right (by simp)]; simpa using hj)
  rw [show o + i * 7 + (j + 7) = o + (i + 1) * 7 + j by omega] at h3
  exact h3
structure SKids (base : Nat) (W : World) (v : Value) (l : List Ru) (bs : List Nat) : Prop where
 row : ∃ vs, W.ownsRow base 34 7 v l.length vs ∧ SCells W l vs bs
 mine : Mine W base bs
 apart : ∀ g, v.ownBlock = some g → g ∉ bs
theorem SKids.mono {a b : Nat} {W : World} {v : Value} {l : List Ru} {bs : List Nat} (h : SKids a W v l bs) (hab : b ≤ a) : SKids b W v l bs := by
 obtain ⟨⟨vs, hr, hc⟩, hm, ha⟩ := h
 refine ⟨⟨vs, ⟨hr.1, ?_⟩, hc⟩, hm.mono hab, ha⟩
 rcases hr.2 with h2 | ⟨g, cap, cur, h3, h4, h5⟩
 · exact Or.inl h2
 exact Or.inr ⟨g, cap, cur, h3, nT hab h4, h5⟩
theorem SKids.nilled (base : Nat) (W : World) : SKids base W (.slice none 0 0) [] [] := ⟨⟨[], World.ownsRow_nil _ _ _ _, rfl, rfl⟩, Mine.nil _ _, fun g h => by cases h⟩
theorem SKids.keep {base : Nat} {W W2 : World} {v : Value} {l : List Ru} {bs S : List Nat} (h : SKids base W v l bs) (hf : Fr S W W2) (hS : ∀ x ∈ S, x < base) : SKids base W2 v l bs := by
 obtain ⟨⟨vs, hr, hc⟩, hm, ha⟩ := h
 have hk : Keeps W W2 bs := ⟨hf.size, fun x hx hlt => hf.block x hlt (fun hs => by have := hS x hs; have := (hm.range x hx).1; omega)⟩
 exact ⟨⟨vs, row_on hr (fun k e => hf.block k (hr.lt k e).2 (fun hs => by have := hS k hs; have := (hr.lt k e).1; omega)), hc.keeps hk⟩, hm.keeps hk, ha⟩
theorem SKids.form {base : Nat} {W : World} {v : Value} {l : List Ru} {bs : List Nat} (h : SKids base W v l bs) : ∃ A c, v = .slice A l.length c ∧ l.length ≤ c ∧ c ≤ maxLen := by
 obtain ⟨⟨vs, hr, hc⟩, -, -⟩ := h
 rcases hr.2 with ⟨rfl, h0⟩ | ⟨g, cap, cur, rfl, -, -, h1, h2, -⟩
 · exact ⟨Option.none, 0, by rw [h0], by omega, by unfold maxLen; omega⟩
 exact ⟨_, cap, rfl, h1, h2⟩
theorem SKids.is {base : Nat} {W : World} {v : Value} {l : List Ru} {bs : List Nat} (h : SKids base W v l bs) : ∃ bs2, RsIs W v l bs2 ∧ Mine W base bs2 := by
 obtain ⟨⟨vs, hr, hc⟩, hm, ha⟩ := h
 rcases hr.2 with ⟨rfl, h0⟩ | ⟨g, cap, cur, rfl, hb, hg, h1, h2, -⟩
 · obtain rfl : l = [] := List.eq_nil_of_length_eq_zero h0
   obtain ⟨-, rfl⟩ := hc
   exact ⟨[], ⟨_, _, rfl, nR _, by omega, Or.inl ⟨rfl, rfl⟩⟩, Mine.nil _ _⟩
 have hlt : g < W.heap.size := (Array.getElem?_eq_some_iff.1 hg).1
 refine ⟨g :: bs, ⟨_, _, rfl, h1, by unfold maxLen at h2; omega, Or.inr ⟨g, 0, bs, rfl, hlt, rfl, hc.rus 0 (fun j u hj => ?_)⟩⟩, ?_⟩
 · have h3 := hr.cells (g := g) rfl j u hj
   rw [show (⟨g, 0, none⟩ : Addr).add j = ⟨g, 0 + 0 * 7 + j, none⟩ by unfold Addr.add; split <;> simp_all] at h3
   exact h3
 refine ⟨List.nodup_cons.2 ⟨ha g rfl, hm.nodup⟩, fun x hx => ?_, fun x hx o => ?_⟩
 · rcases List.mem_cons.1 hx with rfl | hx
   · exact ⟨hb, hlt⟩
   exact hm.range x hx
 rcases List.mem_cons.1 hx with rfl | hx
 · exact hr.frozenAt o
 exact hm.free x hx o
theorem SKids.push {base : Nat} {W W3 : World} {v : Value} {l : List Ru} {bs b1 : List Nat} {r : Ru} {v1 v2 u : Value} {vs : List Value} {o : Obj} {g cap C : Nat} (h : SKids base W v l bs) (hC : base ≤ C) (hC2 : ∀ x, x ∈ bs ∨ v.ownBlock = some x → x < C)
 (hvs : W.ownsRow base 34 7 v l.length vs ∧ SCells W l vs bs) (he : RuS W (.agg #[.string r.name, .string r.con, v1, v2, .int .i64 r.body.kind, .string r.body.name, u]) r b1) (hm : Mine W C b1)
 (ho : W3.ownsRow base 34 7 (.slice (some ⟨g, 0, none⟩) (l.length + 1) cap) (l.length + 1) (vs ++ [.string r.name, .string r.con, v1, v2, .int .i64 r.body.kind, .string r.body.name, u])) (hg : (W.alloc o).grownBy W3 v.ownBlock) (hat : v.ownBlock = some g ∨ g = (W.alloc o).heap.size) :
 SKids base W3 (.slice (some ⟨g, 0, none⟩) (l.length + 1) cap) (l ++ [r]) (bs ++ b1) := by
 have hl : ∀ x ∈ bs ++ b1, x < W.heap.size ∧ v.ownBlock ≠ some x := fun x hx => by
  rcases List.mem_append.1 hx with hx | hx
  · exact ⟨(h.mine.range x hx).2, fun hh => h.apart x hh hx⟩
  exact ⟨(hm.range x hx).2, fun hh => by have := hC2 x (Or.inr hh); have := (hm.range x hx).1; omega⟩
 have hk : Keeps W W3 (bs ++ b1) := ⟨by have := hg.size; simp at this; omega, fun x hx hlt => (hg.block x (by simp; omega) (fun hh => (hl x hx).2 hh.symm)).trans (Below.heap_alloc W o x hlt)⟩
 refine ⟨⟨_, by rw [lA]; exact ho, (hvs.2.snoc he).keeps hk⟩, ?_, fun k hkk hx => ?_⟩
 · have hj : Mine W base (bs ++ b1) := by
    refine ⟨?_, fun x hx => ?_, fun x hx => ?_⟩
    · rw [List.nodup_append]
      exact ⟨h.mine.nodup, hm.nodup, fun a ha b hb e => by have := hC2 a (Or.inl ha); have := (hm.range b hb).1; omega⟩
    · rcases List.mem_append.1 hx with hx | hx
      · exact h.mine.range x hx
      exact ⟨nT hC (hm.range x hx).1, (hm.range x hx).2⟩
    rcases List.mem_append.1 hx with hx | hx
    · exact h.mine.free x hx
    exact hm.free x hx
   exact hj.keeps hk
 obtain rfl : k = g := by simpa [Value.ownBlock, eq_comm] using hkk
 rcases hat with hat | hat
 · exact (hl k hx).2 hat
 have := (hl k hx).1; simp at hat; omega
def RCells (W : World) : List Ru → List Value → List Nat → Prop
 | [], vs, bs => vs = [] ∧ bs = []
 | r :: t, vs, bs => ∃ v1 v2 u b1 vs2 b2, vs = [.string r.name, .string r.con, v1, v2, .int .i64 r.body.kind, .string r.body.name, u] ++ vs2 ∧ bs = b1 ++ b2 ∧ RuIs W (.agg #[.string r.name, .string r.con, v1, v2, .int .i64 r.body.kind, .string r.body.name, u]) r b1 ∧ RCells W t vs2 b2
theorem RCells.rus {W : World} {g o : Nat} : ∀ {l : List Ru} {vs : List Value} {bs : List Nat} (i : Nat), RCells W l vs bs → (∀ j u, vs[j]? = some u → W.cell? ⟨g, o + i * 7 + j, none⟩ = some u) → RusAt W g o i l bs := by
 intro l
 induction l with
 | nil => intro vs bs i h _; exact h.2
 | cons e r ih =>
  intro vs bs i h hc
  obtain ⟨v1, v2, u, b1, vs2, b2, rfl, rfl, h1, h2⟩ := h
  refine ⟨b1, b2, rfl, ⟨v1, v2, u, ⟨hc 0 _ rfl, hc 1 _ rfl, hc 2 _ rfl, hc 3 _ rfl, hc 4 _ rfl, hc 5 _ rfl, hc 6 _ rfl⟩, h1⟩, ih (i + 1) h2 (fun j v hj => ?_)⟩
  have h3 := hc (j + 7) v (by rw [List.getElem?_append_right (by simp)]; simpa using hj)
  rw [show o + i * 7 + (j + 7) = o + (i + 1) * 7 + j by omega] at h3
  exact h3
end Go.Proofs.YtiaknfnhmoinpaaGreat
