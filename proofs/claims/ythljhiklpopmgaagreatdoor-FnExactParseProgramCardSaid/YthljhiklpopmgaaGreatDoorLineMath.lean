/- A part of the proof of the seat's statement: LineMath. Condition: as each says. -/
import Derived.Lib.Split
import Derived.Test.YthljhiklpopmgaaGreatDoorPrText
import Derived.Lib.IndexLaws
import Derived.Lib.Strings
import Derived.Lib.Walk
set_option maxHeartbeats 8000000
namespace Go.Proofs.YthljhiklpopmgaaGreatDoor
open Go
def parts (b : UInt8) : List UInt8 → List UInt8 → List (List UInt8)
 | acc, [] => [acc]
 | acc, c :: r => if c = b then acc :: parts b [] r else parts b (acc ++ [c]) r
theorem parts_nil (b : UInt8) (acc : List UInt8) : parts b acc [] = [acc] := rfl
theorem parts_hit (b : UInt8) (acc r : List UInt8) : parts b acc (b :: r) = acc :: parts b [] r := by simp [parts]
theorem parts_other (b c : UInt8) (acc r : List UInt8) (h : c ≠ b) : parts b acc (c :: r) = parts b (acc ++ [c]) r := by simp [parts, h]
theorem index_cons (b c : UInt8) (r : List UInt8) : Lib.index (c :: r) [b] = if c = b then 0 else if Lib.index r [b] = -1 then -1 else Lib.index r [b] + 1 := by
 rw [Lib.index]
 by_cases h : c = b
 · subst h; simp
 have hp : ([b].isPrefixOf (c :: r)) = false := by
  simp only [List.isPrefixOf, Bool.and_true, beq_eq_false_iff_ne]
  exact fun e => h e.symm
 rw [hp, if_neg (by simp), if_neg h]
 by_cases h2 : Lib.index r [b] = -1
 · simp [h2]
 simp [h2]
theorem parts_miss (b : UInt8) : ∀ (l acc : List UInt8), Lib.index l [b] = -1 → parts b acc l = [acc ++ l] := by
 intro l
 induction l with
 | nil => intro acc _; simp [parts]
 | cons c r ih =>
  intro acc h
  rw [index_cons] at h
  by_cases hc : c = b
  · rw [if_pos hc] at h; cases h
  rw [if_neg hc] at h
  have hr : Lib.index r [b] = -1 := by
   by_cases h2 : Lib.index r [b] = -1
   · exact h2
   rw [if_neg h2] at h
   have := Lib.index_ge r [b]
   omega
  rw [parts_other b c acc r hc, ih _ hr, List.append_assoc]
  rfl
theorem parts_index (b : UInt8) : ∀ (l acc : List UInt8) (i : Nat), Lib.index l [b] = i → parts b acc l = (acc ++ l.take i) :: parts b [] (l.drop (i + 1)) := by
 intro l
 induction l with
 | nil => intro acc i h; simp [Lib.index] at h
 | cons c r ih =>
  intro acc i h
  rw [index_cons] at h
  by_cases hc : c = b
  · rw [if_pos hc] at h
    obtain rfl : i = 0 := by omega
    subst hc
    rw [parts_hit]; simp
  rw [if_neg hc] at h
  have hge := Lib.index_ge r [b]
  have h2 : ¬ Lib.index r [b] = -1 := fun e => by rw [if_pos e] at h; omega
  rw [if_neg h2] at h
  obtain ⟨j, rfl⟩ : ∃ j, i = j + 1 := ⟨i - 1, by omega⟩
  rw [parts_other b c acc r hc, ih _ j (by omega), List.append_assoc]
  simp
theorem split_parts (b : UInt8) : ∀ (n : Nat) (l : List UInt8), l.length ≤ n → Lib.splitK [b] 0 (Lib.count l [b]) l = parts b [] l := by
 intro n
 induction n with
 | zero =>
  intro l h
  obtain rfl : l = [] := List.eq_nil_of_length_eq_zero (by omega)
  rfl
 | succ n ih =>
  intro l hl
  have hge := Lib.index_ge l [b]
  by_cases h : Lib.index l [b] = -1
  · rw [Lib.count_miss h, parts_miss b l [] h]; rfl
  obtain ⟨i, hi⟩ : ∃ i : Nat, Lib.index l [b] = i := ⟨(Lib.index l [b]).toNat, by omega⟩
  have hroom := Lib.index_room l [b] (by omega)
  simp only [List.length_cons, List.length_nil] at hroom
  have hdl : (l.drop (i + 1)).length ≤ n := by rw [List.length_drop]; omega
  have hn : ¬ (Lib.index l [b] == -1) = true := fun e => h (beq_iff_eq.1 e)
  rw [Lib.count_hit (List.cons_ne_nil _ _) hi, parts_index b l [] i hi, Nat.add_comm 1, Lib.splitK, if_neg hn, show (Lib.index l [b]).toNat = i by omega]
  simp only [List.length_cons, List.length_nil, Nat.zero_add, Nat.add_zero, List.nil_append]
  rw [ih _ hdl]
theorem parts_length (b : UInt8) : ∀ l acc, (parts b acc l).length ≤ l.length + 1 := by
 intro l
 induction l with
 | nil => intro acc; simp [parts]
 | cons c r ih =>
  intro acc
  by_cases h : c = b
  · subst h; rw [parts_hit]; have := ih []; simp only [List.length_cons]; omega
  rw [parts_other b c acc r h]; have := ih (acc ++ [c]); simp only [List.length_cons]; omega
theorem split_length (b : UInt8) (l : List UInt8) : (parts b [] l).length = Lib.count l [b] + 1 := by
 suffices h : ∀ (n : Nat) (l : List UInt8), l.length ≤ n → (parts b [] l).length = Lib.count l [b] + 1 from h l.length l (Nat.le_refl _)
 intro n
 induction n with
 | zero =>
  intro l h
  obtain rfl : l = [] := List.eq_nil_of_length_eq_zero (by omega)
  rfl
 | succ n ih =>
  intro l hl
  have hge := Lib.index_ge l [b]
  by_cases h : Lib.index l [b] = -1
  · rw [Lib.count_miss h, parts_miss b l [] h]; rfl
  obtain ⟨i, hi⟩ : ∃ i : Nat, Lib.index l [b] = i := ⟨(Lib.index l [b]).toNat, by omega⟩
  have hroom := Lib.index_room l [b] (by omega)
  simp only [List.length_cons, List.length_nil] at hroom
  have hdl : (l.drop (i + 1)).length ≤ n := by rw [List.length_drop]; omega
  rw [Lib.count_hit (List.cons_ne_nil _ _) hi, parts_index b l [] i hi, List.length_cons, ih _ hdl]
  simp only [List.length_cons, List.length_nil, Nat.zero_add]
  omega
def pieces (s : ByteArray) (b : UInt8) : List ByteArray := (parts b [] s.data.toList).map fun l => ⟨l.toArray⟩
theorem bytes_of (s : ByteArray) : (⟨s.data.toList.toArray⟩ : ByteArray) = s := by
 have h : s.data.toList.toArray = s.data := by simp
 rw [h]
theorem pieces_eq (s : ByteArray) (b : UInt8) (xs : List ByteArray) (h : xs.map (·.data.toList) = parts b [] s.data.toList) : xs = pieces s b := by
 unfold pieces
 rw [← h, List.map_map]
 conv => lhs; rw [← List.map_id xs]
 exact List.map_congr_left fun x _ => (bytes_of x).symm
theorem pieces_length (s : ByteArray) (b : UInt8) : (pieces s b).length = Lib.countB s ⟨#[b]⟩ + 1 := by
 unfold pieces
 rw [List.length_map]; exact split_length b _
theorem pieces_le (s : ByteArray) (b : UInt8) : (pieces s b).length ≤ s.size + 1 := by
 unfold pieces
 rw [List.length_map]
 have := parts_length b s.data.toList []
 have e : s.data.toList.length = s.size := Array.length_toList
 omega
open Go Go.RowKit
def lineL (s : ByteArray) : List ByteArray := if ((pieces s 10).getLast?.getD ⟨#[]⟩).size = 0 then (pieces s 10).dropLast else pieces s 10
def readOn : List ByteArray → List Ru → Sum Nat (List Ru)
 | [], acc => .inr acc
 | x :: t, acc => match readRu x with
  | none => .inl acc.length
  | some r => readOn t (acc ++ [r])
def readPr (s : ByteArray) : List Ru × Int := match readOn (lineL s) [] with
 | .inl k => ([], (k : Int))
 | .inr l => if prStr l = s then (l, -1) else ([], ((lineL s).length : Int))
theorem join_ge (L : List (List UInt8)) : Lib.lens L + L.length ≤ (Lib.join L [44]).length + 1 := by
 cases L with
 | nil => simp [Lib.lens]
 | cons x r => rw [Lib.join_length]; simp only [List.length_cons, List.length_nil]; omega
theorem tot_text (n : Nat) : (∀ e : Ex, exSize e ≤ n → exAll e = true → exTot e ≤ (exText e).length) ∧ (∀ l : List Ex, exSizes l ≤ n → exAllL l = true → exTots l ≤ Lib.lens (exTexts l) + l.length) := by
 induction n with
 | zero =>
  refine ⟨fun e h => by have := exSize_pos e; omega, fun l h _ => ?_⟩
  cases l with
  | nil => simp [exTots]
  | cons e r => rw [exSizes] at h; have := exSize_pos e; omega
 | succ n ih =>
  have hE : ∀ e : Ex, exSize e ≤ n + 1 → exAll e = true → exTot e ≤ (exText e).length := by
   intro e h ha
   cases e with
   | mk k s l =>
    rw [exSize] at h
    rw [exAll, Bool.and_eq_true] at ha
    have h1 := ih.2 l (by omega) ha.1
    have hF := ha.2
    unfold exFormOf at hF
    rw [exText, exTot]
    have hsz : s.data.toList.length = s.size := Array.length_toList
    by_cases h4 : k = 4
    · subst h4
      simp only [show ¬ (4 : Int) = 1 by decide, show ¬ (4 : Int) = 2 by decide, show ¬ (4 : Int) = 3 by decide, if_false, if_true, Bool.and_eq_true, decide_eq_true_eq] at hF
      obtain rfl : l = [] := List.eq_nil_of_length_eq_zero hF.2
      rw [if_pos rfl, exTots]
      simp only [List.length_cons, List.length_nil]
      omega
    rw [if_neg h4]
    by_cases h5 : k = 1 ∨ (k = 2 ∧ l.length = 0)
    · rw [if_pos h5, hsz]
      have hl : l = [] := by
       rcases h5 with h5 | h5
       · subst h5
         rw [if_pos rfl, Bool.and_eq_true, decide_eq_true_eq] at hF
         exact List.eq_nil_of_length_eq_zero hF.2
       exact List.eq_nil_of_length_eq_zero h5.2
      subst hl
      rw [exTots]; omega
    rw [if_neg h5]
    have h6 := join_ge (exTexts l)
    have h7 : (exTexts l).length = l.length := by rw [texts_map, List.length_map]
    simp only [List.length_append, List.length_cons, List.length_nil, hsz]
    omega
  refine ⟨hE, ?_⟩
  intro l
  induction l with
  | nil => intro _ _; simp [exTots]
  | cons e r ihl =>
   intro hl ha
   rw [exSizes] at hl
   have hp := exSize_pos e
   rw [exAllL, Bool.and_eq_true] at ha
   have h1 := hE e (by omega) ha.1
   have h2 := ihl (by omega) ha.2
   have h3 : Lib.lens (exTexts (e :: r)) = (exText e).length + Lib.lens (exTexts r) := by rw [exTexts]; simp [Lib.lens]
   rw [exTots, h3, List.length_cons]
   omega
theorem parS_ge (xs : List ByteArray) : totS xs + xs.length + 1 ≤ (parS xs).size := by
 have h7 := join_ge (listsS xs)
 rw [lens_lists] at h7
 have h8 : (listsS xs).length = xs.length := by simp [listsS]
 rw [h8] at h7
 show _ ≤ (List.toArray _).size
 simp
 omega
theorem args_ge {r : Ru} (h : headOk r = true) : r.con.size + (ssTot r.vars + ssTot r.params) ≤ totS (argTexts r) + (argTexts r).length := by
 unfold argTexts
 rw [totS_app, List.length_append]
 have h2 : totS r.params + r.params.length = ssTot r.params := by unfold ssTot; rw [totS_totN]; omega
 unfold headOk at h
 rw [Bool.and_eq_true] at h
 by_cases hc : r.con.size = 0
 · have h3 := h.1
   rw [if_pos hc, decide_eq_true_eq] at h3
   have h4 : r.vars = [] := List.eq_nil_of_length_eq_zero h3
   rw [if_pos hc, h4, hc]
   simp only [List.length_nil, show totS [] = 0 from rfl, show ssTot [] = 0 from rfl]
   omega
 rw [if_neg hc]
 simp only [List.length_cons, List.length_nil, show totS [patStr r] = (patStr r).size from by simp [totS]]
 have h5 : r.con.size + ssTot r.vars ≤ (patStr r).size := by
  unfold patStr
  have h6 := parS_ge r.vars
  split
  · rename_i h7
    have h8 : r.vars = [] := List.eq_nil_of_length_eq_zero h7
    rw [h8, show ssTot [] = 0 from rfl]
    omega
  rw [ByteArray.size_append]
  unfold ssTot
  rw [← totS_totN]
  omega
 omega
theorem read_room {line : ByteArray} {r : Ru} (h : readRu line = some r) : ruTot r + 2 ≤ line.size := by
 obtain ⟨hh, hv, hs⟩ := read_some h
 rw [← hs]
 unfold ruStr
 rw [ByteArray.size_append, ByteArray.size_append, ByteArray.size_append]
 have h1 := parS_ge (argTexts r)
 have h2 := args_ge hh
 have h3 : exTot r.body ≤ (exFmt r.body).size := by
  unfold exFmt
  rw [if_pos hv, str_size]
  exact (tot_text _).1 r.body (Nat.le_refl _) (valid_all hv).1
 have h4 : eqStr.size = 3 := rfl
 unfold ruTot
 omega
theorem parts_tot (b : UInt8) : ∀ l acc, ((parts b acc l).map List.length).sum + (parts b acc l).length = acc.length + l.length + 1 := by
 intro l
 induction l with
 | nil => intro acc; simp [parts]
 | cons c r ih =>
  intro acc
  by_cases h : c = b
  · subst h; rw [parts_hit]; have := ih []; simp only [List.map_cons, List.sum_cons, List.length_cons, List.length_nil] at *; omega
  rw [parts_other b c acc r h]; have := ih (acc ++ [c]); simp only [List.length_append, List.length_cons, List.length_nil] at *; omega
theorem pieces_tot (s : ByteArray) (b : UInt8) : ssTot (pieces s b) = s.size + 1 := by
 have h := parts_tot b s.data.toList []
 have e : s.data.toList.length = s.size := Array.length_toList
 unfold ssTot totN pieces
 rw [List.map_map, List.length_map]
 have h2 : ((fun x : ByteArray => x.size) ∘ fun l : List UInt8 => (⟨l.toArray⟩ : ByteArray)) = List.length := by
  funext l
  show (List.toArray l).size = _
  simp
 rw [h2]
 simp only [List.length_nil] at h
 omega
theorem ssTot_app (a b : List ByteArray) : ssTot (a ++ b) = ssTot a + ssTot b := by unfold ssTot totN; simp; omega
theorem dropLast_tot (L : List ByteArray) : ssTot L.dropLast ≤ ssTot L := by
 rcases List.eq_nil_or_concat L with rfl | ⟨a, b, rfl⟩
 · simp
 rw [List.concat_eq_append, List.dropLast_concat, ssTot_app]; omega
theorem lineL_tot (s : ByteArray) : ssTot (lineL s) ≤ s.size + 1 := by
 unfold lineL
 have h := pieces_tot s 10
 split
 · have := dropLast_tot (pieces s 10); omega
 omega
theorem ssTot_take (L : List ByteArray) (k : Nat) : ssTot (L.take k) ≤ ssTot L := by
 have h : ssTot L = ssTot (L.take k) + ssTot (L.drop k) := by rw [← ssTot_app, List.take_append_drop]
 omega
theorem len_tot (L : List ByteArray) : L.length ≤ ssTot L := by unfold ssTot; omega
structure Read (L : List ByteArray) (k : Nat) (acc : List Ru) : Prop where
 len : acc.length = k
 le : k ≤ L.length
 on : readOn L [] = readOn (L.drop k) acc
 tot : rusTot acc + acc.length ≤ ssTot (L.take k)
theorem Read.start (L : List ByteArray) : Read L 0 [] := ⟨rfl, Nat.zero_le _, rfl, by simp [rusTot]⟩
theorem Read.stop {L : List ByteArray} {k : Nat} {acc : List Ru} {x : ByteArray} (h : Read L k acc) (hx : L[k]? = some x) (hr : readRu x = none) : readOn L [] = .inl k := by
 obtain ⟨h1, h2⟩ := List.getElem?_eq_some_iff.1 hx
 rw [h.on, List.drop_eq_getElem_cons h1, h2, readOn, hr, h.len]
theorem Read.next {L : List ByteArray} {k : Nat} {acc : List Ru} {x : ByteArray} {r : Ru} (h : Read L k acc) (hx : L[k]? = some x) (hr : readRu x = some r) : Read L (k + 1) (acc ++ [r]) := by
 obtain ⟨h1, h2⟩ := List.getElem?_eq_some_iff.1 hx
 refine ⟨by rw [List.length_append, h.len]; rfl, h1, ?_, ?_⟩
 · rw [h.on, List.drop_eq_getElem_cons h1, h2, readOn, hr]
 have h3 := read_room hr
 have h4 := h.tot
 rw [rusTot_app, List.length_append, List.take_succ_eq_append_getElem h1, h2, ssTot_app]
 simp only [rusTot, List.length_cons, List.length_nil]
 unfold ssTot at *
 simp only [totN, List.map_cons, List.map_nil, List.sum_cons, List.sum_nil, List.length_cons, List.length_nil] at *
 omega
theorem Read.done {L : List ByteArray} {k : Nat} {acc : List Ru} (h : Read L k acc) (hk : ¬ k < L.length) : readOn L [] = .inr acc := by
 rw [h.on, List.drop_eq_nil_of_le (by omega), readOn]
theorem Read.room {s : ByteArray} {k : Nat} {acc : List Ru} (h : Read (lineL s) k acc) (hs : s.size ≤ 1048576) : rusTot acc ≤ 1048576 ∧ acc.length ≤ 1048576 := by
 have h1 := h.tot
 have h2 := ssTot_take (lineL s) k
 have h3 := lineL_tot s
 have h4 := rusTot_ge acc
 cases acc with
 | nil => simp [rusTot]
 | cons a t => simp only [List.length_cons] at *; omega
theorem read_stop {s : ByteArray} {k : Nat} (h : readOn (lineL s) [] = .inl k) : readPr s = ([], (k : Int)) := by unfold readPr; rw [h]
theorem read_good {s : ByteArray} {l : List Ru} (h : readOn (lineL s) [] = .inr l) (ht : prStr l = s) : readPr s = (l, -1) := by unfold readPr; rw [h]; exact if_pos ht
theorem read_bad {s : ByteArray} {l : List Ru} (h : readOn (lineL s) [] = .inr l) (ht : ¬ prStr l = s) : readPr s = ([], ((lineL s).length : Int)) := by unfold readPr; rw [h]; exact if_neg ht
def trimB (x : ByteArray) : ByteArray := ⟨(Lib.trimSuffix x.data.toList (⟨#[10]⟩ : ByteArray).data.toList).toArray⟩
theorem indexByte_index (c : UInt8) : ∀ l : List UInt8, Lib.indexByte l c = Lib.index l [c] := by
 intro l
 induction l with
 | nil => rfl
 | cons b r ih =>
  rw [index_cons, Lib.indexByte, ih]
  by_cases h : b = c
  · subst h; simp
  have h2 : (b == c) = false := by simpa using h
  rw [h2, if_neg h]
  by_cases h3 : Lib.index r [c] = -1
  · simp [h3]
  have h4 : (Lib.index r [c] == -1) = false := by simpa using h3
  rw [if_neg h3]
  simp [h4]
theorem ba_list (s : ByteArray) : (⟨s.data.toList.toArray⟩ : ByteArray) = s := bytes_of s
theorem ext_take (s : ByteArray) (i : Nat) : s.extract 0 i = ⟨(s.data.toList.take i).toArray⟩ := by
 apply ByteArray.ext
 apply Array.toList_inj.1
 simp [ByteArray.data_extract]
theorem ext_drop (s : ByteArray) (i : Nat) : s.extract i s.size = ⟨(s.data.toList.drop i).toArray⟩ := by
 apply ByteArray.ext
 apply Array.toList_inj.1
 simp [ByteArray.data_extract]
 exact List.take_of_length_le (by rw [List.length_drop, Array.length_toList]; exact Nat.le_refl _)
theorem last_cons {x : ByteArray} {L : List ByteArray} (h : L ≠ []) : (x :: L).getLast? = L.getLast? := by
 cases L with
 | nil => exact absurd rfl h
 | cons y t => rfl
theorem lineL_hit {s : ByteArray} {i : Nat} (h : Lib.index s.data.toList [10] = i) : lineL s = s.extract 0 i :: lineL (s.extract (i + 1) s.size) := by
 have hp : pieces s 10 = s.extract 0 i :: pieces (s.extract (i + 1) s.size) 10 := by
  unfold pieces
  rw [parts_index 10 s.data.toList [] i h, List.map_cons, List.nil_append, ← ext_take, ext_drop]
 have hne : pieces (s.extract (i + 1) s.size) 10 ≠ [] := fun e => by
  have := pieces_length (s.extract (i + 1) s.size) 10
  rw [e] at this
  cases this
 unfold lineL
 rw [hp, last_cons hne]
 split
 · rw [List.dropLast_cons_of_ne_nil hne]
 rfl
theorem lineL_miss {s : ByteArray} (h : Lib.index s.data.toList [10] = -1) (hs : ¬ s.size = 0) : lineL s = [s] := by
 have hp : pieces s 10 = [s] := by
  unfold pieces
  rw [parts_miss 10 _ [] h, List.map_cons, List.nil_append, ba_list]; rfl
 unfold lineL
 rw [hp]
 simp [hs]
theorem lineL_none {s : ByteArray} (hs : s.size = 0) : lineL s = [] := by
 have h0 : s.data.toList = [] := List.eq_nil_of_length_eq_zero (by rw [Array.length_toList]; exact hs)
 have hp : pieces s 10 = [⟨#[]⟩] := by
  unfold pieces
  rw [h0]; rfl
 unfold lineL
 rw [hp]; rfl
theorem trim_hit {s : ByteArray} {i : Nat} (h : Lib.indexByte s.data.toList 10 = i) : trimB (s.extract 0 (i + 1)) = s.extract 0 i := by
 obtain ⟨h1, -⟩ := Lib.indexByte_some h
 obtain ⟨hlt, h2⟩ := List.getElem?_eq_some_iff.1 h1
 have e1 : (s.extract 0 (i + 1)).data.toList = s.data.toList.take i ++ [10] := by
  rw [ext_take]
  show (List.toArray _).toList = _
  rw [List.take_succ_eq_append_getElem hlt, h2]
 have e2 : (⟨#[10]⟩ : ByteArray).data.toList = [10] := rfl
 unfold trimB Lib.trimSuffix
 rw [e1, e2]
 have e3 : Lib.hasSuffix (s.data.toList.take i ++ [10]) [10] = true := by
  unfold Lib.hasSuffix
  rw [List.isSuffixOf_iff_suffix]
  exact List.suffix_append _ _
 rw [e3, if_pos rfl, ext_take]
 simp
theorem trim_miss {s : ByteArray} (h : Lib.indexByte s.data.toList 10 = -1) : trimB s = s := by
 have h1 := Lib.indexByte_none h
 have e3 : Lib.hasSuffix s.data.toList [10] = false := by
  rw [Bool.eq_false_iff]
  intro hh
  unfold Lib.hasSuffix at hh
  rw [List.isSuffixOf_iff_suffix] at hh
  obtain ⟨t, ht⟩ := hh
  apply h1 t.length
  rw [← ht]
  simp
 unfold trimB Lib.trimSuffix
 rw [show (⟨#[10]⟩ : ByteArray).data.toList = [10] from rfl, e3]
 exact ba_list s
abbrev Ln : Type := { x : ByteArray // x.size ≤ 1048576 }
def trimL (x : Ln) : ByteArray := trimB x.1
theorem trimL_size (x : Ln) : (trimL x).size ≤ 1048576 := by
 have h := x.2
 have hs : x.1.data.toList.length = x.1.size := Array.length_toList
 unfold trimL trimB Lib.trimSuffix
 show (List.toArray _).size ≤ _
 rw [List.size_toArray]
 split
 · rw [List.length_take]; omega
 omega
def LInv (s : ByteArray) (pre : List Ln) (left : ByteArray) : Prop := pre.map trimL ++ lineL left = lineL s ∧ left.size ≤ s.size
theorem LInv.start (s : ByteArray) : LInv s [] s := ⟨rfl, Nat.le_refl _⟩
theorem LInv.hit {s left : ByteArray} {pre : List Ln} {i : Nat} (h : LInv s pre left) (hi : Lib.indexByte left.data.toList 10 = i) (x : Ln) (hx : x.1 = left.extract 0 (i + 1)) : LInv s (pre ++ [x]) (left.extract (i + 1) left.size) ∧ i < left.size := by
 have h2 : Lib.index left.data.toList [10] = i := by rw [← indexByte_index]; exact hi
 obtain ⟨h3, -⟩ := Lib.indexByte_some hi
 have h4 := (List.getElem?_eq_some_iff.1 h3).1
 rw [Array.length_toList] at h4
 refine ⟨⟨?_, ?_⟩, h4⟩
 · rw [← h.1, List.map_append, List.append_assoc, lineL_hit h2, ← trim_hit hi, ← hx]; rfl
 rw [ByteArray.size_extract]; have := h.2; omega
theorem LInv.miss {s left : ByteArray} {pre : List Ln} (h : LInv s pre left) (hi : Lib.indexByte left.data.toList 10 = -1) (hz : ¬ left.size = 0) (x : Ln) (hx : x.1 = left) : LInv s (pre ++ [x]) ⟨#[]⟩ := by
 have h2 : Lib.index left.data.toList [10] = -1 := by rw [← indexByte_index]; exact hi
 refine ⟨?_, Nat.zero_le _⟩
 rw [← h.1, List.map_append, List.append_assoc, lineL_miss h2 hz, lineL_none rfl, List.map_cons]
 have h3 : trimL x = left := by unfold trimL; rw [hx]; exact trim_miss hi
 rw [h3]; rfl
theorem LInv.done {s left : ByteArray} {pre : List Ln} (h : LInv s pre left) (hz : left.size = 0) : pre.map trimL = lineL s := by
 rw [← h.1, lineL_none hz, List.append_nil]
theorem LInv.room {s left2 : ByteArray} {pre : List Ln} {x : Ln} (h : LInv s (pre ++ [x]) left2) : pre.length < (lineL s).length := by
 rw [← h.1]; simp
theorem LInv.pre {s left : ByteArray} {pre : List Ln} (h : LInv s pre left) : ∃ t, pre.map trimL ++ t = lineL s := ⟨_, h.1⟩
theorem readOn_app : ∀ (a b : List ByteArray) (acc : List Ru), readOn (a ++ b) acc = match readOn a acc with
 | .inl k => .inl k
 | .inr acc2 => readOn b acc2 := by
 intro a
 induction a with
 | nil => intro b acc; rfl
 | cons x t ih =>
  intro b acc
  rw [List.cons_append, readOn, readOn]
  cases readRu x with
  | none => rfl
  | some r => exact ih b (acc ++ [r])
theorem readOn_room : ∀ (L : List ByteArray) (acc0 acc : List Ru), readOn L acc0 = .inr acc → rusTot acc + acc.length ≤ rusTot acc0 + acc0.length + ssTot L ∧ acc.length = acc0.length + L.length := by
 intro L
 induction L with
 | nil =>
  intro acc0 acc h
  cases h
  exact ⟨by omega, rfl⟩
 | cons x t ih =>
  intro acc0 acc h
  rw [readOn] at h
  cases hr : readRu x with
  | none => rw [hr] at h; cases h
  | some r =>
   rw [hr] at h
   obtain ⟨h1, h2⟩ := ih _ _ h
   have h3 := read_room hr
   rw [rusTot_app, List.length_append] at h1
   rw [List.length_append] at h2
   simp only [rusTot, List.length_cons, List.length_nil] at h1 h2
   refine ⟨?_, by rw [List.length_cons]; omega⟩
   have h4 : ssTot (x :: t) = x.size + 1 + ssTot t := by unfold ssTot totN; simp; omega
   omega
theorem read_all {s : ByteArray} {acc : List Ru} (h : readOn (lineL s) [] = .inr acc) (hs : s.size ≤ 1048576) : rusTot acc ≤ 1048576 ∧ acc.length = (lineL s).length := by
 obtain ⟨h1, h2⟩ := readOn_room _ _ _ h
 have h3 := lineL_tot s
 have h4 := rusTot_ge acc
 simp only [rusTot, List.length_nil, Nat.zero_add] at h1 h2
 refine ⟨?_, h2⟩
 cases acc with
 | nil => simp [rusTot]
 | cons a t => simp only [List.length_cons] at *; omega
def strLen : Value → Nat
 | .string s => s.size
 | _ => 0
end Go.Proofs.YthljhiklpopmgaaGreatDoor
