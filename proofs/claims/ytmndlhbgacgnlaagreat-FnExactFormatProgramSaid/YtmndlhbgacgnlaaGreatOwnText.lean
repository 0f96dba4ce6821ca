/- The contract of the model's Join: it gives the joined string. Conditions: at most 1048576 elements and bytes in all, and a separator of at most 1048576 bytes. The text of an expression, and the contracts of the model's l4Text and FormatExpr. Condition: names and nodes together at most 200000 (l4Text), 1048576 (FormatExpr). The contracts of the program's own textOfPart, textOfArgs and FormatExpr, from a contract of its Join. Condition: nodes and letters of the expression as the theorems say. -/
import Derived.Test.YtmndlhbgacgnlaaGreatStrs
import Derived.Lib.AppendStr
import Derived.Lib.Join
import Derived.Lib.BufferRead
import Derived.Test.YtmndlhbgacgnlaaGreatSpecValid
import Derived.Test.YtmndlhbgacgnlaaGreatOwnsL
import Derived.Test.YtmndlhbgacgnlaaGreatFrame
import Derived.Deep.RegionHeld3
import Derived.Laws.Concat
import Derived.Test.YtmndlhbgacgnlaaGreatOwnValid
namespace Go.Proofs.YtmndlhbgacgnlaaGreat
open Go Go.RowKit

def totS (l : List ByteArray) : Nat := (l.map (·.size)).sum
theorem totS_snoc (l : List ByteArray) (x : ByteArray) : totS (l ++ [x]) = totS l + x.size := by simp [totS]
def listsS (xs : List ByteArray) : List (List UInt8) := xs.map (·.data.toList)
def cellsB (l : List UInt8) : List Value := l.map fun b => Value.int .u8 b.toNat
theorem cells_append (a b : List UInt8) : cellsB (a ++ b) = cellsB a ++ cellsB b := List.map_append
theorem cells_str (s : ByteArray) : Lib.strCells s = cellsB s.data.toList := rfl
theorem size_listS (s : ByteArray) : s.data.toList.length = s.size := Array.length_toList

/-- What stands before the k-th element is joined: the first k joined, and the separator behind them if there is one. -/
theorem join_snoc (L : List (List UInt8)) (x sep : List UInt8) (h : L ≠ []) : Lib.join (L ++ [x]) sep = Lib.join L sep ++ sep ++ x := by
  cases L with
  | nil => exact absurd rfl h
  | cons y r =>
    rw [List.cons_append, Lib.join_cons, Lib.join_cons]
    simp [Lib.joinTail, List.append_assoc]
theorem tail_length (r : List (List UInt8)) (sep : List UInt8) : (Lib.joinTail sep r).length = Lib.lens r + r.length * sep.length := by
  induction r with
  | nil => simp [Lib.joinTail, Lib.lens]
  | cons y r ih =>
    have e1 : Lib.joinTail sep (y :: r) = sep ++ y ++ Lib.joinTail sep r := by simp [Lib.joinTail, List.append_assoc]
    have e2 : Lib.lens (y :: r) = y.length + Lib.lens r := by simp [Lib.lens]
    rw [e1, e2, List.length_append, List.length_append, ih, List.length_cons, Nat.succ_mul]; omega
theorem join_length (L : List (List UInt8)) (sep : List UInt8) : (Lib.join L sep).length ≤ Lib.lens L + L.length * sep.length := by
  cases L with
  | nil => simp [Lib.join_nil, Lib.lens]
  | cons x r =>
    have e2 : Lib.lens (x :: r) = x.length + Lib.lens r := by simp [Lib.lens]
    rw [Lib.join_cons, List.length_append, tail_length, e2, List.length_cons, Nat.succ_mul]; omega
theorem lens_lists (xs : List ByteArray) : Lib.lens (listsS xs) = totS xs := by
  unfold Lib.lens listsS totS
  rw [List.map_map]
  congr 1
theorem totS_take (xs : List ByteArray) : ∀ k, totS (xs.take k) ≤ totS xs := by
  induction xs with
  | nil => intro k; simp [totS]
  | cons x r ih =>
    intro k
    cases k with
    | zero => simp [totS]
    | succ k =>
      have := ih k
      simp only [totS, List.take_succ_cons, List.map_cons, List.sum_cons] at this ⊢
      omega
/-- The length of what is joined so far. -/
theorem joined_le (xs : List ByteArray) (s : ByteArray) (k : Nat) (hk : k ≤ xs.length) (ht : totS xs + xs.length ≤ 2097152) (hs : s.size ≤ 1048576) :
    (Lib.join (listsS (xs.take k)) s.data.toList).length ≤ 4398046511104 := by
  have h1 := join_length (listsS (xs.take k)) s.data.toList
  have h2 := totS_take xs k
  rw [lens_lists, size_listS] at h1
  have h3 : (listsS (xs.take k)).length = k := by simp [listsS]; omega
  rw [h3] at h1
  have h4 : k * s.size ≤ 2097152 * 1048576 := Nat.mul_le_mul (by omega) hs
  omega
theorem lists_snoc (xs : List ByteArray) (x : ByteArray) : listsS (xs ++ [x]) = listsS xs ++ [x.data.toList] := by simp [listsS]
theorem join_step0 (xs : List ByteArray) (x s : ByteArray) (h : xs.take 1 = xs.take 0 ++ [x]) : Lib.join (listsS (xs.take 1)) s.data.toList = Lib.join (listsS (xs.take 0)) s.data.toList ++ x.data.toList := by
  rw [h, lists_snoc]
  simp [listsS, Lib.join_one, Lib.join_nil]
theorem join_step (xs : List ByteArray) (k : Nat) (x s : ByteArray) (hk : 0 < k) (hk2 : k ≤ xs.length) (h : xs.take (k + 1) = xs.take k ++ [x]) :
    Lib.join (listsS (xs.take (k + 1))) s.data.toList = Lib.join (listsS (xs.take k)) s.data.toList ++ s.data.toList ++ x.data.toList := by
  rw [h, lists_snoc]
  refine join_snoc _ _ _ (fun e => ?_)
  have h1 : (listsS (xs.take k)).length = 0 := by rw [e]; rfl
  have h2 : (listsS (xs.take k)).length = k := by simp [listsS]; omega
  omega

theorem Tryz.info5j : (Tryz.prog.info? 5).map (fun i => (i.zero, i.size, i.bytes)) = some (some (.int .u8 0), 1, 1) := by kernel_rfl

theorem app_belowB {w wr w1 : World} {v : Value} {n : Nat} {l : List Value} (hb : Below w.heap.size w wr) (ho : wr.ownsRow w.heap.size 5 1 v n l) (hg : wr.grownBy w1 v.ownBlock) : Below w.heap.size w w1 :=
  hb.grown hg hb.size (fun k hk => (ho.lt k hk).1)
theorem own_moreB {w1 : World} {B : Nat} {v : Value} {J : List UInt8} {s : ByteArray} (h : w1.ownsRow B 5 1 v (J.length + s.size) (cellsB J ++ Lib.strCells s)) : w1.ownsRow B 5 1 v (J ++ s.data.toList).length (cellsB (J ++ s.data.toList)) := by
  rw [List.length_append, size_listS, cells_append]; exact h
/-- 'string(b)' of a row of the call's own. -/
theorem conv_row {W : World} {B : Nat} {v : Value} {J : List UInt8} (h : W.ownsRow B 5 1 v J.length (cellsB J)) : (convert 22 9 v).run Tryz.prog W = .ok (.string ⟨J.toArray⟩) W := by
  rcases h.2 with ⟨rfl, h0⟩ | ⟨g, cap, cur, rfl, -, -, -, -, -, -⟩
  · have : J = [] := List.eq_nil_of_length_eq_zero h0
    subst this
    exact Lib.run_convert_nil_bytes W 22 9 5 0 Tryz.underlying22 Tryz.underlying5 Tryz.underlying9
  · refine run_convert_bytes_back W 22 9 5 ⟨g, 0, none⟩ cap J Tryz.underlying22 Tryz.underlying5 Tryz.underlying9 (fun j hj => ?_)
    exact h.cells (g := g) rfl j _ (by simp [cellsB, hj])

def JoinPost (xs : List ByteArray) (s : ByteArray) (w : World) (e : Ending) (w' : World) : Prop :=
  e = .returned (.string ⟨(Lib.join (listsS xs) s.data.toList).toArray⟩) ∧ Below w.heap.size w w'

set_option maxHeartbeats 1000000 in
theorem spec_join (A : Option Addr) (xs : List ByteArray) (cap : Nat) (s : ByteArray) (w : World) (hs : Strs w A xs) (ht : totS xs + xs.length ≤ 2097152) (hsep : s.size ≤ 1048576) :
    Calls Tryz.prog 78 #[.slice A xs.length cap, .string s] w (JoinPost xs s w) := by
  obtain ⟨i0, hi, hz0, hz1, hz2⟩ := info_parts Tryz.info5j
  obtain ⟨n, hnn⟩ : ∃ n, n = xs.length := ⟨_, rfl⟩
  have hn : n ≤ 2097152 := by omega
  have HN := Lib.hid hnn
  have HS := Lib.hid hs
  have HT := Lib.hid ht
  rw [← hnn]
  clear hs hnn ht
  have HI := Lib.hid (And.intro hi (And.intro hz0 (And.intro hz1 hz2)))
  clear hi hz0 hz1 hz2
  go_enter Tryz.func78, Tryz.ntmps78
  go_wp2
  have H0 := Lib.hid (show (w.alloc (.cells #[] 5)).ownsRow w.heap.size 5 1 (.slice (some ⟨w.heap.size, 0, none⟩) 0 0) 0 [] from World.ownsRow_made w #[] 0 (Nat.le_refl _) (Nat.zero_le _) rfl)
  have HB0 := Lib.hid ((Below.refl w.heap.size w).alloc (Nat.le_refl _) (.cells #[] 5))
  go_loopw [5, 6] (fun v i wr => ∃ (k : Nat) (J : List UInt8), k ≤ n ∧ i = .int .i64 (k : Int) ∧ Hid (J = Lib.join (listsS (xs.take k)) s.data.toList) ∧ J.length ≤ 4398046511104 ∧ Hid (wr.ownsRow w.heap.size 5 1 v J.length (cellsB J)) ∧ Hid (Below w.heap.size w wr)) (fun _ i _ => n - (intOf i).toNat)
  case atStart => exact ⟨0, [], Nat.zero_le _, rfl, Lib.hid rfl, Nat.zero_le _, H0, HB0⟩
  case round =>
    obtain ⟨k, J, hk, rfl, HJ, hJ, HO, HB⟩ := hrel
    by_cases hlt : k < n
    · obtain ⟨a, x, rfl, hc0, hmem, -, htake, hal⟩ := HS.out.get k (by rw [← HN.out]; exact hlt)
      have hc : wr.cell? (a.add k) = some (.string x) := (HB.out.cell (p := a.add k) (by rw [block_add]; exact hal)).trans hc0
      have hx : x.size ≤ 2097152 := by
        have h1 := totS_take xs (k + 1)
        rw [htake, totS_snoc] at h1
        have := HT.out
        omega
      have hsz := HB.out.size
      by_cases hk0 : k = 0
      · have hkz : (k : Int) ≤ 0 := by omega
        have HJ1 := Lib.hid (show J ++ x.data.toList = Lib.join (listsS (xs.take (k + 1))) s.data.toList by subst hk0; rw [HJ.out]; exact (join_step0 xs x s htake).symm)
        have hJ1 : (J ++ x.data.toList).length ≤ 4398046511104 := by
          have h1 := joined_le xs s (k + 1) (by rw [← HN.out]; omega) HT.out hsep
          rw [← HJ1.out] at h1; exact h1
        have C1 := Lib.hid (show J.length + x.size ≤ maxLen by unfold maxLen; omega)
        have C2 := Lib.hid (show J.length + x.size ≤ 140737488355328 by omega)
        have C3 := Lib.hid hsz
        have HK := Lib.hid hk0
        clear hsz hc0 hmem htake hal hx hk0
        go_wp2_with (at_builtin; go_loud (refine Lib.wpList_append_own_string _ rfl (.tmp 19) (.tmp 23) 22 9 rfl w.heap.size 5 i0 Tryz.underlying22 Tryz.underlying9 HI.out.1 HI.out.2.1 HI.out.2.2.1 HI.out.2.2.2 u5 _ _ rfl HO.out x rfl C1.out C2.out C3.out ?_); intro v1 w1 ho1 hg1 _; have HO1 := Lib.hid (own_moreB ho1); have HB1 := Lib.hid (app_belowB HB.out HO.out hg1); clear ho1 hg1)
        go_roundw
        case rel => exact ⟨k + 1, _, by omega, by go_num, HJ1, hJ1, HO1, HB1⟩
        case measure => simp [intOf]; omega
      · have hkp : 0 < (k : Int) := by omega
        have HJ1 := Lib.hid (show J ++ s.data.toList ++ x.data.toList = Lib.join (listsS (xs.take (k + 1))) s.data.toList by rw [HJ.out]; exact (join_step xs k x s (by omega) (by rw [← HN.out]; exact hk) htake).symm)
        have hJ1 : (J ++ s.data.toList ++ x.data.toList).length ≤ 4398046511104 := by
          have h1 := joined_le xs s (k + 1) (by rw [← HN.out]; omega) HT.out hsep
          rw [← HJ1.out] at h1; exact h1
        have C1 := Lib.hid (show J.length + s.size ≤ maxLen by unfold maxLen; omega)
        have C2 := Lib.hid (show J.length + s.size ≤ 140737488355328 by omega)
        have C3 := Lib.hid hsz
        have hl2 : (J ++ s.data.toList).length = J.length + s.size := by rw [List.length_append, size_listS]
        have C4 := Lib.hid (show (J ++ s.data.toList).length + x.size ≤ maxLen by unfold maxLen; omega)
        have C5 := Lib.hid (show (J ++ s.data.toList).length + x.size ≤ 140737488355328 by omega)
        have HK := Lib.hid hk0
        have HC := Lib.hid (fun (W : World) (hW : Below w.heap.size w W) => (hW.cell (p := a.add k) (by rw [block_add]; exact hal)).trans hc0)
        clear hsz hc hc0 hmem htake hal hx hl2 hk0
        go_wp2_with (first
          | (at_builtin; refine Lib.wpList_append_own_string _ rfl (.tmp 16) (.tmp 17) 22 9 rfl w.heap.size 5 i0 Tryz.underlying22 Tryz.underlying9 HI.out.1 HI.out.2.1 HI.out.2.2.1 HI.out.2.2.2 u5 _ _ rfl HO.out s rfl C1.out C2.out C3.out ?_; intro v1 w1 ho1 hg1 _; have HO1 := Lib.hid (own_moreB ho1); have HB1 := Lib.hid (app_belowB HB.out HO.out hg1); have hc1 := HC.out _ HB1.out; clear ho1 hg1)
          | (at_builtin; refine Lib.wpList_append_own_string _ rfl (.tmp 19) (.tmp 23) 22 9 rfl w.heap.size 5 i0 Tryz.underlying22 Tryz.underlying9 HI.out.1 HI.out.2.1 HI.out.2.2.1 HI.out.2.2.2 v1 _ _ rfl HO1.out x rfl C4.out C5.out HB1.out.size ?_; intro v2 w2 ho2 hg2 _; have HO2 := Lib.hid (own_moreB ho2); have HB2 := Lib.hid (app_belowB HB1.out HO1.out hg2); clear ho2 hg2))
        go_roundw
        case rel => exact ⟨k + 1, _, by omega, by go_num, HJ1, hJ1, HO2, HB2⟩
        case measure => simp [intOf]; omega
    · have hk' : k = n := by omega
      have HE := Lib.hid (show J = Lib.join (listsS xs) s.data.toList by rw [HJ.out, List.take_of_length_le (by rw [← HN.out]; omega)])
      have hcv := conv_row HO.out
      go_wp2
      go_ret
      exact ⟨by rw [← HE.out]; rfl, HB.out⟩
end Go.Proofs.YtmndlhbgacgnlaaGreat

namespace Go.Proofs.YtmndlhbgacgnlaaGreat
open Go Go.RowKit

mutual
/-- The text of an expression. -/
def exText : Ex → List UInt8
  | .mk k s l => if k = 4 then [33] else if k = 1 ∨ (k = 2 ∧ l.length = 0) then s.data.toList else s.data.toList ++ [40] ++ Lib.join (exTexts l) [44] ++ [41]
def exTexts : List Ex → List (List UInt8)
  | [] => []
  | e :: r => exText e :: exTexts r
end
def exStr (e : Ex) : ByteArray := ⟨(exText e).toArray⟩
theorem str_size (e : Ex) : (exStr e).size = (exText e).length := by
  show (exText e).toArray.size = _
  simp
theorem texts_map : ∀ l : List Ex, exTexts l = l.map exText := by
  intro l
  induction l with
  | nil => rfl
  | cons e r ih => rw [exTexts, ih]; rfl
theorem lists_str (l : List Ex) : listsS (l.map exStr) = exTexts l := by
  rw [texts_map]
  simp [listsS, exStr]
theorem text_parts (e : Ex) : exText e = if e.kind = 4 then [33] else if e.kind = 1 ∨ (e.kind = 2 ∧ e.args.length = 0) then e.name.data.toList else e.name.data.toList ++ [40] ++ Lib.join (exTexts e.args) [44] ++ [41] := by
  cases e; rw [exText]; rfl
theorem lens_map : ∀ l : List Ex, totS (l.map exStr) = Lib.lens (exTexts l) := by
  intro l
  rw [← lists_str, lens_lists]
/-- How long a text may be. -/
theorem text_len (n : Nat) : (∀ e : Ex, exSize e ≤ n → (exText e).length ≤ 4 * exTot e + 2) ∧ (∀ l : List Ex, exSizes l ≤ n → Lib.lens (exTexts l) + l.length ≤ 4 * exTots l) := by
  induction n with
  | zero =>
    refine ⟨fun e h => by have := exSize_pos e; omega, fun l h => ?_⟩
    cases l with
    | nil => simp [exTexts, Lib.lens]
    | cons e r => rw [exSizes] at h; have := exSize_pos e; omega
  | succ n ih =>
    have hE : ∀ e : Ex, exSize e ≤ n + 1 → (exText e).length ≤ 4 * exTot e + 2 := by
      intro e h
      cases e with
      | mk k s l =>
        rw [exSize] at h
        rw [exText, exTot]
        have h1 := ih.2 l (by omega)
        have h2 := join_length (exTexts l) [44]
        have h3 : (exTexts l).length = l.length := by rw [texts_map, List.length_map]
        have h4 := size_listS s
        split
        · simp
        · split
          · omega
          · simp only [List.length_append, List.length_cons, List.length_nil] at h2 ⊢
            omega
    refine ⟨hE, ?_⟩
    intro l
    induction l with
    | nil => intro _; simp [exTexts, exTots, Lib.lens]
    | cons e r ihl =>
      intro h
      rw [exSizes] at h
      have h1 := hE e (by omega)
      have h2 := ihl (by omega)
      have h3 : Lib.lens (exTexts (e :: r)) = (exText e).length + Lib.lens (exTexts r) := by rw [exTexts]; simp [Lib.lens]
      rw [h3, exTots, List.length_cons]
      omega
theorem map_snoc {β : Type} (f : Ex → β) (l : List Ex) (k : Nat) (e : Ex) (h : l[k]? = some e) : (l.take (k + 1)).map f = (l.take k).map f ++ [f e] := by
  rw [take_ex l k e h]; simp

/-- What the loop of l4Text holds. -/
structure Tl (w : World) (L : List Ex) (K : Int) (S : ByteArray) (u : Value) (k : Nat) (v : Value) (W : World) : Prop where
  low : Below (w.heap.size + 1) (w.alloc (.cells #[.int .i64 K, .string S, u] 32)) W
  row : W.ownsRow (w.heap.size + 1) 9 1 v k (((L.take k).map exStr).map Value.string)
theorem Tl.box {w : World} {L : List Ex} {K : Int} {S : ByteArray} {u v : Value} {k : Nat} {W : World} (h : Tl w L K S u k v W) :
    W.cell? ⟨w.heap.size, 0, none⟩ = some (.int .i64 K) ∧ W.cell? ⟨w.heap.size, 1, none⟩ = some (.string S) ∧ W.cell? ⟨w.heap.size, 2, none⟩ = some u ∧ w.heap.size + 1 ≤ W.heap.size := by
  have h1 : W.heap[w.heap.size]? = _ := (h.low.block _ (Nat.lt_succ_self _)).trans (heap_alloc_new _ _)
  refine ⟨by simp [World.cell?, h1], by simp [World.cell?, h1], by simp [World.cell?, h1], ?_⟩
  have := h.low.size
  simpa using this
theorem Tl.below {w : World} {L : List Ex} {K : Int} {S : ByteArray} {u v : Value} {k : Nat} {W : World} (h : Tl w L K S u k v W) : Below w.heap.size w W :=
  ((Below.refl w.heap.size w).alloc (Nat.le_refl _) _).trans (h.low.mono (Nat.le_succ _))
theorem Tl.go {w : World} {L : List Ex} {K : Int} {S : ByteArray} {u v : Value} {k : Nat} {W W2 : World} (h : Tl w L K S u k v W) (hb : Below W.heap.size W W2) : Tl w L K S u k v W2 :=
  ⟨h.low.trans (hb.mono h.box.2.2.2), row_on h.row (fun g e => hb.block g (h.row.lt g e).2)⟩
theorem Tl.form {w : World} {L : List Ex} {K : Int} {S : ByteArray} {u v : Value} {k : Nat} {W : World} (h : Tl w L K S u k v W) :
    ∃ A cap, v = .slice A k cap ∧ Strs W A ((L.take k).map exStr) ∧ ((L.take k).map exStr).length = k := by
  have h0 := h.row.1
  rw [List.length_map, Nat.mul_one] at h0
  have h1 : OwnsL (w.heap.size + 1) W v ((L.take k).map exStr) := by unfold OwnsL; rw [h0]; exact h.row
  obtain ⟨A, cap, e, hs⟩ := h1.shape
  exact ⟨A, cap, by rw [e, h0], hs, h0⟩
/-- A text more. -/
theorem Tl.push {w : World} {L : List Ex} {K : Int} {S : ByteArray} {u v v1 : Value} {k : Nat} {W w1 : World} {e : Ex} (h : Tl w L K S u k v W) (he : L[k]? = some e)
    (ho : w1.ownsRow (w.heap.size + 1) 9 1 v1 (k + 1) (((L.take k).map exStr).map Value.string ++ [Value.string (exStr e)])) (hg : (W.alloc (.cells #[.string (exStr e)] 9)).grownBy w1 v.ownBlock) : Tl w L K S u (k + 1) v1 w1 := by
  refine ⟨?_, ?_⟩
  · have h1 := h.low.alloc (by have := h.box.2.2.2; exact this) (.cells #[.string (exStr e)] 9)
    exact h1.grown hg (by have := h.box.2.2.2; simp; omega) (fun g hk => ((h.row.alloc (.cells #[.string (exStr e)] 9)).lt g hk).1)
  · rw [map_snoc exStr L k e he, List.map_append]; exact ho
theorem Tl.start (w : World) (L : List Ex) (K : Int) (S : ByteArray) (u : Value) : Tl w L K S u 0 (.slice (some ⟨w.heap.size + 1, 0, none⟩) 0 0) ((w.alloc (.cells #[.int .i64 K, .string S, u] 32)).alloc (.cells #[] 9)) := by
  refine ⟨(Below.refl _ _).alloc (by simp) _, ?_⟩
  have := World.ownsRow_made (w.alloc (.cells #[.int .i64 K, .string S, u] 32)) (base := w.heap.size + 1) (e := 9) (size := 1) #[] 0 (by simp) (Nat.zero_le _) rfl
  simpa using this
theorem keepT_start {wr : World} {a : Addr} {v : Value} (h : wr.cell? a = some v) : wr.drew.cell? a = some v ∧ Hid (Below wr.heap.size wr wr.drew) := ⟨h, Lib.hid (Below.drew (Below.refl _ _))⟩
theorem keepT_step {wr X w2 : World} {a : Addr} {v : Value} (ha : a.block < wr.heap.size) (hb : Below X.heap.size X w2) (h : X.cell? a = some v ∧ Hid (Below wr.heap.size wr X)) : w2.cell? a = some v ∧ Hid (Below wr.heap.size wr w2) :=
  ⟨(hb.cell (p := a) (Nat.lt_of_lt_of_le ha h.2.out.size)).trans h.1, Lib.hid (h.2.out.trans (hb.mono h.2.out.size))⟩

set_option maxHeartbeats 2000000 in
theorem text_any (n : Nat) : ∀ (e : Ex) (v : Value) (bs : List Nat) (w : World), exSize e ≤ n → ExIs w v e bs → exTot e ≤ 200000 →
    Calls Tryz.prog 109 #[v] w (RetPost (.string (exStr e)) w) := by
  induction n with
  | zero => intro e v bs w h; have := exSize_pos e; omega
  | succ n ih =>
    intro e v bs w hle hv hb
    obtain ⟨i0, hi, hz0, hz1, hz2⟩ := info_parts Tryz.info9u
    have HI := Lib.hid (And.intro hi (And.intro hz0 (And.intro hz1 hz2)))
    clear hi hz0 hz1 hz2
    obtain ⟨u, rfl, hsz, hu⟩ := hv
    obtain ⟨A, c, rfl, hc1, hc2, -⟩ := id hu
    have HU := Lib.hid hu
    obtain ⟨K, hK⟩ : ∃ K, K = e.kind := ⟨_, rfl⟩
    obtain ⟨S, hS⟩ : ∃ S, S = e.name := ⟨_, rfl⟩
    obtain ⟨L, hL⟩ : ∃ L, L = e.args := ⟨_, rfl⟩
    obtain ⟨m, hm⟩ : ∃ m, m = L.length := ⟨_, rfl⟩
    have HE := Lib.hid (show exSize e = exSizes L + 1 by rw [hL]; cases e; rfl)
    have HT := Lib.hid (show S.size + exTots L ≤ 200000 by rw [hS, hL, ← tot_parts]; exact hb)
    have HX := Lib.hid (show exText e = if K = 4 then [33] else if K = 1 ∨ (K = 2 ∧ m = 0) then S.data.toList else S.data.toList ++ [40] ++ Lib.join (exTexts L) [44] ++ [41] by rw [hK, hS, hm, hL]; exact text_parts e)
    rw [← hK, ← hS, ← hL, ← hm]
    rw [← hS] at hsz
    rw [← hL, ← hm] at hc1 HU
    have HM := Lib.hid hm
    have HN := Lib.hid hle
    have HIH := Lib.hid ih
    have hc4 : m ≤ 200000 := by have h1 := HT.out; have h2 := tots_ge L; omega
    clear hu hK hS hL hm hle hb ih
    have hc3 : (m : Int) ≤ 200000 := by omega
    go_enter Tryz.func109, Tryz.ntmps109
    go_wp2_with fail
    have H0 := Lib.hid (Tl.start w L K S (.slice A m c))
    go_loopw [3, 4] (fun v i wr => ∃ (k : Nat), k ≤ m ∧ i = .int .i64 (k : Int) ∧ Hid (Tl w L K S (.slice A m c) k v wr)) (fun _ i _ => m - (intOf i).toNat)
    case atStart => exact ⟨0, Nat.zero_le _, rfl, H0⟩
    case round =>
      clear H0
      obtain ⟨k, hk, rfl, HL⟩ := hrel
      obtain ⟨d0, d1, d2, hgo⟩ := HL.out.box
      obtain ⟨A2, c2, rfl, hst, hlen⟩ := HL.out.form
      by_cases hlt : k < m
      · obtain ⟨g, o, e1, u, b1, rfl, hbl, hget, hmem, c0, c1, c2', his, -⟩ := (HU.out.below HL.out.below).get k (by rw [← HM.out]; exact hlt)
        have HIS := Lib.hid his
        have HCALL := Lib.hid (HIH.out e1 _ b1 wr (by have := HE.out; have := HN.out; have := exSizes_mem hmem; omega) his (by have := HT.out; have := tots_mem hmem; omega))
        have HG := Lib.hid hget
        clear his hget hmem hst hlen
        have C1 := Lib.hid (show k + 1 ≤ maxLen by unfold maxLen; omega)
        have C2 := Lib.hid (show (k + 1) * 16 ≤ 140737488355328 by omega)
        have H1C := Lib.hid (one_new (x := exStr e1))
        go_wp2_with (first | (go_at_call 109; refine HCALL.out.mono ?_; rintro r w1 ⟨rfl, hb1⟩; have HL1 := Lib.hid (HL.out.go hb1); have HO1 := Lib.hid (HL1.out.row.alloc (.cells #[.string (exStr e1)] 9)); have C4 := Lib.hid (show w.heap.size + 1 ≤ (w1.alloc (.cells #[.string (exStr e1)] 9)).heap.size by have := HL1.out.box.2.2.2; simp; omega); have HNW := Lib.hid (cell_new (W := w1) (x := exStr e1)); clear hb1) | (at_builtin; (refine wpList_append_own _ rfl (.tmp 13) (.tmp 20) 29 rfl (w.heap.size + 1) 9 i0 (.string ⟨#[]⟩) 1 16 Tryz.underlying29 HI.out.1 HI.out.2.1 HI.out.2.2.1 HI.out.2.2.2 rfl (by decide) (.slice A2 k c2) _ _ rfl HO1.out ⟨w1.heap.size, 0, none⟩ 1 1 [.string (exStr e1)] rfl rfl HNW.out H1C.out C1.out C2.out C4.out ?_); intro v1 w2 ho1 hg1 _; have HL2 := Lib.hid (HL1.out.push HG.out ho1 hg1); clear ho1 hg1))
        go_roundw
        case rel => exact ⟨k + 1, by omega, by go_num, HL2⟩
        case measure => simp [intOf]; omega
      · have hkm : k = m := by omega
        have HKM := Lib.hid hkm
        have hall : L.take k = L := List.take_of_length_le (by rw [← HM.out]; omega)
        rw [hall] at hst hlen
        have HST := Lib.hid hst
        have HLEN := Lib.hid hlen
        clear hst hlen hall hkm
        by_cases h4 : K = 4
        · have HX2 := Lib.hid (show exStr e = ⟨#[33]⟩ by rw [exStr, HX.out, if_pos h4])
          subst h4
          go_wp2_with fail
          go_ret
          exact ⟨by rw [HX2.out]; rfl, HL.out.below⟩
        have h4' : (K == 4) = false := by simpa using h4
        by_cases h1 : K = 1
        · have HX2 := Lib.hid (show exStr e = S by rw [exStr, HX.out, if_neg h4, if_pos (Or.inl h1)])
          subst h1
          clear h4 h4'
          go_wp2_with fail
          go_ret
          exact ⟨by rw [HX2.out]; rfl, HL.out.below⟩
        have h1' : (K == 1) = false := by simpa using h1
        obtain ⟨J, hJ⟩ : ∃ J : ByteArray, J = ⟨(Lib.join (exTexts L) [44]).toArray⟩ := ⟨_, rfl⟩
        obtain ⟨p1, hp1⟩ : ∃ x : ByteArray, x = S ++ ⟨#[40]⟩ := ⟨_, rfl⟩
        obtain ⟨p2, hp2⟩ : ∃ x : ByteArray, x = p1 ++ J := ⟨_, rfl⟩
        obtain ⟨p3, hp3⟩ : ∃ x : ByteArray, x = p2 ++ ⟨#[41]⟩ := ⟨_, rfl⟩
        have HP3 := Lib.hid (show p3 = ⟨(S.data.toList ++ [40] ++ Lib.join (exTexts L) [44] ++ [41]).toArray⟩ by
          subst hp3 hp2 hp1 hJ
          apply ByteArray.ext
          simp [ByteArray.data_append])
        have hjs : J.size ≤ 1000000 := by
          have h5 := (text_len (exSizes L)).2 L (Nat.le_refl _)
          have h6 := HT.out
          have h7 := join_length (exTexts L) [44]
          have h8 : (exTexts L).length = L.length := by rw [texts_map, List.length_map]
          have h9 : J.size = (Lib.join (exTexts L) [44]).length := by rw [hJ]; show (List.toArray _).size = _; simp
          simp only [List.length_cons, List.length_nil] at h7
          omega
        have hs1 : S.size ≤ 200000 := by have := HT.out; omega
        have hA1 : ∀ W, (Op.stringOp .add S ⟨#[40]⟩).run Tryz.prog W = .ok (.string p1) W := fun W => by
          rw [hp1]; exact run_string_add_sum W S ⟨#[40]⟩ (by show _ + 1 ≤ _; omega)
        have hq1 : p1.size = S.size + 1 := by rw [hp1]; exact ByteArray.size_append
        have hA2 : ∀ W, (Op.stringOp .add p1 J).run Tryz.prog W = .ok (.string p2) W := fun W => by
          rw [hp2]; exact run_string_add_sum W p1 J (by omega)
        have hq2 : p2.size = p1.size + J.size := by rw [hp2]; exact ByteArray.size_append
        have hA3 : ∀ W, (Op.stringOp .add p2 ⟨#[41]⟩).run Tryz.prog W = .ok (.string p3) W := fun W => by
          rw [hp3]; exact run_string_add_sum W p2 ⟨#[41]⟩ (by show _ + 1 ≤ _; omega)
        have HJ0 := Lib.hid hJ
        clear hp1 hp2 hp3 hq1 hq2 hjs hs1 hJ
        have HTT := Lib.hid (show totS (L.map exStr) + (L.map exStr).length ≤ 2097152 by
          have h5 := (text_len (exSizes L)).2 L (Nat.le_refl _)
          have h6 := HT.out
          rw [lens_map, List.length_map]; omega)
        by_cases h2 : K = 2
        · subst h2
          by_cases h0 : k = 0
          · have HX2 := Lib.hid (show exStr e = S by rw [exStr, HX.out, if_neg h4, if_pos (Or.inr ⟨rfl, by rw [← HKM.out, h0]⟩)])
            subst h0
            clear h4 h1 h4' h1'
            go_wp2_with fail
            go_ret
            exact ⟨by rw [HX2.out]; rfl, HL.out.below⟩
          have HX2 := Lib.hid (show exStr e = p3 by rw [HP3.out, exStr, HX.out, if_neg h4, if_neg (by rw [← HKM.out]; simp [h0])])
          have hz : ((k : Int) == 0) = false := by simpa using h0
          clear h4 h1 h4' h1' h0
          have HJ := Lib.hid (fun (W : World) (hW : Below wr.heap.size wr W) => show Calls Tryz.prog 78 #[.slice A2 k c2, .string ⟨#[44]⟩] W (RetPost (.string J) W) by
            have h := spec_join A2 (L.map exStr) c2 ⟨#[44]⟩ W (HST.out.below hW) HTT.out (by decide)
            rw [HLEN.out] at h; unfold JoinPost at h; rw [lists_str] at h; rw [HJ0.out]; exact h)
          have hbl : (⟨w.heap.size, 1, none⟩ : Addr).block < wr.heap.size := by show w.heap.size < _; omega
          have HDD := Lib.hid d1
          go_wp2_with fail
          go_region_held3 (fun X => X.cell? ⟨w.heap.size, 1, none⟩ = some (.string S) ∧ Hid (Below wr.heap.size wr X))
            (first | exact keepT_start HDD.out | exact keepT_step (a := ⟨w.heap.size, 1, none⟩) hbl hb2 (by assumption))
            (first | (go_at_call 78; have hh := (‹_ ∧ Hid (Below wr.heap.size wr _)›).2.out; refine (HJ.out _ hh).mono ?_; rintro r w2 ⟨rfl, hb2⟩; clear hh))
          all_goals
            have hx := ‹_ ∧ Hid (Below wr.heap.size wr w2)›
            have HXX := Lib.hid (HL.out.below.trans (hx.2.out.mono (by omega)))
            clear hx
            go_wp2_with fail
            go_ret
            exact ⟨by rw [HX2.out]; rfl, HXX.out⟩
        have h2' : (K == 2) = false := by simpa using h2
        have HX2 := Lib.hid (show exStr e = p3 by rw [HP3.out, exStr, HX.out, if_neg h4, if_neg (by simp [h1, h2])])
        clear h4 h1 h2
        have HJ := Lib.hid (fun (W : World) (hW : Below wr.heap.size wr W) => show Calls Tryz.prog 78 #[.slice A2 k c2, .string ⟨#[44]⟩] W (RetPost (.string J) W) by
          have h := spec_join A2 (L.map exStr) c2 ⟨#[44]⟩ W (HST.out.below hW) HTT.out (by decide)
          rw [HLEN.out] at h; unfold JoinPost at h; rw [lists_str] at h; rw [HJ0.out]; exact h)
        have hbl : (⟨w.heap.size, 1, none⟩ : Addr).block < wr.heap.size := by show w.heap.size < _; omega
        have HDD := Lib.hid d1
        go_wp2_with fail
        go_region_held3 (fun X => X.cell? ⟨w.heap.size, 1, none⟩ = some (.string S) ∧ Hid (Below wr.heap.size wr X))
          (first | exact keepT_start HDD.out | exact keepT_step (a := ⟨w.heap.size, 1, none⟩) hbl hb2 (by assumption))
          (first | (go_at_call 78; have hh := (‹_ ∧ Hid (Below wr.heap.size wr _)›).2.out; refine (HJ.out _ hh).mono ?_; rintro r w2 ⟨rfl, hb2⟩; clear hh))
        all_goals
          have hx := ‹_ ∧ Hid (Below wr.heap.size wr w2)›
          have HXX := Lib.hid (HL.out.below.trans (hx.2.out.mono (by omega)))
          clear hx
          go_wp2_with fail
          go_ret
          exact ⟨by rw [HX2.out]; rfl, HXX.out⟩

/-- A name of a valid expression is short. -/
theorem nameL_len {lo hi : Nat} {s : ByteArray} (h : nameL lo hi s.data.toList = true) : s.size ≤ 6 := by
  apply Decidable.byContradiction
  intro h1
  rw [name_size lo hi s (Or.inr (by omega))] at h
  cases h
theorem form_len {K : Int} {s : ByteArray} {m : Nat} (h : exFormOf K s m = true) : s.size ≤ 6 := by
  unfold exFormOf at h
  split at h
  · rw [Bool.and_eq_true] at h; exact nameL_len h.1
  · split at h
    · rw [Bool.and_eq_true] at h; exact nameL_len h.1
    · split at h
      · rw [Bool.and_eq_true] at h; exact nameL_len h.1
      · split at h
        · rw [Bool.and_eq_true] at h; have := of_decide_eq_true h.1; omega
        · cases h
theorem all_tot (n : Nat) : (∀ e : Ex, exSize e ≤ n → exAll e = true → exTot e + 1 ≤ 7 * exSize e) ∧ (∀ l : List Ex, exSizes l ≤ n → exAllL l = true → exTots l ≤ 7 * exSizes l) := by
  induction n with
  | zero =>
    refine ⟨fun e h => by have := exSize_pos e; omega, fun l h _ => ?_⟩
    cases l with
    | nil => simp [exTots]
    | cons e r => rw [exSizes] at h; have := exSize_pos e; omega
  | succ n ih =>
    have hE : ∀ e : Ex, exSize e ≤ n + 1 → exAll e = true → exTot e + 1 ≤ 7 * exSize e := by
      intro e h ha
      cases e with
      | mk k s l =>
        rw [exSize] at h ⊢
        rw [exTot]
        rw [exAll, Bool.and_eq_true] at ha
        have h1 := ih.2 l (by omega) ha.1
        have h2 := form_len ha.2
        omega
    refine ⟨hE, ?_⟩
    intro l
    induction l with
    | nil => intro _ _; simp [exTots]
    | cons e r ihl =>
      intro h ha
      rw [exSizes] at h ⊢
      rw [exTots]
      rw [exAllL, Bool.and_eq_true] at ha
      have h1 := hE e (by omega) ha.1
      have h2 := ihl (by omega) ha.2
      omega
theorem valid_tot {e : Ex} (h : exValid e = true) : exTot e ≤ 560 := by
  unfold exValid at h
  rw [Bool.and_eq_true, Bool.and_eq_true] at h
  have h1 := of_decide_eq_true h.1
  have h2 := (all_tot (exSize e)).1 e (Nat.le_refl _) h.2.2
  omega
/-- What FormatExpr answers. -/
def exFmt (e : Ex) : ByteArray := if exValid e then exStr e else ⟨#[]⟩

set_option maxHeartbeats 1000000 in
theorem format_any (e : Ex) (v : Value) (bs : List Nat) (w : World) (hv : ExIs w v e bs) (hb : exTot e ≤ 1048576) :
    Calls Tryz.prog 79 #[v] w (RetPost (.string (exFmt e)) w) := by
  have HL := Lib.hid (fun (W : World) (h : Below w.heap.size w W) => valid_any e v bs W (hv.below h) hb)
  have HA := Lib.hid (fun (W : World) (h : Below w.heap.size w W) (h1 : exTot e ≤ 200000) => text_any (exSize e) e v bs W (Nat.le_refl _) (hv.below h) h1)
  obtain ⟨u, rfl, -, hu⟩ := hv
  obtain ⟨A, c, rfl, -⟩ := id hu
  clear hu hb
  have HBX := Lib.hid (box_cells2 w e.kind e.name (.slice A e.args.length c))
  have HB0 := Lib.hid ((Below.refl w.heap.size w).alloc (Nat.le_refl _) (.cells #[.int .i64 e.kind, .string e.name, .slice A e.args.length c] 32))
  have HV := Lib.hid (show exFmt e = if exValid e then exStr e else ⟨#[]⟩ from rfl)
  have HT := Lib.hid (fun (h : exValid e = true) => show exTot e ≤ 200000 by have := valid_tot h; omega)
  generalize exStr e = t at *
  generalize exValid e = a at *
  go_enter Tryz.func79, Tryz.ntmps79
  go_wp2_with fail
  go_at_call 48
  refine (HL.out _ HB0.out).mono ?_
  rintro r w1 ⟨rfl, hb1⟩
  have HB1 := Lib.hid (HB0.out.trans (hb1.mono HB0.out.size))
  obtain ⟨x0, x1, x2⟩ := HBX.out w1 hb1
  clear hb1
  cases a
  · go_wp2_with fail
    go_ret
    exact ⟨by rw [HV.out]; rfl, HB1.out⟩
  · go_wp2_with fail
    go_at_call 109
    refine (HA.out _ HB1.out (HT.out (by first | rfl | trivial))).mono ?_
    rintro r w3 ⟨rfl, hb3⟩
    have HB3 := Lib.hid (HB1.out.trans (hb3.mono HB1.out.size))
    clear hb3
    go_wp2_with fail
    go_ret
    exact ⟨by rw [HV.out]; rfl, HB3.out⟩
end Go.Proofs.YtmndlhbgacgnlaaGreat

namespace Go.Proofs.YtmndlhbgacgnlaaGreat
open Go Go.RowKit

/-- What the program's own Join gives. -/
def OwnJoin : Prop := ∀ (A : Option Addr) (xs : List ByteArray) (c : Nat) (s : ByteArray) (w : World), Strs w A xs → xs.length ≤ c → totS xs + xs.length ≤ 2097152 → s.size ≤ 1048576 → Calls Tryz.prog 112 #[.slice A xs.length c, .string s] w (JoinPost xs s w)

/-- What the loop of textOfArgs holds. -/
structure Ta (w : World) (L : List Ex) (k : Nat) (v : Value) (W : World) : Prop where
  low : Below w.heap.size w W
  row : W.ownsRow w.heap.size 9 1 v k (((L.take k).map exStr).map Value.string)
theorem Ta.start (w : World) (L : List Ex) : Ta w L 0 (.slice none 0 0) w := ⟨Below.refl _ _, World.ownsRow_nil _ _ _ _⟩
theorem Ta.go {w : World} {L : List Ex} {v : Value} {k : Nat} {W W2 : World} (h : Ta w L k v W) (hb : Below W.heap.size W W2) : Ta w L k v W2 :=
  ⟨h.low.trans (hb.mono h.low.size), row_on h.row (fun g e => hb.block g (h.row.lt g e).2)⟩
theorem Ta.form {w : World} {L : List Ex} {v : Value} {k : Nat} {W : World} (h : Ta w L k v W) :
    ∃ A cap, v = .slice A k cap ∧ k ≤ cap ∧ Strs W A ((L.take k).map exStr) ∧ ((L.take k).map exStr).length = k := by
  have h0 := h.row.1
  rw [List.length_map, Nat.mul_one] at h0
  have h1 : OwnsL w.heap.size W v ((L.take k).map exStr) := by unfold OwnsL; rw [h0]; exact h.row
  obtain ⟨A, cap, e, hs⟩ := h1.shape
  rw [h0] at e
  refine ⟨A, cap, e, ?_, hs, h0⟩
  rcases h.row.2 with ⟨e2, h2⟩ | ⟨g', cap', cur, e2, -, -, hn, -⟩
  · rw [h2]; exact Nat.zero_le _
  · rw [e2] at e; cases e; exact hn
/-- A text more. -/
theorem Ta.push {w : World} {L : List Ex} {v v1 : Value} {k : Nat} {W w1 : World} {e : Ex} (h : Ta w L k v W) (he : L[k]? = some e)
    (ho : w1.ownsRow w.heap.size 9 1 v1 (k + 1) (((L.take k).map exStr).map Value.string ++ [Value.string (exStr e)])) (hg : (W.alloc (.cells #[.string (exStr e)] 9)).grownBy w1 v.ownBlock) : Ta w L (k + 1) v1 w1 := by
  refine ⟨?_, ?_⟩
  · have h1 := h.low.alloc h.low.size (.cells #[.string (exStr e)] 9)
    exact h1.grown hg (by have := h.low.size; simp; omega) (fun g hk => ((h.row.alloc (.cells #[.string (exStr e)] 9)).lt g hk).1)
  · rw [map_snoc exStr L k e he, List.map_append]; exact ho

/-- The text of the arguments in parentheses. -/
def parStr (l : List Ex) : ByteArray := ⟨([40] ++ Lib.join (exTexts l) [44] ++ [41]).toArray⟩
theorem par_str {K : Int} {S : ByteArray} {L : List Ex} (h4 : ¬ K = 4) (h1 : ¬ (K = 1 ∨ (K = 2 ∧ L.length = 0))) : exStr (.mk K S L) = S ++ parStr L := by
  rw [exStr, exText, if_neg h4, if_neg h1]
  apply ByteArray.ext
  simp [ByteArray.data_append, parStr]

/-- Texts in parentheses. -/
def parS (xs : List ByteArray) : ByteArray := ⟨([40] ++ Lib.join (listsS xs) [44] ++ [41]).toArray⟩
theorem par_S (l : List Ex) : parS (l.map exStr) = parStr l := by
  unfold parS parStr; rw [lists_str]
set_option maxHeartbeats 1000000 in
theorem own_inpar (hJ : OwnJoin) (A : Option Addr) (xs : List ByteArray) (c : Nat) (w : World) (hs : Strs w A xs) (hc : xs.length ≤ c) (ht : totS xs + xs.length ≤ 2097152) :
    Calls Tryz.prog 82 #[.slice A xs.length c] w (RetPost (.string (parS xs)) w) := by
  obtain ⟨J, hJe⟩ : ∃ J : ByteArray, J = ⟨(Lib.join (listsS xs) [44]).toArray⟩ := ⟨_, rfl⟩
  obtain ⟨p1, hp1⟩ : ∃ x : ByteArray, x = ⟨#[40]⟩ ++ J := ⟨_, rfl⟩
  obtain ⟨p2, hp2⟩ : ∃ x : ByteArray, x = p1 ++ ⟨#[41]⟩ := ⟨_, rfl⟩
  have HP := Lib.hid (show parS xs = p2 by
    subst hp2 hp1 hJe
    apply ByteArray.ext
    simp [ByteArray.data_append, parS])
  have HJJ := Lib.hid (show Calls Tryz.prog 112 #[.slice A xs.length c, .string ⟨#[44]⟩] w (RetPost (.string J) w) by
    have h := hJ A xs c ⟨#[44]⟩ w hs hc ht (by decide)
    unfold JoinPost at h; rw [hJe]; exact h)
  have hjs : J.size ≤ 4398046511104 := by
    have h1 := joined_le xs ⟨#[44]⟩ xs.length (Nat.le_refl _) ht (by decide)
    rw [List.take_length] at h1
    have h9 : J.size = (Lib.join (listsS xs) [44]).length := by rw [hJe]; show (List.toArray _).size = _; simp
    rw [h9]; exact h1
  have hA1 : ∀ W, (Op.stringOp .add ⟨#[40]⟩ J).run Tryz.prog W = .ok (.string p1) W := fun W => by
    rw [hp1]; exact run_string_add_sum W ⟨#[40]⟩ J (by show 1 + _ ≤ _; omega)
  have hq1 : p1.size = 1 + J.size := by rw [hp1]; exact ByteArray.size_append
  have hA2 : ∀ W, (Op.stringOp .add p1 ⟨#[41]⟩).run Tryz.prog W = .ok (.string p2) W := fun W => by
    rw [hp2]; exact run_string_add_sum W p1 ⟨#[41]⟩ (by show _ + 1 ≤ _; omega)
  generalize hm : xs.length = m at *
  clear hs hc ht hJ hp1 hp2 hq1 hjs hJe hm
  go_enter Tryz.func82, Tryz.ntmps82
  go_wp2_with (go_at_call 112; refine HJJ.out.mono ?_; rintro r w1 ⟨rfl, hb1⟩; have HB1 := Lib.hid hb1; clear hb1)
  go_ret
  exact ⟨by rw [HP.out]; rfl, HB1.out⟩

theorem all_of {l : List Ex} {e : Ex} (h : exAllL l = true) (hm : e ∈ l) : exAll e = true := by
  cases he : exAll e with
  | true => rfl
  | false => rw [all_false hm he] at h; cases h
theorem his_slice {W : World} {e : Ex} {u : Value} {b : List Nat} (h : ExIs W (.agg #[.int .i64 e.kind, .string e.name, u]) e b) : ∃ A m c, u = .slice A m c := by
  obtain ⟨u2, e1, -, hs⟩ := h
  obtain ⟨A, c, e2, -⟩ := hs
  simp at e1
  rw [e1, e2]
  exact ⟨_, _, _, rfl⟩
def PartT (n : Nat) : Prop := ∀ (e : Ex) (v : Value) (bs : List Nat) (w : World), exSize e ≤ n → ExIs w v e bs → exTot e ≤ 200000 → exAll e = true →
    Calls Tryz.prog 113 #[v] w (RetPost (.string (exStr e)) w)

set_option maxHeartbeats 2000000 in
theorem args_text (hJ : OwnJoin) (n : Nat) (ih : PartT n) (L : List Ex) (A : Option Addr) (m c : Nat) (bs : List Nat) (w : World) (hn : exSizes L ≤ n) (hu : SlIs w (.slice A m c) L bs) (hT : exTots L ≤ 200000) (hA : exAllL L = true) :
    Calls Tryz.prog 130 #[.slice A m c] w (RetPost (.string (parStr L)) w) := by
  obtain ⟨i0, hi, hz0, hz1, hz2⟩ := info_parts Tryz.info9u
  have HI := Lib.hid (And.intro hi (And.intro hz0 (And.intro hz1 hz2)))
  clear hi hz0 hz1 hz2
  have HU := Lib.hid hu
  have HM := Lib.hid hu.len.1
  have HN := Lib.hid hn
  have HT := Lib.hid hT
  have HA := Lib.hid hA
  have HIH := Lib.hid ih
  have HJN := Lib.hid hJ
  have hc4 : m ≤ 200000 := by have h1 := hu.len.1; have h2 := tots_ge L; omega
  clear hu hn hT hA ih hJ
  have hc3 : (m : Int) ≤ 200000 := by omega
  go_enter Tryz.func130, Tryz.ntmps130
  go_wp2_with fail
  have H0 := Lib.hid (Ta.start w L)
  go_loopw [3, 8] (fun v i wr => ∃ (k : Nat), k ≤ m ∧ i = .int .i64 (k : Int) ∧ Hid (Ta w L k v wr)) (fun _ i _ => m - (intOf i).toNat)
  case atStart => exact ⟨0, Nat.zero_le _, rfl, H0⟩
  case round =>
    clear H0
    obtain ⟨k, hk, rfl, HL⟩ := hrel
    obtain ⟨A2, c2, rfl, hkc, hst, hlen⟩ := HL.out.form
    have HKC := Lib.hid hkc
    clear hkc
    by_cases hlt : k < m
    · obtain ⟨g, o, e1, u, b1, rfl, hbl, hget, hmem, c0, c1, c2', his, -⟩ := (HU.out.below HL.out.low).get k (by rw [← HM.out]; exact hlt)
      have HLX := Lib.hid (HL.out.go ((Below.refl _ wr).alloc (Nat.le_refl _) (.cells #[.int .i64 e1.kind, .string e1.name, u] 32)))
      have HCALL := Lib.hid (HIH.out e1 _ b1 (wr.alloc (.cells #[.int .i64 e1.kind, .string e1.name, u] 32)) (by have := HN.out; have := exSizes_mem hmem; omega) (his.below ((Below.refl _ wr).alloc (Nat.le_refl _) _)) (by have := HT.out; have := tots_mem hmem; omega) (all_of HA.out hmem))
      have HG := Lib.hid hget
      obtain ⟨A3, m3, c3, rfl⟩ := his_slice his
      clear his hget hmem hst hlen
      have C1 := Lib.hid (show k + 1 ≤ maxLen by unfold maxLen; omega)
      have C2 := Lib.hid (show (k + 1) * 16 ≤ 140737488355328 by omega)
      have H1C := Lib.hid (one_new (x := exStr e1))
      go_wp2_with (first | (go_at_call 113; refine HCALL.out.mono ?_; rintro r w1 ⟨rfl, hb1⟩; have HL1 := Lib.hid (HLX.out.go hb1); have HO1 := Lib.hid (HL1.out.row.alloc (.cells #[.string (exStr e1)] 9)); have C4 := Lib.hid (show w.heap.size ≤ (w1.alloc (.cells #[.string (exStr e1)] 9)).heap.size by have := HL1.out.low.size; simp; omega); have HNW := Lib.hid (cell_new (W := w1) (x := exStr e1)); clear hb1) | (at_builtin; (refine wpList_append_own _ rfl (.tmp 12) (.tmp 15) 29 rfl w.heap.size 9 i0 (.string ⟨#[]⟩) 1 16 Tryz.underlying29 HI.out.1 HI.out.2.1 HI.out.2.2.1 HI.out.2.2.2 rfl (by decide) (.slice A2 k c2) _ _ rfl HO1.out ⟨w1.heap.size, 0, none⟩ 1 1 [.string (exStr e1)] rfl rfl HNW.out H1C.out C1.out C2.out C4.out ?_); intro v1 w2 ho1 hg1 _; have HL2 := Lib.hid (HL1.out.push HG.out ho1 hg1); clear ho1 hg1))
      go_roundw
      case rel => exact ⟨k + 1, by omega, by go_num, HL2⟩
      case measure => simp [intOf]; omega
    · have hkm : k = m := by omega
      have hall : L.take k = L := List.take_of_length_le (by rw [← HM.out]; omega)
      rw [hall] at hst hlen
      have HPP := Lib.hid (show Calls Tryz.prog 82 #[.slice A2 k c2] wr (RetPost (.string (parStr L)) wr) by
        have h := own_inpar HJN.out A2 (L.map exStr) c2 wr hst (by rw [hlen]; exact HKC.out) (by
          have h5 := (text_len (exSizes L)).2 L (Nat.le_refl _)
          have h6 := HT.out
          rw [lens_map, List.length_map]; omega)
        rw [hlen, par_S] at h; exact h)
      clear hst hlen hall hkm
      go_wp2_with (go_at_call 82; refine HPP.out.mono ?_; rintro r w1 ⟨rfl, hb1⟩; have HB1 := Lib.hid (HL.out.low.trans (hb1.mono HL.out.low.size)); clear hb1)
      go_ret
      exact ⟨rfl, HB1.out⟩

theorem keepU_start {wr : World} {a b : Addr} {v u : Value} (h : wr.cell? a = some v) (h2 : wr.cell? b = some u) : wr.drew.cell? a = some v ∧ wr.drew.cell? b = some u ∧ Hid (Below wr.heap.size wr wr.drew) := ⟨h, h2, Lib.hid (Below.drew (Below.refl _ _))⟩
theorem keepU_step {wr X w2 : World} {a b : Addr} {v u : Value} (ha : a.block < wr.heap.size) (hb2 : b.block < wr.heap.size) (hb : Below X.heap.size X w2) (h : X.cell? a = some v ∧ X.cell? b = some u ∧ Hid (Below wr.heap.size wr X)) : w2.cell? a = some v ∧ w2.cell? b = some u ∧ Hid (Below wr.heap.size wr w2) :=
  ⟨(hb.cell (p := a) (Nat.lt_of_lt_of_le ha h.2.2.out.size)).trans h.1, (hb.cell (p := b) (Nat.lt_of_lt_of_le hb2 h.2.2.out.size)).trans h.2.1, Lib.hid (h.2.2.out.trans (hb.mono h.2.2.out.size))⟩
/-- What is known of the world at a call of textOfArgs from a form in the block b. -/
def ArgsT (w : World) (L : List Ex) (A : Option Addr) (m c : Nat) : Prop := ∀ W, Below w.heap.size w W → Calls Tryz.prog 130 #[.slice A m c] W (RetPost (.string (parStr L)) W)
theorem form_cells {w w1 : World} {T : Nat} {S : ByteArray} {u : Value} (h : Below w.heap.size w w1) :
    (w1.alloc (.cells #[.string S, u] T)).cell? ⟨w1.heap.size, 0, none⟩ = some (.string S) ∧ (w1.alloc (.cells #[.string S, u] T)).cell? ⟨w1.heap.size, 1, none⟩ = some u ∧ Below w.heap.size w (w1.alloc (.cells #[.string S, u] T)) := by
  have h1 := heap_alloc_new w1 (.cells #[.string S, u] T)
  refine ⟨by rw [World.cell?, h1]; rfl, by rw [World.cell?, h1]; rfl, h.alloc h.size _⟩

set_option maxRecDepth 100000 in
set_option maxHeartbeats 2000000 in
theorem part_text (hJ : OwnJoin) (n : Nat) : PartT n := by
  induction n with
  | zero => intro e v bs w h; have := exSize_pos e; omega
  | succ n ih =>
    intro e v bs w hle hv hb ha
    obtain ⟨u, rfl, hsz, hu⟩ := hv
    obtain ⟨A, c, rfl, hc1, hc2, -⟩ := id hu
    cases e with
    | mk K S L =>
    simp only [Ex.kind, Ex.name, Ex.args] at *
    rw [exSize] at hle
    rw [exTot] at hb
    rw [exAll, Bool.and_eq_true] at ha
    have HAT := Lib.hid (show ArgsT w L A L.length c from fun W hW => args_text hJ n ih L A L.length c bs W (by omega) (hu.below hW) (by omega) ha.1)
    have HP := Lib.hid (text_len (exSizes L))
    have hsl : S.size + exTots L ≤ 200000 := hb
    have HPS := Lib.hid (show (parStr L).size ≤ 1000002 by
      have h5 := (text_len (exSizes L)).2 L (Nat.le_refl _)
      have h7 := join_length (exTexts L) [44]
      have h8 : (exTexts L).length = L.length := by rw [texts_map, List.length_map]
      show (List.toArray _).size ≤ _
      simp only [List.length_cons, List.length_nil] at h7
      simp
      omega)
    have hF := ha.2
    obtain ⟨m, hm⟩ : ∃ m, m = L.length := ⟨_, rfl⟩
    rw [← hm] at HAT hc1 hF ⊢
    have HM := Lib.hid hm
    clear hu ha ih hJ hle hm
    obtain ⟨p, hp⟩ : ∃ x : ByteArray, x = S ++ parStr L := ⟨_, rfl⟩
    have hA1 : ∀ W, (Op.stringOp .add S (parStr L)).run Tryz.prog W = .ok (.string p) W := fun W => by
      rw [hp]; exact run_string_add_sum W S (parStr L) (by have := HPS.out; omega)
    have HPP := Lib.hid (fun (h4 : ¬ K = 4) (h1 : ¬ (K = 1 ∨ (K = 2 ∧ L.length = 0))) => show exStr (.mk K S L) = p by rw [hp]; exact par_str h4 h1)
    clear hp HP
    have hm3 : (m : Int) ≤ 9223372036854775807 := by omega

    have HFB := Lib.hid (fun (W : World) => own_form K S A m c W)
    clear hsz hc1 hc2 hb
    by_cases h1 : K = 1
    · subst h1
      have HX := Lib.hid (show exStr (.mk 1 S L) = S by rw [exStr, exText]; rfl)
      have aV := asVV
      clear hF hA1
      go_enter Tryz.func113, Tryz.ntmps113
      go_wp2_with (go_at_call 69; refine (HFB.out _).mono ?_; rintro r w2 ⟨rfl, hb2⟩; rw [show formTy 1 = 138 from rfl]; have HB2 := Lib.hid (right_below hb2); clear hb2)
      go_ret
      exact ⟨by rw [HX.out]; rfl, HB2.out.alloc HB2.out.size _⟩
    by_cases h2 : K = 2
    · subst h2
      have aV := asCV
      have aC := asCC
      by_cases h0 : m = 0
      · have HX := Lib.hid (show exStr (.mk 2 S L) = S by rw [exStr, exText, if_neg (by decide), if_pos (Or.inr ⟨rfl, by rw [← HM.out]; exact h0⟩)])
        subst h0
        clear hF hA1
        go_enter Tryz.func113, Tryz.ntmps113
        go_wp2_with (go_at_call 69; refine (HFB.out _).mono ?_; rintro r w2 ⟨rfl, hb2⟩; rw [show formTy 2 = 110 from rfl]; have HB2 := Lib.hid (right_below hb2); clear hb2)
        go_ret
        exact ⟨by rw [HX.out]; rfl, HB2.out.alloc HB2.out.size _⟩
      · have HX := Lib.hid (show exStr (.mk 2 S L) = p from HPP.out (by decide) (by rw [← HM.out]; simp [h0]))
        have hz : ((m : Int) == 0) = false := by simpa using h0
        clear hF h0
        go_enter Tryz.func113, Tryz.ntmps113
        go_wp2_with (go_at_call 69; refine (HFB.out _).mono ?_; rintro r w2 ⟨rfl, hb2⟩; rw [show formTy 2 = 110 from rfl]; have HB2 := Lib.hid (right_below hb2); clear hb2)
        obtain ⟨d0, d1, d2⟩ := form_cells (T := 110) (S := S) (u := .slice A m c) HB2.out
        generalize hwr : w2.alloc (.cells #[.string S, .slice A m c] 110) = wr at *
        have HAW := Lib.hid (fun (W : World) (hW : Below wr.heap.size wr W) => HAT.out W (d2.trans (hW.mono d2.size)))
        have HLW := Lib.hid d2
        have hbl : w2.heap.size < wr.heap.size := by rw [← hwr]; simp
        have hbl0 : (⟨w2.heap.size, 0, none⟩ : Addr).block < wr.heap.size := hbl
        have hbl1 : (⟨w2.heap.size, 1, none⟩ : Addr).block < wr.heap.size := hbl
        have HD0 := Lib.hid d0
        have HD1 := Lib.hid d1
        clear hwr d2 d0 d1
        go_region_held3 (fun X => X.cell? ⟨w2.heap.size, 0, none⟩ = some (.string S) ∧ X.cell? ⟨w2.heap.size, 1, none⟩ = some (.slice A m c) ∧ Hid (Below wr.heap.size wr X))
          (first | exact keepU_start HD0.out HD1.out | exact keepU_step (a := ⟨w2.heap.size, 0, none⟩) (b := ⟨w2.heap.size, 1, none⟩) hbl0 hbl1 hb3 (by assumption))
          (first | (go_at_call 130; have hh := (‹_ ∧ _ ∧ Hid (Below wr.heap.size wr _)›).2.2.out; refine (HAW.out _ hh).mono ?_; rintro r w3 ⟨rfl, hb3⟩; clear hh))
        all_goals
          have hx := ‹_ ∧ _ ∧ Hid (Below wr.heap.size wr w3)›
          have HXX := Lib.hid (HLW.out.trans (hx.2.2.out.mono HLW.out.size))
          clear hx
          go_wp2_with fail
          go_ret
          exact ⟨by rw [HX.out]; rfl, HXX.out⟩
    by_cases h3 : K = 3
    · subst h3
      have aV := asKV
      have aC := asKC
      have aK := asKK
      have HX := Lib.hid (show exStr (.mk 3 S L) = p from HPP.out (by decide) (by simp))
      clear hF
      go_enter Tryz.func113, Tryz.ntmps113
      go_wp2_with (go_at_call 69; refine (HFB.out _).mono ?_; rintro r w2 ⟨rfl, hb2⟩; rw [show formTy 3 = 109 from rfl]; have HB2 := Lib.hid (right_below hb2); clear hb2)
      obtain ⟨d0, d1, d2⟩ := form_cells (T := 109) (S := S) (u := .slice A m c) HB2.out
      generalize hwr : w2.alloc (.cells #[.string S, .slice A m c] 109) = wr at *
      have HAW := Lib.hid (fun (W : World) (hW : Below wr.heap.size wr W) => HAT.out W (d2.trans (hW.mono d2.size)))
      have HLW := Lib.hid d2
      have hbl : w2.heap.size < wr.heap.size := by rw [← hwr]; simp
      have hbl0 : (⟨w2.heap.size, 0, none⟩ : Addr).block < wr.heap.size := hbl
      have hbl1 : (⟨w2.heap.size, 1, none⟩ : Addr).block < wr.heap.size := hbl
      have HD0 := Lib.hid d0
      have HD1 := Lib.hid d1
      clear hwr d2 d0 d1
      go_region_held3 (fun X => X.cell? ⟨w2.heap.size, 0, none⟩ = some (.string S) ∧ X.cell? ⟨w2.heap.size, 1, none⟩ = some (.slice A m c) ∧ Hid (Below wr.heap.size wr X))
        (first | exact keepU_start HD0.out HD1.out | exact keepU_step (a := ⟨w2.heap.size, 0, none⟩) (b := ⟨w2.heap.size, 1, none⟩) hbl0 hbl1 hb3 (by assumption))
        (first | (go_at_call 130; have hh := (‹_ ∧ _ ∧ Hid (Below wr.heap.size wr _)›).2.2.out; refine (HAW.out _ hh).mono ?_; rintro r w3 ⟨rfl, hb3⟩; clear hh))
      all_goals
        have hx := ‹_ ∧ _ ∧ Hid (Below wr.heap.size wr w3)›
        have HXX := Lib.hid (HLW.out.trans (hx.2.2.out.mono HLW.out.size))
        clear hx
        go_wp2_with fail
        go_ret
        exact ⟨by rw [HX.out]; rfl, HXX.out⟩
    by_cases h4 : K = 4
    · subst h4
      have HX := Lib.hid (show exStr (.mk 4 S L) = ⟨#[33]⟩ by rw [exStr, exText]; rfl)
      have aV := asSV
      have aC := asSC
      have aK := asSK
      clear hF hA1
      go_enter Tryz.func113, Tryz.ntmps113
      go_wp2_with (go_at_call 69; refine (HFB.out _).mono ?_; rintro r w2 ⟨rfl, hb2⟩; rw [show formTy 4 = 139 from rfl]; have HB2 := Lib.hid (right_below hb2); clear hb2)
      go_ret
      exact ⟨by rw [HX.out]; rfl, HB2.out⟩
    · exfalso
      unfold exFormOf at hF
      rw [if_neg h1, if_neg h2, if_neg h3, if_neg h4] at hF
      cases hF

set_option maxHeartbeats 1000000 in
theorem own_format (hJ : OwnJoin) (e : Ex) (v : Value) (bs : List Nat) (w : World) (hv : ExIs w v e bs) (hb : exSize e ≤ 1099511627776) :
    Calls Tryz.prog 83 #[v] w (RetPost (.string (exFmt e)) w) := by
  have HL := Lib.hid (fun (W : World) (h : Below w.heap.size w W) => own_valid e v bs W (hv.below h) hb)
  have HA := Lib.hid (fun (W : World) (h : Below w.heap.size w W) (h1 : exTot e ≤ 200000) (h2 : exAll e = true) => part_text hJ (exSize e) e v bs W (Nat.le_refl _) (hv.below h) h1 h2)
  obtain ⟨u, rfl, -, hu⟩ := hv
  obtain ⟨A, c, rfl, -⟩ := id hu
  clear hu hb hJ
  have HBX := Lib.hid (box_cells2 w e.kind e.name (.slice A e.args.length c))
  have HB0 := Lib.hid ((Below.refl w.heap.size w).alloc (Nat.le_refl _) (.cells #[.int .i64 e.kind, .string e.name, .slice A e.args.length c] 32))
  have HV := Lib.hid (show exFmt e = if exValid e then exStr e else ⟨#[]⟩ from rfl)
  have HT := Lib.hid (fun (h : exValid e = true) => show exTot e ≤ 200000 ∧ exAll e = true from ⟨by have := valid_tot h; omega, by unfold exValid at h; simp only [Bool.and_eq_true] at h; exact h.2.2⟩)
  generalize exStr e = t at *
  generalize exValid e = a at *
  go_enter Tryz.func83, Tryz.ntmps83
  go_wp2_with fail
  go_at_call 38
  refine (HL.out _ HB0.out).mono ?_
  rintro r w1 ⟨rfl, hb1⟩
  have HB1 := Lib.hid (HB0.out.trans (hb1.mono HB0.out.size))
  obtain ⟨x0, x1, x2⟩ := HBX.out w1 hb1
  clear hb1
  cases a
  · go_wp2_with fail
    go_ret
    exact ⟨by rw [HV.out]; rfl, HB1.out⟩
  · go_wp2_with fail
    go_at_call 113
    refine (HA.out _ HB1.out (HT.out (by first | rfl | trivial)).1 (HT.out (by first | rfl | trivial)).2).mono ?_
    rintro r w3 ⟨rfl, hb3⟩
    have HB3 := Lib.hid (HB1.out.trans (hb3.mono HB1.out.size))
    clear hb3
    go_wp2_with fail
    go_ret
    exact ⟨by rw [HV.out]; rfl, HB3.out⟩
end Go.Proofs.YtmndlhbgacgnlaaGreat
