/- The contract of the model's Join: it gives the joined string. Conditions: at most 1048576 elements and bytes in all, and a separator of at most 1048576 bytes. -/
import Derived.Test.YtmndlhbgacgnlaaStrs
import Derived.Lib.AppendStr
import Derived.Lib.Join
import Derived.Lib.BufferRead
namespace Go.Proofs.Ytmndlhbgacgnlaa
open Go Go.RowKit

def totS (l : List ByteArray) : Nat := (l.map (·.size)).sum
theorem totS_snoc (l : List ByteArray) (x : ByteArray) : totS (l ++ [x]) = totS l + x.size := by simp [totS]
def listsS (xs : List ByteArray) : List (List UInt8) := xs.map (·.data.toList)
def cellsB (l : List UInt8) : List Value := l.map fun b => Value.int .u8 b.toNat
theorem cells_append (a b : List UInt8) : cellsB (a ++ b) = cellsB a ++ cellsB b := List.map_append
theorem cells_str (s : ByteArray) : Lib.strCells s = cellsB s.data.toList := rfl
theorem size_listS (s : ByteArray) : s.data.toList.length = s.size := Array.length_toList

/-- What stands before the k-th element is joined: the first k joined, and the separator behind them if there is one. -/
theorem join_snoc (L : List (List UInt8)) (x sep : List UInt8) (h : L ≠ []) : Lib.join (L ++ [x]) sep = Lib.join L sep ++ sep ++ x := by
  cases L with
  | nil => exact absurd rfl h
  | cons y r =>
    rw [List.cons_append, Lib.join_cons, Lib.join_cons]
    simp [Lib.joinTail, List.append_assoc]
theorem tail_length (r : List (List UInt8)) (sep : List UInt8) : (Lib.joinTail sep r).length = Lib.lens r + r.length * sep.length := by
  induction r with
  | nil => simp [Lib.joinTail, Lib.lens]
  | cons y r ih =>
    have e1 : Lib.joinTail sep (y :: r) = sep ++ y ++ Lib.joinTail sep r := by simp [Lib.joinTail, List.append_assoc]
    have e2 : Lib.lens (y :: r) = y.length + Lib.lens r := by simp [Lib.lens]
    rw [e1, e2, List.length_append, List.length_append, ih, List.length_cons, Nat.succ_mul]; omega
theorem join_length (L : List (List UInt8)) (sep : List UInt8) : (Lib.join L sep).length ≤ Lib.lens L + L.length * sep.length := by
  cases L with
  | nil => simp [Lib.join_nil, Lib.lens]
  | cons x r =>
    have e2 : Lib.lens (x :: r) = x.length + Lib.lens r := by simp [Lib.lens]
    rw [Lib.join_cons, List.length_append, tail_length, e2, List.length_cons, Nat.succ_mul]; omega
theorem lens_lists (xs : List ByteArray) : Lib.lens (listsS xs) = totS xs := by
  unfold Lib.lens listsS totS
  rw [List.map_map]
  congr 1
theorem totS_take (xs : List ByteArray) : ∀ k, totS (xs.take k) ≤ totS xs := by
  induction xs with
  | nil => intro k; simp [totS]
  | cons x r ih =>
    intro k
    cases k with
    | zero => simp [totS]
    | succ k =>
      have := ih k
      simp only [totS, List.take_succ_cons, List.map_cons, List.sum_cons] at this ⊢
      omega
/-- The length of what is joined so far. -/
theorem joined_le (xs : List ByteArray) (s : ByteArray) (k : Nat) (hk : k ≤ xs.length) (ht : totS xs + xs.length ≤ 2097152) (hs : s.size ≤ 1048576) :
    (Lib.join (listsS (xs.take k)) s.data.toList).length ≤ 4398046511104 := by
  have h1 := join_length (listsS (xs.take k)) s.data.toList
  have h2 := totS_take xs k
  rw [lens_lists, size_listS] at h1
  have h3 : (listsS (xs.take k)).length = k := by simp [listsS]; omega
  rw [h3] at h1
  have h4 : k * s.size ≤ 2097152 * 1048576 := Nat.mul_le_mul (by omega) hs
  omega
theorem lists_snoc (xs : List ByteArray) (x : ByteArray) : listsS (xs ++ [x]) = listsS xs ++ [x.data.toList] := by simp [listsS]
theorem join_step0 (xs : List ByteArray) (x s : ByteArray) (h : xs.take 1 = xs.take 0 ++ [x]) : Lib.join (listsS (xs.take 1)) s.data.toList = Lib.join (listsS (xs.take 0)) s.data.toList ++ x.data.toList := by
  rw [h, lists_snoc]
  simp [listsS, Lib.join_one, Lib.join_nil]
theorem join_step (xs : List ByteArray) (k : Nat) (x s : ByteArray) (hk : 0 < k) (hk2 : k ≤ xs.length) (h : xs.take (k + 1) = xs.take k ++ [x]) :
    Lib.join (listsS (xs.take (k + 1))) s.data.toList = Lib.join (listsS (xs.take k)) s.data.toList ++ s.data.toList ++ x.data.toList := by
  rw [h, lists_snoc]
  refine join_snoc _ _ _ (fun e => ?_)
  have h1 : (listsS (xs.take k)).length = 0 := by rw [e]; rfl
  have h2 : (listsS (xs.take k)).length = k := by simp [listsS]; omega
  omega

theorem Try.info5j : (Try.prog.info? 5).map (fun i => (i.zero, i.size, i.bytes)) = some (some (.int .u8 0), 1, 1) := by kernel_rfl

theorem app_belowB {w wr w1 : World} {v : Value} {n : Nat} {l : List Value} (hb : Below w.heap.size w wr) (ho : wr.ownsRow w.heap.size 5 1 v n l) (hg : wr.grownBy w1 v.ownBlock) : Below w.heap.size w w1 :=
  hb.grown hg hb.size (fun k hk => (ho.lt k hk).1)
theorem own_moreB {w1 : World} {B : Nat} {v : Value} {J : List UInt8} {s : ByteArray} (h : w1.ownsRow B 5 1 v (J.length + s.size) (cellsB J ++ Lib.strCells s)) : w1.ownsRow B 5 1 v (J ++ s.data.toList).length (cellsB (J ++ s.data.toList)) := by
  rw [List.length_append, size_listS, cells_append]; exact h
/-- 'string(b)' of a row of the call's own. -/
theorem conv_row {W : World} {B : Nat} {v : Value} {J : List UInt8} (h : W.ownsRow B 5 1 v J.length (cellsB J)) : (convert 22 9 v).run Try.prog W = .ok (.string ⟨J.toArray⟩) W := by
  rcases h.2 with ⟨rfl, h0⟩ | ⟨g, cap, cur, rfl, -, -, -, -, -, -⟩
  · have : J = [] := List.eq_nil_of_length_eq_zero h0
    subst this
    exact Lib.run_convert_nil_bytes W 22 9 5 0 Try.underlying22 Try.underlying5 Try.underlying9
  · refine run_convert_bytes_back W 22 9 5 ⟨g, 0, none⟩ cap J Try.underlying22 Try.underlying5 Try.underlying9 (fun j hj => ?_)
    exact h.cells (g := g) rfl j _ (by simp [cellsB, hj])

def JoinPost (xs : List ByteArray) (s : ByteArray) (w : World) (e : Ending) (w' : World) : Prop :=
  e = .returned (.string ⟨(Lib.join (listsS xs) s.data.toList).toArray⟩) ∧ Below w.heap.size w w'

set_option maxHeartbeats 1000000 in
theorem spec_join (A : Option Addr) (xs : List ByteArray) (cap : Nat) (s : ByteArray) (w : World) (hs : Strs w A xs) (ht : totS xs + xs.length ≤ 2097152) (hsep : s.size ≤ 1048576) :
    Calls Try.prog 120 #[.slice A xs.length cap, .string s] w (JoinPost xs s w) := by
  obtain ⟨i0, hi, hz0, hz1, hz2⟩ := info_parts Try.info5j
  obtain ⟨n, hnn⟩ : ∃ n, n = xs.length := ⟨_, rfl⟩
  have hn : n ≤ 2097152 := by omega
  have HN := Lib.hid hnn
  have HS := Lib.hid hs
  have HT := Lib.hid ht
  rw [← hnn]
  clear hs hnn ht
  have HI := Lib.hid (And.intro hi (And.intro hz0 (And.intro hz1 hz2)))
  clear hi hz0 hz1 hz2
  go_enter Try.func120, Try.ntmps120
  go_wp2
  have H0 := Lib.hid (show (w.alloc (.cells #[] 5)).ownsRow w.heap.size 5 1 (.slice (some ⟨w.heap.size, 0, none⟩) 0 0) 0 [] from World.ownsRow_made w #[] 0 (Nat.le_refl _) (Nat.zero_le _) rfl)
  have HB0 := Lib.hid ((Below.refl w.heap.size w).alloc (Nat.le_refl _) (.cells #[] 5))
  go_loopw [5, 6] (fun v i wr => ∃ (k : Nat) (J : List UInt8), k ≤ n ∧ i = .int .i64 (k : Int) ∧ Hid (J = Lib.join (listsS (xs.take k)) s.data.toList) ∧ J.length ≤ 4398046511104 ∧ Hid (wr.ownsRow w.heap.size 5 1 v J.length (cellsB J)) ∧ Hid (Below w.heap.size w wr)) (fun _ i _ => n - (intOf i).toNat)
  case atStart => exact ⟨0, [], Nat.zero_le _, rfl, Lib.hid rfl, Nat.zero_le _, H0, HB0⟩
  case round =>
    obtain ⟨k, J, hk, rfl, HJ, hJ, HO, HB⟩ := hrel
    by_cases hlt : k < n
    · obtain ⟨a, x, rfl, hc0, hmem, -, htake, hal⟩ := HS.out.get k (by rw [← HN.out]; exact hlt)
      have hc : wr.cell? (a.add k) = some (.string x) := (HB.out.cell (p := a.add k) (by rw [block_add]; exact hal)).trans hc0
      have hx : x.size ≤ 2097152 := by
        have h1 := totS_take xs (k + 1)
        rw [htake, totS_snoc] at h1
        have := HT.out
        omega
      have hsz := HB.out.size
      by_cases hk0 : k = 0
      · have hkz : (k : Int) ≤ 0 := by omega
        have HJ1 := Lib.hid (show J ++ x.data.toList = Lib.join (listsS (xs.take (k + 1))) s.data.toList by subst hk0; rw [HJ.out]; exact (join_step0 xs x s htake).symm)
        have hJ1 : (J ++ x.data.toList).length ≤ 4398046511104 := by
          have h1 := joined_le xs s (k + 1) (by rw [← HN.out]; omega) HT.out hsep
          rw [← HJ1.out] at h1; exact h1
        have C1 := Lib.hid (show J.length + x.size ≤ maxLen by unfold maxLen; omega)
        have C2 := Lib.hid (show J.length + x.size ≤ 140737488355328 by omega)
        have C3 := Lib.hid hsz
        have HK := Lib.hid hk0
        clear hsz hc0 hmem htake hal hx hk0
        go_wp2_with (at_builtin; go_loud (refine Lib.wpList_append_own_string _ rfl (.tmp 19) (.tmp 23) 22 9 rfl w.heap.size 5 i0 Try.underlying22 Try.underlying9 HI.out.1 HI.out.2.1 HI.out.2.2.1 HI.out.2.2.2 u5 _ _ rfl HO.out x rfl C1.out C2.out C3.out ?_); intro v1 w1 ho1 hg1 _; have HO1 := Lib.hid (own_moreB ho1); have HB1 := Lib.hid (app_belowB HB.out HO.out hg1); clear ho1 hg1)
        go_roundw
        case rel => exact ⟨k + 1, _, by omega, by go_num, HJ1, hJ1, HO1, HB1⟩
        case measure => simp [intOf]; omega
      · have hkp : 0 < (k : Int) := by omega
        have HJ1 := Lib.hid (show J ++ s.data.toList ++ x.data.toList = Lib.join (listsS (xs.take (k + 1))) s.data.toList by rw [HJ.out]; exact (join_step xs k x s (by omega) (by rw [← HN.out]; exact hk) htake).symm)
        have hJ1 : (J ++ s.data.toList ++ x.data.toList).length ≤ 4398046511104 := by
          have h1 := joined_le xs s (k + 1) (by rw [← HN.out]; omega) HT.out hsep
          rw [← HJ1.out] at h1; exact h1
        have C1 := Lib.hid (show J.length + s.size ≤ maxLen by unfold maxLen; omega)
        have C2 := Lib.hid (show J.length + s.size ≤ 140737488355328 by omega)
        have C3 := Lib.hid hsz
        have hl2 : (J ++ s.data.toList).length = J.length + s.size := by rw [List.length_append, size_listS]
        have C4 := Lib.hid (show (J ++ s.data.toList).length + x.size ≤ maxLen by unfold maxLen; omega)
        have C5 := Lib.hid (show (J ++ s.data.toList).length + x.size ≤ 140737488355328 by omega)
        have HK := Lib.hid hk0
        have HC := Lib.hid (fun (W : World) (hW : Below w.heap.size w W) => (hW.cell (p := a.add k) (by rw [block_add]; exact hal)).trans hc0)
        clear hsz hc hc0 hmem htake hal hx hl2 hk0
        go_wp2_with (first
          | (at_builtin; refine Lib.wpList_append_own_string _ rfl (.tmp 16) (.tmp 17) 22 9 rfl w.heap.size 5 i0 Try.underlying22 Try.underlying9 HI.out.1 HI.out.2.1 HI.out.2.2.1 HI.out.2.2.2 u5 _ _ rfl HO.out s rfl C1.out C2.out C3.out ?_; intro v1 w1 ho1 hg1 _; have HO1 := Lib.hid (own_moreB ho1); have HB1 := Lib.hid (app_belowB HB.out HO.out hg1); have hc1 := HC.out _ HB1.out; clear ho1 hg1)
          | (at_builtin; refine Lib.wpList_append_own_string _ rfl (.tmp 19) (.tmp 23) 22 9 rfl w.heap.size 5 i0 Try.underlying22 Try.underlying9 HI.out.1 HI.out.2.1 HI.out.2.2.1 HI.out.2.2.2 v1 _ _ rfl HO1.out x rfl C4.out C5.out HB1.out.size ?_; intro v2 w2 ho2 hg2 _; have HO2 := Lib.hid (own_moreB ho2); have HB2 := Lib.hid (app_belowB HB1.out HO1.out hg2); clear ho2 hg2))
        go_roundw
        case rel => exact ⟨k + 1, _, by omega, by go_num, HJ1, hJ1, HO2, HB2⟩
        case measure => simp [intOf]; omega
    · have hk' : k = n := by omega
      have HE := Lib.hid (show J = Lib.join (listsS xs) s.data.toList by rw [HJ.out, List.take_of_length_le (by rw [← HN.out]; omega)])
      have hcv := conv_row HO.out
      go_wp2
      go_ret
      exact ⟨by rw [← HE.out]; rfl, HB.out⟩
end Go.Proofs.Ytmndlhbgacgnlaa
