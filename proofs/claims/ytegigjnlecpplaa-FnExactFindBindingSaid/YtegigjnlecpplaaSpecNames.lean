/- The contracts of the model's IsName, IsConName and IndexOf. Conditions: texts of at most 1048576 bytes, lists of fewer than 2^47 elements. -/
import Derived.Test.YtegigjnlecpplaaStrs
import Derived.Test.YtegigjnlecpplaaNames
namespace Go.Proofs.Ytegigjnlecpplaa
open Go Go.RowKit

theorem sizeN (s : ByteArray) : s.data.toList.length = s.size := Array.length_toList
theorem drop_at (s : ByteArray) (k : Nat) (h : k < s.size) : s.data.toList.drop k = s[k] :: s.data.toList.drop (k + 1) := by
  rw [List.drop_eq_getElem_cons (by rw [sizeN]; exact h)]; rfl

/-- Do letters and digits alone stand behind the first byte? -/
def tail1 (s : ByteArray) : Bool := tailL (s.data.toList.drop 1)

theorem bytes_eq {x s : ByteArray} (h : x.data.toList = s.data.toList) : x = s := by
  have e1 : x.data = s.data := Array.toList_inj.1 h
  cases x; cases s
  simp only at e1
  rw [e1]
theorem beq_yes {x s : ByteArray} (h : x = s) : (x.toList == s.toList) = true := by rw [h]; simp
theorem beq_no {x s : ByteArray} (h : ¬ x = s) : (x.toList == s.toList) = false := by
  cases hb : (x.toList == s.toList) with
  | false => rfl
  | true =>
    rw [beq_iff_eq, ByteArray.toList_eq, ByteArray.toList_eq] at hb
    exact absurd (bytes_eq hb) h
theorem idx_here (xs : List ByteArray) (s : ByteArray) (k : Nat) (x : ByteArray) (h : xs[k]? = some x) : (x = s → idxFrom s k (xs.drop k) = k) ∧ (¬ x = s → idxFrom s k (xs.drop k) = idxFrom s (k + 1) (xs.drop (k + 1))) := by
  have hk : k < xs.length := (List.getElem?_eq_some_iff.1 h).1
  have e : xs[k] = x := (List.getElem?_eq_some_iff.1 h).2
  rw [List.drop_eq_getElem_cons hk, e]
  exact ⟨fun h => by rw [idxFrom, if_pos h], fun h => by rw [idxFrom, if_neg h]⟩

set_option maxHeartbeats 1000000 in
theorem idx_any (A : Option Addr) (xs : List ByteArray) (cap : Nat) (s : ByteArray) (w : World) (hs : Strs w A xs) (hn : xs.length ≤ 140737488355328) :
    Calls Try.prog 84 #[.slice A xs.length cap, .string s] w fun e w' => e = .returned (.int .i64 (idx xs s)) ∧ w = w' := by
  obtain ⟨n, hnn⟩ : ∃ n, n = xs.length := ⟨_, rfl⟩
  have HN := Lib.hid hnn
  have HS := Lib.hid hs
  rw [← hnn]
  rw [← hnn] at hn
  clear hs hnn
  go_enter Try.func84, Try.ntmps84
  go_wp2
  go_loop [5] (fun i => ∃ k : Nat, k ≤ n ∧ i = .int .i64 (k : Int) ∧ Hid (idx xs s = idxFrom s k (xs.drop k))) (fun i => n - (intOf i).toNat)
  case atStart => exact ⟨0, Nat.zero_le _, rfl, Lib.hid rfl⟩
  case round =>
    obtain ⟨k, hk, rfl, HK⟩ := hrel
    by_cases hlt : k < n
    · obtain ⟨a, x, rfl, hc, -, hx, -, -⟩ := HS.out.get k (by rw [← HN.out]; exact hlt)
      have HD := Lib.hid (idx_here xs s k x hx)
      clear hx
      by_cases e : x = s
      · have hb := beq_yes e
        have HE := Lib.hid (HK.out.trans (HD.out.1 e))
        clear e
        go_wp2
        go_ret
        exact ⟨by rw [HE.out]; rfl, rfl⟩
      · have hb := beq_no e
        have HE := Lib.hid (HK.out.trans (HD.out.2 e))
        clear e
        go_wp2
        go_round
        case rel => exact ⟨k + 1, by omega, by go_num, HE⟩
        case measure => simp [intOf]; omega
    · have HE := Lib.hid (show idxFrom s k (xs.drop k) = -1 by rw [List.drop_eq_nil_of_le (by rw [← HN.out]; omega)]; rfl)
      go_wp2
      go_ret
      exact ⟨by rw [HK.out, HE.out]; rfl, rfl⟩

set_option maxHeartbeats 400000 in
theorem in_yes (x lo hi : Int) (w : World) (h0 : lo ≤ x) (h1 : x ≤ hi) :
    Calls Try.prog 71 #[.int .i64 x, .int .i64 lo, .int .i64 hi] w fun e w' => e = .returned (.bool true) ∧ w = w' := by
  go_enter Try.func71, Try.ntmps71
  go_wp2
  go_ret
  exact ⟨rfl, rfl⟩
set_option maxHeartbeats 400000 in
theorem in_no (x lo hi : Int) (w : World) (h : x < lo ∨ hi < x) :
    Calls Try.prog 71 #[.int .i64 x, .int .i64 lo, .int .i64 hi] w fun e w' => e = .returned (.bool false) ∧ w = w' := by
  rcases h with h | h
  · go_enter Try.func71, Try.ntmps71
    go_wp2
    go_ret
    exact ⟨rfl, rfl⟩
  · by_cases h2 : lo ≤ x
    · have hd : decide (x ≤ hi) = false := by simp; omega
      go_enter Try.func71, Try.ntmps71
      go_wp2
      go_ret
      exact ⟨rfl, rfl⟩
    · go_enter Try.func71, Try.ntmps71
      go_wp2
      go_ret
      exact ⟨rfl, rfl⟩

theorem name_list (s : ByteArray) (h : 1 ≤ s.size) : s.data.toList = s[0] :: s.data.toList.drop 1 := by
  have := drop_at s 0 h
  simpa using this
theorem name_in (lo hi : Nat) (s : ByteArray) (h : 1 ≤ s.size) (h6 : s.size ≤ 6) (h0 : lo ≤ s[0].toNat) (h1 : s[0].toNat ≤ hi) : nameL lo hi s.data.toList = tail1 s := by
  have e := name_list s h
  have hl : (s.data.toList.drop 1).length ≤ 5 := by rw [List.length_drop, sizeN]; omega
  unfold tail1
  generalize s.data.toList.drop 1 = r at *
  rw [e]
  simp [nameL, hl, h0, h1]
theorem name_first (lo hi : Nat) (s : ByteArray) (h : 1 ≤ s.size) (h0 : s[0].toNat < lo ∨ hi < s[0].toNat) : nameL lo hi s.data.toList = false := by
  have e := name_list s h
  generalize s.data.toList.drop 1 = r at *
  rw [e]
  simp only [nameL, Bool.and_eq_false_iff, decide_eq_false_iff_not]
  omega
theorem name_size (lo hi : Nat) (s : ByteArray) (h : s.size < 1 ∨ 6 < s.size) : nameL lo hi s.data.toList = false := by
  by_cases h1 : s.size < 1
  · have : s.data.toList = [] := List.eq_nil_of_length_eq_zero (by rw [sizeN]; omega)
    rw [this]; rfl
  · have e := name_list s (by omega)
    have hl : ¬ (s.data.toList.drop 1).length ≤ 5 := by rw [List.length_drop, sizeN]; omega
    generalize s.data.toList.drop 1 = r at *
    rw [e]
    simp [nameL, hl]

end Go.Proofs.Ytegigjnlecpplaa
