/- The contracts of the model's IsName, IsConName and IndexOf. Conditions: texts of at most 1048576 bytes, lists of fewer than 2^47 elements. -/
import Derived.Test.YtmndlhbgacgnlaaStrs
import Derived.Test.YtmndlhbgacgnlaaNames
namespace Go.Proofs.Ytmndlhbgacgnlaa
open Go Go.RowKit

theorem sizeN (s : ByteArray) : s.data.toList.length = s.size := Array.length_toList
theorem drop_at (s : ByteArray) (k : Nat) (h : k < s.size) : s.data.toList.drop k = s[k] :: s.data.toList.drop (k + 1) := by
  rw [List.drop_eq_getElem_cons (by rw [sizeN]; exact h)]; rfl

/-- Do letters and digits alone stand behind the first byte? -/
def tail1 (s : ByteArray) : Bool := tailL (s.data.toList.drop 1)

set_option maxHeartbeats 1000000 in
theorem tail_any (s : ByteArray) (w : World) (hs : s.size ≤ 1048576) (h1 : 1 ≤ s.size) :
    Calls Try.prog 153 #[.string s, .int .i64 1] w fun e w' => e = .returned (.bool (tail1 s)) ∧ w = w' := by
  go_enter Try.func153, Try.ntmps153
  go_wp2
  go_loop [5] (fun i => ∃ k : Nat, 1 ≤ k ∧ k ≤ s.size ∧ i = .int .i64 (k : Int) ∧ Hid (tail1 s = tailL (s.data.toList.drop k))) (fun i => s.size - (intOf i).toNat)
  case atStart => exact ⟨1, Nat.le_refl _, h1, rfl, Lib.hid rfl⟩
  case round =>
    obtain ⟨k, hk0, hk, rfl, HK⟩ := hrel
    by_cases hlt : k < s.size
    · have HD := Lib.hid (drop_at s k hlt)
      have hc : 0 ≤ (s[k].toNat : Int) ∧ (s[k].toNat : Int) ≤ 255 := by have := s[k].toNat_lt; omega
      by_cases ha : 97 ≤ (s[k].toNat : Int) ∧ (s[k].toNat : Int) ≤ 122
      · obtain ⟨ha1, ha2⟩ := ha
        have HT := Lib.hid (tail_step _ k _ HD.out (tail_yes (Or.inl ⟨by omega, by omega⟩)))
        go_wp2
        go_round
        case rel => exact ⟨k + 1, by omega, by omega, by go_num, Lib.hid (HK.out.trans HT.out)⟩
        case measure => simp [intOf]; omega
      · by_cases hb : 48 ≤ (s[k].toNat : Int) ∧ (s[k].toNat : Int) ≤ 57
        · obtain ⟨hb1, hb2⟩ := hb
          have HT := Lib.hid (tail_step _ k _ HD.out (tail_yes (Or.inr ⟨by omega, by omega⟩)))
          clear ha
          go_wp2
          go_round
          case rel => exact ⟨k + 1, by omega, by omega, by go_num, Lib.hid (HK.out.trans HT.out)⟩
          case measure => simp [intOf]; omega
        · have hcase : (s[k].toNat : Int) < 48 ∨ (57 < (s[k].toNat : Int) ∧ (s[k].toNat : Int) < 97) ∨ 122 < (s[k].toNat : Int) := by omega
          have HT := Lib.hid (tail_stop _ k _ HD.out (tail_not (by omega)))
          clear ha hb
          rcases hcase with h | ⟨h, h'⟩ | h
          · go_wp2
            go_ret
            exact ⟨by rw [HK.out, HT.out]; rfl, rfl⟩
          · have hd : decide ((s[k].toNat : Int) ≤ 57) = false := by simp; omega
            go_wp2
            go_ret
            exact ⟨by rw [HK.out, HT.out]; rfl, rfl⟩
          · have hd : decide ((s[k].toNat : Int) ≤ 57) = false := by simp; omega
            have hd2 : decide ((s[k].toNat : Int) ≤ 122) = false := by simp; omega
            go_wp2
            go_ret
            exact ⟨by rw [HK.out, HT.out]; rfl, rfl⟩
    · have HE := Lib.hid (show tailL (s.data.toList.drop k) = true by rw [List.drop_eq_nil_of_le (by rw [sizeN]; omega)]; rfl)
      go_wp2
      go_ret
      exact ⟨by rw [HK.out, HE.out]; rfl, rfl⟩

theorem bytes_eq {x s : ByteArray} (h : x.data.toList = s.data.toList) : x = s := by
  have e1 : x.data = s.data := Array.toList_inj.1 h
  cases x; cases s
  simp only at e1
  rw [e1]
theorem beq_yes {x s : ByteArray} (h : x = s) : (x.toList == s.toList) = true := by rw [h]; simp
theorem beq_no {x s : ByteArray} (h : ¬ x = s) : (x.toList == s.toList) = false := by
  cases hb : (x.toList == s.toList) with
  | false => rfl
  | true =>
    rw [beq_iff_eq, ByteArray.toList_eq, ByteArray.toList_eq] at hb
    exact absurd (bytes_eq hb) h
theorem idx_here (xs : List ByteArray) (s : ByteArray) (k : Nat) (x : ByteArray) (h : xs[k]? = some x) : (x = s → idxFrom s k (xs.drop k) = k) ∧ (¬ x = s → idxFrom s k (xs.drop k) = idxFrom s (k + 1) (xs.drop (k + 1))) := by
  have hk : k < xs.length := (List.getElem?_eq_some_iff.1 h).1
  have e : xs[k] = x := (List.getElem?_eq_some_iff.1 h).2
  rw [List.drop_eq_getElem_cons hk, e]
  exact ⟨fun h => by rw [idxFrom, if_pos h], fun h => by rw [idxFrom, if_neg h]⟩

set_option maxHeartbeats 1000000 in
theorem idx_any (A : Option Addr) (xs : List ByteArray) (cap : Nat) (s : ByteArray) (w : World) (hs : Strs w A xs) (hn : xs.length ≤ 140737488355328) :
    Calls Try.prog 108 #[.slice A xs.length cap, .string s] w fun e w' => e = .returned (.int .i64 (idx xs s)) ∧ w = w' := by
  obtain ⟨n, hnn⟩ : ∃ n, n = xs.length := ⟨_, rfl⟩
  have HN := Lib.hid hnn
  have HS := Lib.hid hs
  rw [← hnn]
  rw [← hnn] at hn
  clear hs hnn
  go_enter Try.func108, Try.ntmps108
  go_wp2
  go_loop [5] (fun i => ∃ k : Nat, k ≤ n ∧ i = .int .i64 (k : Int) ∧ Hid (idx xs s = idxFrom s k (xs.drop k))) (fun i => n - (intOf i).toNat)
  case atStart => exact ⟨0, Nat.zero_le _, rfl, Lib.hid rfl⟩
  case round =>
    obtain ⟨k, hk, rfl, HK⟩ := hrel
    by_cases hlt : k < n
    · obtain ⟨a, x, rfl, hc, -, hx, -, -⟩ := HS.out.get k (by rw [← HN.out]; exact hlt)
      have HD := Lib.hid (idx_here xs s k x hx)
      clear hx
      by_cases e : x = s
      · have hb := beq_yes e
        have HE := Lib.hid (HK.out.trans (HD.out.1 e))
        clear e
        go_wp2
        go_ret
        exact ⟨by rw [HE.out]; rfl, rfl⟩
      · have hb := beq_no e
        have HE := Lib.hid (HK.out.trans (HD.out.2 e))
        clear e
        go_wp2
        go_round
        case rel => exact ⟨k + 1, by omega, by go_num, HE⟩
        case measure => simp [intOf]; omega
    · have HE := Lib.hid (show idxFrom s k (xs.drop k) = -1 by rw [List.drop_eq_nil_of_le (by rw [← HN.out]; omega)]; rfl)
      go_wp2
      go_ret
      exact ⟨by rw [HK.out, HE.out]; rfl, rfl⟩

set_option maxHeartbeats 400000 in
theorem in_yes (x lo hi : Int) (w : World) (h0 : lo ≤ x) (h1 : x ≤ hi) :
    Calls Try.prog 154 #[.int .i64 x, .int .i64 lo, .int .i64 hi] w fun e w' => e = .returned (.bool true) ∧ w = w' := by
  go_enter Try.func154, Try.ntmps154
  go_wp2
  go_ret
  exact ⟨rfl, rfl⟩
set_option maxHeartbeats 400000 in
theorem in_no (x lo hi : Int) (w : World) (h : x < lo ∨ hi < x) :
    Calls Try.prog 154 #[.int .i64 x, .int .i64 lo, .int .i64 hi] w fun e w' => e = .returned (.bool false) ∧ w = w' := by
  rcases h with h | h
  · go_enter Try.func154, Try.ntmps154
    go_wp2
    go_ret
    exact ⟨rfl, rfl⟩
  · by_cases h2 : lo ≤ x
    · have hd : decide (x ≤ hi) = false := by simp; omega
      go_enter Try.func154, Try.ntmps154
      go_wp2
      go_ret
      exact ⟨rfl, rfl⟩
    · go_enter Try.func154, Try.ntmps154
      go_wp2
      go_ret
      exact ⟨rfl, rfl⟩

theorem name_list (s : ByteArray) (h : 1 ≤ s.size) : s.data.toList = s[0] :: s.data.toList.drop 1 := by
  have := drop_at s 0 h
  simpa using this
theorem name_in (lo hi : Nat) (s : ByteArray) (h : 1 ≤ s.size) (h6 : s.size ≤ 6) (h0 : lo ≤ s[0].toNat) (h1 : s[0].toNat ≤ hi) : nameL lo hi s.data.toList = tail1 s := by
  have e := name_list s h
  have hl : (s.data.toList.drop 1).length ≤ 5 := by rw [List.length_drop, sizeN]; omega
  unfold tail1
  generalize s.data.toList.drop 1 = r at *
  rw [e]
  simp [nameL, hl, h0, h1]
theorem name_first (lo hi : Nat) (s : ByteArray) (h : 1 ≤ s.size) (h0 : s[0].toNat < lo ∨ hi < s[0].toNat) : nameL lo hi s.data.toList = false := by
  have e := name_list s h
  generalize s.data.toList.drop 1 = r at *
  rw [e]
  simp only [nameL, Bool.and_eq_false_iff, decide_eq_false_iff_not]
  omega
theorem name_size (lo hi : Nat) (s : ByteArray) (h : s.size < 1 ∨ 6 < s.size) : nameL lo hi s.data.toList = false := by
  by_cases h1 : s.size < 1
  · have : s.data.toList = [] := List.eq_nil_of_length_eq_zero (by rw [sizeN]; omega)
    rw [this]; rfl
  · have e := name_list s (by omega)
    have hl : ¬ (s.data.toList.drop 1).length ≤ 5 := by rw [List.length_drop, sizeN]; omega
    generalize s.data.toList.drop 1 = r at *
    rw [e]
    simp [nameL, hl]

set_option maxHeartbeats 1000000 in
theorem isname_any (s : ByteArray) (w : World) (hs : s.size ≤ 1048576) :
    Calls Try.prog 124 #[.string s] w fun e w' => e = .returned (.bool (nameL 97 122 s.data.toList)) ∧ w = w' := by
  by_cases hsz : s.size < 1 ∨ 6 < s.size
  · have HE := Lib.hid (name_size 97 122 s hsz)
    have HA := Lib.hid (in_no (s.size : Int) 1 6 w (by omega))
    clear hsz
    rw [HE.out]
    go_enter Try.func124, Try.ntmps124
    go_wp2_with (go_at_call 154; refine HA.out.mono ?_; rintro e w' ⟨rfl, rfl⟩)
    go_ret
    exact ⟨rfl, rfl⟩
  · have h1 : 1 ≤ s.size := by omega
    have h6 : s.size ≤ 6 := by omega
    have hp : 0 < s.size := by omega
    have HA := Lib.hid (in_yes (s.size : Int) 1 6 w (by omega) (by omega))
    have HT := Lib.hid (tail_any s w hs h1)
    clear hsz
    by_cases h0 : (s[0].toNat : Int) < 97
    · have HE := Lib.hid (name_first 97 122 s h1 (Or.inl (by omega)))
      rw [HE.out]
      go_enter Try.func124, Try.ntmps124
      go_wp2_with (go_at_call 154; refine HA.out.mono ?_; rintro e w' ⟨rfl, rfl⟩)
      go_ret
      exact ⟨rfl, rfl⟩
    · by_cases h2 : 122 < (s[0].toNat : Int)
      · have HE := Lib.hid (name_first 97 122 s h1 (Or.inr (by omega)))
        have hd : decide ((s[0].toNat : Int) ≤ 122) = false := by simp; omega
        rw [HE.out]
        go_enter Try.func124, Try.ntmps124
        go_wp2_with (go_at_call 154; refine HA.out.mono ?_; rintro e w' ⟨rfl, rfl⟩)
        go_ret
        exact ⟨rfl, rfl⟩
      · have HE := Lib.hid (name_in 97 122 s h1 h6 (by omega) (by omega))
        rw [HE.out]
        go_enter Try.func124, Try.ntmps124
        go_wp2_with (first | (go_at_call 154; refine HA.out.mono ?_; rintro e w' ⟨rfl, rfl⟩) | (go_at_call 153; refine HT.out.mono ?_; rintro e w' ⟨rfl, rfl⟩))
        go_ret
        exact ⟨by simp, rfl⟩

set_option maxHeartbeats 1000000 in
theorem iscon_any (s : ByteArray) (w : World) (hs : s.size ≤ 1048576) :
    Calls Try.prog 146 #[.string s] w fun e w' => e = .returned (.bool (nameL 65 90 s.data.toList)) ∧ w = w' := by
  by_cases hsz : s.size < 1 ∨ 6 < s.size
  · have HE := Lib.hid (name_size 65 90 s hsz)
    have HA := Lib.hid (in_no (s.size : Int) 1 6 w (by omega))
    clear hsz
    rw [HE.out]
    go_enter Try.func146, Try.ntmps146
    go_wp2_with (go_at_call 154; refine HA.out.mono ?_; rintro e w' ⟨rfl, rfl⟩)
    go_ret
    exact ⟨rfl, rfl⟩
  · have h1 : 1 ≤ s.size := by omega
    have h6 : s.size ≤ 6 := by omega
    have hp : 0 < s.size := by omega
    have HA := Lib.hid (in_yes (s.size : Int) 1 6 w (by omega) (by omega))
    have HT := Lib.hid (tail_any s w hs h1)
    clear hsz
    by_cases h0 : (s[0].toNat : Int) < 65
    · have HE := Lib.hid (name_first 65 90 s h1 (Or.inl (by omega)))
      rw [HE.out]
      go_enter Try.func146, Try.ntmps146
      go_wp2_with (go_at_call 154; refine HA.out.mono ?_; rintro e w' ⟨rfl, rfl⟩)
      go_ret
      exact ⟨rfl, rfl⟩
    · by_cases h2 : 90 < (s[0].toNat : Int)
      · have HE := Lib.hid (name_first 65 90 s h1 (Or.inr (by omega)))
        have hd : decide ((s[0].toNat : Int) ≤ 90) = false := by simp; omega
        rw [HE.out]
        go_enter Try.func146, Try.ntmps146
        go_wp2_with (go_at_call 154; refine HA.out.mono ?_; rintro e w' ⟨rfl, rfl⟩)
        go_ret
        exact ⟨rfl, rfl⟩
      · have HE := Lib.hid (name_in 65 90 s h1 h6 (by omega) (by omega))
        rw [HE.out]
        go_enter Try.func146, Try.ntmps146
        go_wp2_with (first | (go_at_call 154; refine HA.out.mono ?_; rintro e w' ⟨rfl, rfl⟩) | (go_at_call 153; refine HT.out.mono ?_; rintro e w' ⟨rfl, rfl⟩))
        go_ret
        exact ⟨by simp, rfl⟩
end Go.Proofs.Ytmndlhbgacgnlaa
