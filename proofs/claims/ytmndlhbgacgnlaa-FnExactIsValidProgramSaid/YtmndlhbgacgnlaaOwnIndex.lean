/- The contract of the program's own IndexOf. Condition: lists of fewer than 2^47 elements. -/
import Derived.Test.YtmndlhbgacgnlaaSpecNames
namespace Go.Proofs.Ytmndlhbgacgnlaa
open Go Go.RowKit

theorem beq_yes2 {x s : ByteArray} (h : x = s) : (s.toList == x.toList) = true := by rw [h]; simp
theorem beq_no2 {x s : ByteArray} (h : ¬ x = s) : (s.toList == x.toList) = false := by
  cases hb : (s.toList == x.toList) with
  | false => rfl
  | true =>
    rw [beq_iff_eq, ByteArray.toList_eq, ByteArray.toList_eq] at hb
    exact absurd (bytes_eq hb.symm) h
set_option maxHeartbeats 1000000 in
theorem lib_index (A : Option Addr) (xs : List ByteArray) (cap : Nat) (s : ByteArray) (w : World) (hs : Strs w A xs) (hn : xs.length ≤ 140737488355328) :
    Calls Try.prog 174 #[.slice A xs.length cap, .string s] w fun e w' => e = .returned (.int .i64 (idx xs s)) ∧ w = w' := by
  obtain ⟨n, hnn⟩ : ∃ n, n = xs.length := ⟨_, rfl⟩
  have HN := Lib.hid hnn
  have HS := Lib.hid hs
  rw [← hnn]
  rw [← hnn] at hn
  clear hs hnn
  go_enter Try.func174, Try.ntmps174
  go_wp2
  go_loop [8] (fun i => ∃ k : Nat, k ≤ n ∧ i = .int .i64 (k : Int) ∧ Hid (idx xs s = idxFrom s k (xs.drop k))) (fun i => n - (intOf i).toNat)
  case atStart => exact ⟨0, Nat.zero_le _, rfl, Lib.hid rfl⟩
  case round =>
    obtain ⟨k, hk, rfl, HK⟩ := hrel
    by_cases hlt : k < n
    · obtain ⟨a, x, rfl, hc, -, hx, -, -⟩ := HS.out.get k (by rw [← HN.out]; exact hlt)
      have HD := Lib.hid (idx_here xs s k x hx)
      clear hx
      by_cases e : x = s
      · have hb := beq_yes2 e
        have HE := Lib.hid (HK.out.trans (HD.out.1 e))
        clear e
        go_wp2
        go_ret
        exact ⟨by rw [HE.out]; rfl, rfl⟩
      · have hb := beq_no2 e
        have HE := Lib.hid (HK.out.trans (HD.out.2 e))
        clear e
        go_wp2
        go_round
        case rel => exact ⟨k + 1, by omega, by go_num, HE⟩
        case measure => simp [intOf]; omega
    · have HE := Lib.hid (show idxFrom s k (xs.drop k) = -1 by rw [List.drop_eq_nil_of_le (by rw [← HN.out]; omega)]; rfl)
      go_wp2
      go_ret
      exact ⟨by rw [HK.out, HE.out]; rfl, rfl⟩
set_option maxHeartbeats 400000 in
theorem own_index (A : Option Addr) (xs : List ByteArray) (cap : Nat) (s : ByteArray) (w : World) (hs : Strs w A xs) (hn : xs.length ≤ 140737488355328) :
    Calls Try.prog 163 #[.slice A xs.length cap, .string s] w fun e w' => e = .returned (.int .i64 (idx xs s)) ∧ Below w.heap.size w w' := by
  have HF := Lib.hid (lib_index A xs cap s w hs hn)
  clear hs hn
  generalize idx xs s = r at *
  go_enter Try.func163, Try.ntmps163
  go_wp2_with fail
  go_at_call 174
  refine HF.out.mono ?_
  rintro e w' ⟨rfl, rfl⟩
  go_wp2_with fail
  go_ret
  exact ⟨rfl, Below.refl _ _⟩
end Go.Proofs.Ytmndlhbgacgnlaa
