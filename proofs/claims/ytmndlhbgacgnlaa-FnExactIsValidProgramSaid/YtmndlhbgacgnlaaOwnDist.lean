/- The contracts of the program's own setOfNames and AllDistinct. Conditions: lists of fewer than 2^40 elements, strings of a size that an int holds. -/
import Derived.Test.YtmndlhbgacgnlaaSet
import Derived.Test.YtmndlhbgacgnlaaSpecDistinct
import Derived.Deep.LoopGhost
import Derived.Deep.Cut
namespace Go.Proofs.Ytmndlhbgacgnlaa
open Go Go.RowKit

def SetPost (xs : List ByteArray) (w : World) (e : Ending) (w' : World) : Prop := e = .returned (.map (some w.heap.size)) ∧ SetIs w' w.heap.size xs.length xs ∧ Below w.heap.size w w'

set_option maxHeartbeats 1000000 in
theorem own_set (A : Option Addr) (xs : List ByteArray) (cap : Nat) (w : World) (hs : Strs w A xs) (hn : xs.length ≤ 1099511627776) (hx : ∀ x ∈ xs, x.size ≤ 9223372036854775807) :
    Calls Try.prog 177 #[.slice A xs.length cap] w (SetPost xs w) := by
  obtain ⟨n, hnn⟩ : ∃ n, n = xs.length := ⟨_, rfl⟩
  have HN := Lib.hid hnn
  have HS := Lib.hid hs
  have HX := Lib.hid hx
  rw [← hnn]
  rw [← hnn] at hn
  clear hs hnn hx
  have hmm := run_makeHint
  go_enter Try.func177, Try.ntmps177
  go_wp2
  have H0 := Lib.hid (set_made w)
  have HB0 := Lib.hid ((Below.refl w.heap.size w).alloc (Nat.le_refl _) (.map #[] 0))
  clear hmm
  go_loopw [11] (fun i wr => ∃ k : Nat, k ≤ n ∧ i = .int .i64 (k : Int) ∧ Hid (SetIs wr w.heap.size k (xs.take k)) ∧ Hid (Below w.heap.size w wr)) (fun i _ => n - (intOf i).toNat)
  case atStart => exact ⟨0, Nat.zero_le _, rfl, H0, HB0⟩
  case round =>
    obtain ⟨k, hk, rfl, HT, HB⟩ := hrel
    by_cases hlt : k < n
    · obtain ⟨a, x, rfl, hc0, hmem, -, htake, hab⟩ := HS.out.get k (by rw [← HN.out]; exact hlt)
      have hc : wr.cell? (a.add k) = some (.string x) := (HB.out.cell (p := a.add k) (by rw [block_add]; exact hab)).trans hc0
      have HXS := Lib.hid (show x.size ≤ maxLen from HX.out x hmem)
      have HK := Lib.hid (show k < maxLen by unfold maxLen; omega)
      have HTK := Lib.hid htake
      clear hc0 hmem htake
      go_wp2_with (at_mapUpdate; refine add_set _ rfl _ _ _ rfl w.heap.size k _ rfl HT.out HK.out x rfl rfl HXS.out ?_; intro w1 hs1 hg1; have HT1 := Lib.hid hs1; have HG1 := Lib.hid hg1; clear hs1 hg1)
      go_roundw
      case rel => exact ⟨k + 1, by omega, by go_num, Lib.hid (by rw [HTK.out]; exact HT1.out), Lib.hid (HB.out.grown HG1.out HB.out.size (fun j hj => by cases hj; exact Nat.le_refl _))⟩
      case measure => simp [intOf]; omega
    · have HE := Lib.hid (show xs.take k = xs from List.take_of_length_le (by rw [← HN.out]; omega))
      have HK := Lib.hid (show k = xs.length by rw [← HN.out]; omega)
      go_wp2
      go_ret
      refine ⟨rfl, ?_, HB.out⟩
      have h := HT.out
      rw [HE.out, HK.out] at h
      exact h

def DistEnd (xs : List ByteArray) (w : World) (e : Ending) (w' : World) : Prop := e = .returned (.bool (distinct xs)) ∧ Below w.heap.size w w'
set_option maxHeartbeats 400000 in
theorem own_distinct (A : Option Addr) (xs : List ByteArray) (cap : Nat) (w : World) (hs : Strs w A xs) (hn : xs.length ≤ 1099511627776) (hx : ∀ x ∈ xs, x.size ≤ 9223372036854775807) :
    Calls Try.prog 172 #[.slice A xs.length cap] w (DistEnd xs w) := by
  have HF := Lib.hid (own_set A xs cap w hs hn hx)
  have HD := Lib.hid (set_size_distinct xs)
  clear hs hx
  obtain ⟨n, hnn⟩ : ∃ n, n = xs.length := ⟨_, rfl⟩
  have HN := Lib.hid hnn
  rw [← hnn]
  rw [← hnn] at hn
  have HD2 := Lib.hid (show (((uniteFrom [] xs).length : Int) == (n : Int)) = distinct xs by rw [hnn]; exact HD.out)
  have HF2 := Lib.hid (show Calls Try.prog 177 #[.slice A n cap] w (SetPost xs w) by rw [hnn]; exact HF.out)
  clear hnn HD HF
  unfold DistEnd
  generalize distinct xs = c at *
  go_enter Try.func172, Try.ntmps172
  go_wp2_with (first | (go_at_call 177; refine HF2.out.mono ?_; rintro e w1 ⟨rfl, hs1, hb1⟩; have HS1 := Lib.hid hs1; have HB1 := Lib.hid hb1; clear hs1 hb1) | (at_len; refine len_set _ rfl _ rfl w.heap.size _ xs rfl HS1.out ?_))
  go_ret
  exact ⟨by rw [← HD2.out]; rfl, HB1.out⟩

end Go.Proofs.Ytmndlhbgacgnlaa
