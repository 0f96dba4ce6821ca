/- The contract of the model's AllDistinct. Condition: a list of fewer than 2^40 elements. -/
import Derived.Test.YtmndlhbgacgnlaaGreatSpecNames
import Derived.Deep.QuietTactic
import Derived.BigQuiet
namespace Go.Proofs.YtmndlhbgacgnlaaGreat
open Go Go.RowKit

/-- The first k elements. -/
theorem Strs.take {w : World} {A : Option Addr} {xs : List ByteArray} (h : Strs w A xs) (k : Nat) : Strs w A (xs.take k) := fun i x hx => by
  rw [List.getElem?_take] at hx
  split at hx
  · exact h i x hx
  · cases hx
theorem Strs.drewN {w : World} {A : Option Addr} {xs : List ByteArray} (h : Strs w A xs) (q : Nat) : Strs (w.drewN q) A xs := h
theorem quiet_sameL {P : Program} {f : FuncId} {args : Array Value} {w : World} {n : Nat} {v : Value}
    (h : Calls P f args (w.drewN n) fun e w' => e = .returned v ∧ w.drewN n = w') : Calls P f args (w.drewN n) fun e w'' => e = .returned v ∧ ∃ m, w'' = w.drewN m :=
  h.mono fun _ _ ⟨he, hm⟩ => ⟨he, n, hm.symm⟩
def DistPost (xs : List ByteArray) (w : World) (e : Ending) (w' : World) : Prop := e = .returned (.bool (distinct xs)) ∧ ∃ q, w' = w.drewN q

theorem dist_end {xs : List ByteArray} {w wr : World} {q n : Nat} {b : Bool} (hb : b = distinct xs) (hw : wr = w.drewN q) : DistPost xs w (.returned (.bool b)) (wr.drewN n) :=
  ⟨by rw [hb], q + n, by rw [hw, World.drewN_drewN]⟩

set_option maxHeartbeats 1000000 in
theorem dist_any (A : Option Addr) (xs : List ByteArray) (cap : Nat) (w : World) (hs : Strs w A xs) (hn : xs.length ≤ 1099511627776) (hcap : xs.length ≤ cap) (_hc2 : cap ≤ 9223372036854775807) :
    Calls Tryz.prog 95 #[.slice A xs.length cap] w (DistPost xs w) := by
  obtain ⟨n, hnn⟩ : ∃ n, n = xs.length := ⟨_, rfl⟩
  have HN := Lib.hid hnn
  have HS := Lib.hid hs
  rw [← hnn]
  rw [← hnn] at hn hcap
  clear hs hnn
  go_enter Tryz.func95, Tryz.ntmps95
  go_wp2
  go_loopw [3] (fun i wr => ∃ (k q : Nat), k ≤ n ∧ i = .int .i64 (k : Int) ∧ Hid ((xs.take k).Nodup) ∧ Hid (wr = w.drewN q)) (fun i _ => n - (intOf i).toNat)
  case atStart => exact ⟨0, 0, Nat.zero_le _, rfl, Lib.hid (by simp), Lib.hid (by simp [World.drewN_zero])⟩
  case round =>
    obtain ⟨k, q, hk, rfl, HK, HW⟩ := hrel
    by_cases hlt : k < n
    · obtain ⟨a, x, rfl, hc0, -, hx, htake, -⟩ := HS.out.get k (by rw [← HN.out]; exact hlt)
      have hc : wr.cell? (a.add k) = some (.string x) := by rw [HW.out]; exact hc0
      have hk0 : 0 ≤ (k : Int) := by omega
      have hkn : (k : Int) < (n : Int) := by omega
      have hkc : (k : Int) ≤ (cap : Int) := by omega
      have HD := Lib.hid (nodup_take xs k x htake)
      have HL := Lib.hid (show (xs.take k).length = k by rw [List.length_take, ← HN.out]; omega)
      have hI := fun (m : Nat) => idx_any (some a) (xs.take k) cap x (wr.drewN m) (by rw [HW.out]; exact (HS.out.take k)) (by rw [HL.out]; omega)
      rw [HL.out] at hI
      have hge := idx_ge (xs.take k) x
      have HM := Lib.hid (idx_mem (xs.take k) x)
      clear hx htake hc0
      generalize idx (xs.take k) x = r at *
      have HI := Lib.hid hI
      clear hI
      by_cases hr : 0 ≤ r
      · have HF := Lib.hid (nodup_of_take xs (k + 1) (fun h => (HD.out.1 h).2 (HM.out.1 hr)))
        go_wp2
        go_quiet ((go_at_call 97; exact quiet_sameL (HI.out _)))
        go_wp2
        go_ret
        exact dist_end (by unfold distinct; exact (decide_eq_false HF.out).symm) HW.out
      · have HG := Lib.hid (HD.out.2 ⟨HK.out, fun h => hr (HM.out.2 h)⟩)
        go_wp2
        go_quiet ((go_at_call 97; exact quiet_sameL (HI.out _)))
        go_wp2
        go_roundw
        case rel => exact ⟨k + 1, q + nq, by omega, by go_num, HG, Lib.hid (by rw [HW.out, World.drewN_drewN])⟩
        case measure => simp [intOf]; omega
    · have HF := Lib.hid (show xs.Nodup by have h := HK.out; rw [List.take_of_length_le (by rw [← HN.out]; omega)] at h; exact h)
      go_wp2
      go_ret
      exact dist_end (n := 0) (by unfold distinct; exact (decide_eq_true HF.out).symm) HW.out
end Go.Proofs.YtmndlhbgacgnlaaGreat
