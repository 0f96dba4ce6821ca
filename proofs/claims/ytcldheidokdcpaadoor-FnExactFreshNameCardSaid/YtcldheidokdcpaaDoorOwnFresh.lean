/- The contract of the program's own FreshName. Conditions: a list of fewer than 2^40 strings, each of a size that an int holds; a prefix of at most 1048576 bytes; strconv's table of powers of ten holds the powers. -/
import Derived.Test.YtcldheidokdcpaaDoorOwnSets
import Derived.Test.YtcldheidokdcpaaDoorSpecFresh
import Derived.Test.YtcldheidokdcpaaDoorPow
namespace Go.Proofs.YtcldheidokdcpaaDoor
open Go Go.RowKit

set_option maxHeartbeats 1000000 in
theorem own_fresh (A : Option Addr) (xs : List ByteArray) (cap : Nat) (p : ByteArray) (w : World) (hpow : Pow10 w) (hs : Strs w A xs) (hn : xs.length ≤ 1099511627776) (hx : ∀ x ∈ xs, x.size ≤ 9223372036854775807) (hp : p.size ≤ 1048576) :
    Calls Tryd.prog 7 #[.slice A xs.length cap, .string p] w (FreshPost xs p w) := by
  obtain ⟨n, hnn⟩ : ∃ n, n = xs.length := ⟨_, rfl⟩
  have HN := Lib.hid hnn
  have HF0 := Lib.hid (own_set A xs cap w hs hn hx)
  have HP := Lib.hid hpow
  rw [← hnn] at HF0
  rw [← hnn]
  rw [← hnn] at hn
  clear hs hnn hx hpow
  go_enter Tryd.func7, Tryd.ntmps7
  go_wp2_with (go_at_call 31; refine HF0.out.mono ?_; rintro e w1 ⟨rfl, hs1, hb1⟩; have HS1 := Lib.hid hs1; have HB1 := Lib.hid hb1; clear hs1 hb1)
  go_loopw [6] (fun i wr => ∃ (k : Nat), 1 ≤ k ∧ k ≤ n + 1 ∧ i = .int .i64 (k : Int) ∧ Hid (∀ j, 1 ≤ j → j < k → nth p j ∈ xs) ∧ Hid (Below w1.heap.size w1 wr)) (fun i _ => n + 2 - (intOf i).toNat)
  case atStart => exact ⟨1, Nat.le_refl _, by omega, rfl, Lib.hid (fun j h1 h2 => by omega), Lib.hid (Below.refl _ _)⟩
  case round =>
    obtain ⟨k, hk1, hk, rfl, HK, HB⟩ := hrel
    obtain ⟨t, ht⟩ : ∃ t, t = itxt (k : Int) := ⟨_, rfl⟩
    have hF := fun (W : World) (h : Below w1.heap.size w1 W) => own_format (k : Int) (by omega) (by omega) W (pow10_below h (pow10_below HB1.out HP.out))
    rw [show (⟨(Lib.itoa (k : Int)).toArray⟩ : ByteArray) = t from ht.symm] at hF
    have HF := Lib.hid hF
    have HT := Lib.hid (show nth p k = p ++ t by rw [ht]; rfl)
    have hts : (t.size : Int) ≤ 21 := by
      have := Lib.itoa_length_le (k : Int) (by omega) (by omega)
      rw [ht]; unfold itxt; simp only [ByteArray.size, List.size_toArray]; omega
    have hps : (p.size : Int) ≤ 1048576 := by omega
    have HSZ := Lib.hid (show (p ++ t).size ≤ maxLen by rw [ByteArray.size_append]; unfold maxLen; omega)
    have HL := Lib.hid (fun (W : World) (h : Below w1.heap.size w1 W) => HS1.out.below h)
    clear hF ht
    by_cases hr : 0 ≤ idx xs (nth p k)
    · have HIN := Lib.hid (show inL xs (p ++ t) = true by rw [← HT.out]; exact decide_eq_true hr)
      have HK2 := Lib.hid (show ∀ j, 1 ≤ j → j < k + 1 → nth p j ∈ xs from fun j h1 h2 => by
        rcases Nat.lt_or_ge j k with h | h
        · exact HK.out j h1 h
        · rw [show j = k by omega]; exact (idx_mem _ _).1 hr)
      have hk2 : k + 1 ≤ n + 1 := by rw [HN.out]; exact nth_bound xs p (k + 1) HK2.out
      clear hr
      go_wp2_with (first
        | (go_at_call 32; refine (HF.out _ HB.out).mono ?_; rintro e w2 ⟨rfl, hb2⟩; have HB2 := Lib.hid (HB.out.trans (hb2.mono HB.out.size)); clear hb2)
        | (at_lookup; refine look_set _ rfl _ _ rfl w.heap.size n xs rfl (by have h := HL.out _ HB2.out; rw [← HN.out] at h; exact h) (p ++ t) rfl HSZ.out true HIN.out ?_))
      go_roundw
      case rel => exact ⟨k + 1, by omega, by omega, by go_num, HK2, HB2⟩
      case measure => simp [intOf]; omega
    · have HIN := Lib.hid (show inL xs (p ++ t) = false by rw [← HT.out]; exact decide_eq_false hr)
      have HE := Lib.hid (show IsFresh xs p k from ⟨hk1, fun h => hr ((idx_mem _ _).2 h), HK.out⟩)
      clear hr
      go_wp2_with (first
        | (at_lookup; refine look_set _ rfl _ _ rfl w.heap.size n xs rfl (by have h := HL.out _ HB2.out; rw [← HN.out] at h; exact h) (p ++ t) rfl HSZ.out false HIN.out ?_)
        | (go_at_call 32; first
          | ((with_reducible refine (HF.out wr HB.out).mono ?_); rintro e w2 ⟨rfl, hb2⟩; have HB2 := Lib.hid (HB.out.trans (hb2.mono HB.out.size)); clear hb2)
          | (refine (HF.out _ HB2.out).mono ?_; rintro e w4 ⟨rfl, hb4⟩; have HB3 := Lib.hid (Below.trans HB2.out (hb4.mono HB2.out.size)); clear hb4)))
      go_ret
      exact ⟨k, HE.out, by rw [HT.out]; rfl, HB1.out.trans (HB3.out.mono HB1.out.size)⟩
end Go.Proofs.YtcldheidokdcpaaDoor
