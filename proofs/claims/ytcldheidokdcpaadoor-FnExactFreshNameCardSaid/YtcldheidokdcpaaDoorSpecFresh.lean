/- The contract of the model's FreshName. Conditions: a list of fewer than 2^40 elements, a text of at most 1048576 bytes. -/
import Derived.Test.YtcldheidokdcpaaDoorSpecNames
import Derived.Test.YtcldheidokdcpaaDoorSpecFmt
import Derived.Deep.QuietTactic
import Derived.BigQuiet
import Derived.Deep.RegionHeld3
namespace Go.Proofs.YtcldheidokdcpaaDoor
open Go Go.RowKit

/-- The text of an integer. -/
def itxt (n : Int) : ByteArray := ⟨(Lib.itoa n).toArray⟩
/-- The prefix with the number k behind it. -/
def nth (p : ByteArray) (k : Nat) : ByteArray := p ++ itxt (k : Int)
/-- k is the least number from 1 on whose text is not in the list. -/
def IsFresh (xs : List ByteArray) (p : ByteArray) (k : Nat) : Prop := 1 ≤ k ∧ nth p k ∉ xs ∧ ∀ j, 1 ≤ j → j < k → nth p j ∈ xs
theorem IsFresh.same {xs : List ByteArray} {p : ByteArray} {a b : Nat} (ha : IsFresh xs p a) (hb : IsFresh xs p b) : a = b := by
  rcases Nat.lt_trichotomy a b with h | h | h
  · exact absurd (hb.2.2 a ha.1 h) ha.2.1
  · exact h
  · exact absurd (ha.2.2 b hb.1 h) hb.2.1

theorem dz_val : ∀ u v : Nat, dz u = dz v → u = v := by
  intro u
  induction u using Nat.strongRecOn with
  | _ u ih =>
    intro v h
    by_cases hu : u = 0
    · by_cases hv : v = 0
      · omega
      · rw [hu, dz_zero, dz_step v hv] at h
        exact absurd h.symm (by simp)
    · by_cases hv : v = 0
      · rw [hv, dz_zero, dz_step u hu] at h
        exact absurd h (by simp)
      · rw [dz_step u hu, dz_step v hv] at h
        have h2 := List.append_inj' h rfl
        have e1 := ih (u / 10) (by omega) (v / 10) h2.1
        have e2 : UInt8.ofNat (48 + u % 10) = UInt8.ofNat (48 + v % 10) := by simpa using h2.2
        have e3 := congrArg UInt8.toNat e2
        simp only [UInt8.toNat_ofNat'] at e3
        omega
theorem nth_val (p : ByteArray) (a b : Nat) (ha : 1 ≤ a) (hb : 1 ≤ b) (h : nth p a = nth p b) : a = b := by
  unfold nth itxt at h
  rw [itoa_pos a (by omega), itoa_pos b (by omega)] at h
  have h2 := congrArg (fun x : ByteArray => x.data.toList) h
  simp only [ByteArray.data_append, Array.toList_append] at h2
  exact dz_val a b (List.append_cancel_left h2)
theorem nodup_len {α : Type} [DecidableEq α] : ∀ (l xs : List α), l.Nodup → (∀ x ∈ l, x ∈ xs) → l.length ≤ xs.length := by
  intro l
  induction l with
  | nil => intro xs _ _; exact Nat.zero_le _
  | cons x r ih =>
    intro xs hn hs
    have hx : x ∈ xs := hs x (by simp)
    rw [List.nodup_cons] at hn
    have h := ih (xs.erase x) hn.2 (fun y hy => (List.mem_erase_of_ne (fun e => hn.1 (by rw [← e]; exact hy))).2 (hs y (by simp [hy])))
    rw [List.length_erase_of_mem hx] at h
    have : 0 < xs.length := List.length_pos_of_mem hx
    simp only [List.length_cons]; omega
theorem nth_nodup (p : ByteArray) : ∀ k : Nat, ((List.range k).map fun j => nth p (j + 1)).Nodup := by
  intro k
  induction k with
  | zero => simp
  | succ k ih =>
    rw [List.range_succ, List.map_append, List.nodup_append]
    refine ⟨ih, by simp, ?_⟩
    intro a ha b hb e
    simp only [List.mem_map, List.mem_range, List.mem_singleton, exists_eq_left] at ha hb
    obtain ⟨j, hj, rfl⟩ := ha
    obtain ⟨i, rfl, rfl⟩ := hb
    have := nth_val p _ _ (by omega) (by omega) e
    omega
/-- If the first numbers are all in the list, they are no more than the list is long. -/
theorem nth_bound (xs : List ByteArray) (p : ByteArray) (k : Nat) (h : ∀ j, 1 ≤ j → j < k → nth p j ∈ xs) : k ≤ xs.length + 1 := by
  have := nodup_len ((List.range (k - 1)).map fun j => nth p (j + 1)) xs (nth_nodup p _) (fun x hx => by
    simp only [List.mem_map, List.mem_range] at hx
    obtain ⟨j, hj, rfl⟩ := hx
    exact h (j + 1) (by omega) (by omega))
  simp at this
  omega

theorem held_start (wr : World) : Hid (Below wr.heap.size wr wr.drew) := Lib.hid ⟨rfl, rfl, rfl, Nat.le_refl _, fun _ _ => rfl⟩
theorem held_step {wr X w2 : World} (hb : Below X.heap.size X w2) (h : Hid (Below wr.heap.size wr X)) : Hid (Below wr.heap.size wr w2) := Lib.hid (h.out.trans (hb.mono h.out.size))
theorem held_same {wr X w2 : World} (hb : X = w2) (h : Hid (Below wr.heap.size wr X)) : Hid (Below wr.heap.size wr w2) := hb ▸ h

def FreshPost (xs : List ByteArray) (p : ByteArray) (w : World) (e : Ending) (w' : World) : Prop :=
  ∃ k, IsFresh xs p k ∧ e = .returned (.string (nth p k)) ∧ Below w.heap.size w w'

set_option maxHeartbeats 1000000 in
theorem fresh_any (A : Option Addr) (xs : List ByteArray) (cap : Nat) (p : ByteArray) (w : World) (hs : Strs w A xs) (hn : xs.length ≤ 1099511627776) (hp : p.size ≤ 1048576) :
    Calls Tryd.prog 14 #[.slice A xs.length cap, .string p] w (FreshPost xs p w) := by
  obtain ⟨n, hnn⟩ : ∃ n, n = xs.length := ⟨_, rfl⟩
  have HN := Lib.hid hnn
  have HS := Lib.hid hs
  rw [← hnn]
  rw [← hnn] at hn
  clear hs hnn
  go_enter Tryd.func14, Tryd.ntmps14
  go_wp2
  go_loopw [5] (fun i wr => ∃ (k : Nat), 1 ≤ k ∧ k ≤ n + 1 ∧ i = .int .i64 (k : Int) ∧ Hid (∀ j, 1 ≤ j → j < k → nth p j ∈ xs) ∧ Hid (Below w.heap.size w wr)) (fun i _ => n + 2 - (intOf i).toNat)
  case atStart => exact ⟨1, Nat.le_refl _, by omega, rfl, Lib.hid (fun j h1 h2 => by omega), Lib.hid (Below.refl _ _)⟩
  case round =>
    obtain ⟨k, hk1, hk, rfl, HK, HB⟩ := hrel
    obtain ⟨t, ht⟩ : ∃ t, t = itxt (k : Int) := ⟨_, rfl⟩
    have hF := fun (W : World) => spec_format (k : Int) (by omega) (by omega) W
    rw [show (⟨(Lib.itoa (k : Int)).toArray⟩ : ByteArray) = t from ht.symm] at hF
    have HF := Lib.hid hF
    have HT := Lib.hid (show nth p k = p ++ t by rw [ht]; rfl)
    have hts : (t.size : Int) ≤ 21 := by
      have := Lib.itoa_length_le (k : Int) (by omega) (by omega)
      rw [ht]; unfold itxt; simp only [ByteArray.size, List.size_toArray]; omega
    have hps : (p.size : Int) ≤ 1048576 := by omega
    have hI := (fun (W : World) (h : Below w.heap.size w W) => idx_any A xs cap (nth p k) W (HS.out.below h) (by rw [← HN.out]; omega))
    rw [← HN.out] at hI
    have hge := idx_ge xs (nth p k)
    have HM := Lib.hid (idx_mem xs (nth p k))
    generalize idx xs (nth p k) = r at *
    rw [HT.out] at hI
    have HI := Lib.hid hI
    clear hI hF ht
    by_cases hr : 0 ≤ r
    · have HK2 := Lib.hid (show ∀ j, 1 ≤ j → j < k + 1 → nth p j ∈ xs from fun j h1 h2 => by
        rcases Nat.lt_or_ge j k with h | h
        · exact HK.out j h1 h
        · rw [show j = k by omega]; exact HM.out.1 hr)
      have hk2 : k + 1 ≤ n + 1 := by rw [HN.out]; exact nth_bound xs p (k + 1) HK2.out
      go_wp2_with (first | (go_at_call 33; refine (HF.out _).mono ?_; rintro e w2 ⟨rfl, hb2⟩; have HB2 := Lib.hid (HB.out.trans (hb2.mono HB.out.size)); clear hb2) | (go_at_call 19; refine (HI.out _ HB2.out).mono ?_; rintro e w3 ⟨rfl, rfl⟩))
      go_roundw
      case rel => exact ⟨k + 1, by omega, by omega, by go_num, HK2, HB2⟩
      case measure => simp [intOf]; omega
    · have HE := Lib.hid (show IsFresh xs p k from ⟨hk1, fun h => hr (HM.out.2 h), HK.out⟩)
      go_wp2_with (first | (go_at_call 19; refine (HI.out _ HB2.out).mono ?_; rintro e w3 ⟨rfl, rfl⟩) | (go_at_call 33; first | (refine (HF.out wr).mono ?_; rintro e w2 ⟨rfl, hb2⟩; have HB2 := Lib.hid (HB.out.trans (hb2.mono HB.out.size)); clear hb2) | (refine (HF.out _).mono ?_; rintro e w4 ⟨rfl, hb4⟩; have HB3 := Lib.hid (Below.trans HB2.out (hb4.mono HB2.out.size)); clear hb4)))
      go_ret
      exact ⟨k, HE.out, by rw [HT.out]; rfl, HB3.out⟩
end Go.Proofs.YtcldheidokdcpaaDoor
