/- The contract of the model's FormatInt. No condition. -/
import Derived.Test.YtcldheidokdcpaaDoorRows
import Derived.WalkKit
import Derived.WalkSpells
import Derived.WalkLawsBesides
import Derived.Lib.Hide
import Derived.Test.YtcldheidokdcpaaDoorConv
namespace Go.Proofs.YtcldheidokdcpaaDoor
open Go Go.RowKit

set_option maxHeartbeats 400000 in
theorem spec_zero (w : World) :
    Calls Tryd.prog 33 #[.int .i64 0] w fun e w' => e = .returned (.string ⟨#[48]⟩) ∧ w = w' := by
  go_enter Tryd.func33, Tryd.ntmps33
  go_wp2
  go_ret
  exact ⟨rfl, rfl⟩

set_option maxHeartbeats 400000 in
theorem spec_pos (n : Int) (h0 : 0 < n) (h1 : n ≤ 9223372036854775807) (w : World) :
    Calls Tryd.prog 33 #[.int .i64 n] w fun e w' => e = .returned (.string ⟨(dz n.toNat).toArray⟩) ∧ Below w.heap.size w w' := by
  have hp : (n == 0) = false := by simp; omega
  have hq : ¬ (n < 0) := by omega
  have HN := Lib.hid (dz_len n h0 h1)
  go_enter Tryd.func33, Tryd.ntmps33
  go_wp2
  clear hp hq
  go_loopw [0, 4] (fun m o wr => ∃ a : Int, ∃ l : List UInt8, 0 ≤ a ∧ a ≤ 9223372036854775807 ∧ dz a.toNat ++ l = dz n.toNat ∧ m = .int .i64 a ∧ o = .string ⟨l.toArray⟩ ∧ Below w.heap.size w wr) (fun m _ _ => (intOf m).toNat)
  case atStart => exact ⟨n, [], by omega, h1, by simp, rfl, rfl, Below.refl _ _⟩
  case round =>
    obtain ⟨a, l, hk0, hk1, hl, rfl, rfl, hb⟩ := hrel
    have hlen : l.length ≤ 21 := by
      have e := congrArg List.length hl
      have e2 := HN.out
      rw [List.length_append] at e
      omega
    have HL := Lib.hid hl
    clear hl
    by_cases hz : a = 0
    · subst hz
      go_wp2
      go_ret
      have e := HL.out
      simp [dz_zero] at e
      exact ⟨by rw [e]; rfl, hb⟩
    · have hz' : (a != 0) = true := by simp; omega
      have ha : 0 < a := by omega
      have HZ := Lib.hid hz
      clear hz
      have hz2 : ¬ (a % 10 < 0) := by omega
      have hz3 : 0 ≤ a % 10 := by omega
      have hz4 : a % 10 < 10 := by omega
      have hs := Lib.hid hb.size
      have kc := fun (W : World) (v : Int) => conv_one W v
      go_wp2
      go_roundw
      case rel =>
        refine ⟨a / 10, UInt8.ofNat (48 + a % 10).toNat :: l, by omega, by omega, ?_, rfl, rfl, hb.alloc hs.out _⟩
        rw [← HL.out, dz_int a ha, List.append_assoc]
        rfl
      case measure => simp [intOf]; omega

theorem tdiv_neg10 (a : Int) (h : a < 0) : a.tdiv 10 = -((-a) / 10) := by
  obtain ⟨b, rfl⟩ : ∃ b : Int, a = -b := ⟨-a, by omega⟩
  rw [Int.neg_tdiv, Int.tdiv_eq_ediv_of_nonneg (by omega), Int.neg_neg]
theorem tmod_neg10 (a : Int) (h : a < 0) : a.tmod 10 = -((-a) % 10) := by
  obtain ⟨b, rfl⟩ : ∃ b : Int, a = -b := ⟨-a, by omega⟩
  rw [Int.neg_tmod, Int.tmod_eq_emod_of_nonneg (by omega), Int.neg_neg]
theorem dz_neg (a : Int) (h : a < 0) : dz (-a).toNat = dz (-(a.tdiv 10)).toNat ++ [UInt8.ofNat (48 + -(a.tmod 10)).toNat] := by
  rw [tdiv_neg10 a h, tmod_neg10 a h, Int.neg_neg, Int.neg_neg]
  exact dz_int (-a) (by omega)
theorem dz_neg0 (a : Int) (h : a < 0) (hm : ¬ a.tmod 10 < 0) : dz (-a).toNat = dz (-(a.tdiv 10)).toNat ++ [UInt8.ofNat (48 + a.tmod 10).toNat] := by
  rw [dz_neg a h]
  have e := tmod_neg10 a h
  have e2 : a.tmod 10 = 0 := by omega
  rw [e2]; rfl

set_option maxHeartbeats 400000 in
theorem spec_neg (n : Int) (h0 : n < 0) (h1 : -9223372036854775808 ≤ n) (hlen0 : (dz (-n).toNat).length ≤ 21) (w : World) :
    Calls Tryd.prog 33 #[.int .i64 n] w fun e w' => e = .returned (.string ⟨(45 :: dz (-n).toNat).toArray⟩) ∧ Below w.heap.size w w' := by
  have hp : (n == 0) = false := by simp; omega
  have HN := Lib.hid hlen0
  clear hlen0
  go_enter Tryd.func33, Tryd.ntmps33
  go_wp2
  clear hp
  go_loopw [0, 4] (fun m o wr => ∃ a : Int, ∃ l : List UInt8, a ≤ 0 ∧ -9223372036854775808 ≤ a ∧ dz (-a).toNat ++ l = dz (-n).toNat ∧ m = .int .i64 a ∧ o = .string ⟨l.toArray⟩ ∧ Below w.heap.size w wr) (fun m _ _ => (-(intOf m)).toNat)
  case atStart => exact ⟨n, [], by omega, h1, by simp, rfl, rfl, Below.refl _ _⟩
  case round =>
    obtain ⟨a, l, hk0, hk1, hl, rfl, rfl, hb⟩ := hrel
    have hlen : l.length ≤ 21 := by
      have e := congrArg List.length hl
      have e2 := HN.out
      rw [List.length_append] at e
      omega
    have HL := Lib.hid hl
    clear hl
    by_cases hz : a = 0
    · subst hz
      go_wp2
      go_ret
      have e := HL.out
      simp [dz_zero] at e
      exact ⟨by rw [← e]; rfl, hb⟩
    · have hz' : (a != 0) = true := by simp; omega
      have ha : a < 0 := by omega
      have HZ := Lib.hid hz
      clear hz
      have hz3 : a.tmod 10 ≤ 0 := by rw [tmod_neg10 a ha]; omega
      have hz4 : -10 < a.tmod 10 := by rw [tmod_neg10 a ha]; omega
      have hz5 : a ≤ a.tdiv 10 := by rw [tdiv_neg10 a ha]; omega
      have hz6 : a.tdiv 10 ≤ 0 := by rw [tdiv_neg10 a ha]; omega
      have hz7 := Lib.hid (show a < a.tdiv 10 by rw [tdiv_neg10 a ha]; omega)
      have hs := Lib.hid hb.size
      have kc := fun (W : World) (v : Int) => conv_one W v
      by_cases hd : a.tmod 10 < 0
      · go_wp2
        go_roundw
        case rel =>
          refine ⟨a.tdiv 10, UInt8.ofNat (48 + -(a.tmod 10)).toNat :: l, by omega, by omega, ?_, rfl, rfl, hb.alloc hs.out _⟩
          rw [← HL.out, dz_neg a ha, List.append_assoc]
          rfl
        case measure => have := hz7.out; simp [intOf]; omega
      · go_wp2
        go_roundw
        case rel =>
          refine ⟨a.tdiv 10, UInt8.ofNat (48 + a.tmod 10).toNat :: l, by omega, by omega, ?_, rfl, rfl, hb.alloc hs.out _⟩
          rw [← HL.out, dz_neg0 a ha hd, List.append_assoc]
          rfl
        case measure => have := hz7.out; simp [intOf]; omega

/-- The model's FormatInt gives the numeral, for every int. -/
theorem spec_format (n : Int) (h0 : -9223372036854775808 ≤ n) (h1 : n ≤ 9223372036854775807) (w : World) :
    Calls Tryd.prog 33 #[.int .i64 n] w fun e w' => e = .returned (.string ⟨(Lib.itoa n).toArray⟩) ∧ Below w.heap.size w w' := by
  by_cases hz : n = 0
  · subst hz
    refine (spec_zero w).mono ?_
    rintro e w' ⟨rfl, rfl⟩
    exact ⟨by rw [itoa_nil], Below.refl _ _⟩
  · by_cases hp : 0 < n
    · refine (spec_pos n hp h1 w).mono ?_
      rintro e w' ⟨rfl, hb⟩
      refine ⟨?_, hb⟩
      have e := itoa_pos n.toNat (by omega)
      rw [show ((n.toNat : Nat) : Int) = n by omega] at e
      rw [e]
    · have e := itoa_minus (-n).toNat (by omega)
      rw [show -(((-n).toNat : Nat) : Int) = n by omega] at e
      have hl := Lib.itoa_length_le n h0 h1
      rw [e] at hl
      simp only [List.length_cons] at hl
      refine (spec_neg n (by omega) h0 (by omega) w).mono ?_
      rintro e' w' ⟨rfl, hb⟩
      exact ⟨by rw [e], hb⟩
end Go.Proofs.YtcldheidokdcpaaDoor
