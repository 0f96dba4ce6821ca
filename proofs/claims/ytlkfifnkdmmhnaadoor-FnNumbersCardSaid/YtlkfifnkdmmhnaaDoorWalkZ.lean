/- The law FnNumbers as a walk: integers and numbers are parsed from their decimal representation, and parsed texts are that representation. Condition: the package-level variables hold what start-up lays. -/
import Derived.Test.YtlkfifnkdmmhnaaDoorWalkG
import Derived.Test.YtlkfifnkdmmhnaaDoorDrawB
namespace Go.Proofs.YtlkfifnkdmmhnaaDoor
open Go Go.RowKit

theorem Bytes.more {w : World} {B C : Nat} {A : Option Addr} {zs : List Int} (h : Bytes w B A zs) (hC : B ≤ C) : Bytes w C A zs := fun i z hz => by
  obtain ⟨a, e, hc, h0, h1, hl⟩ := h i z hz
  exact ⟨a, e, hc, h0, h1, Nat.lt_of_lt_of_le hl hC⟩
/-- How long a numeral is. -/
theorem itoa_len (n : Int) : (Lib.itoa n).length = (Lib.decDigits n.natAbs).length + (if n < 0 then 1 else 0) := by
  rcases itoa_cases n with ⟨h, e⟩ | ⟨h, e⟩ <;> rw [e]
  · rw [if_pos h]; rfl
  · rw [if_neg (by omega)]; rfl
theorem dig_small (n : Int) (h0 : -999999999999 ≤ n) (h1 : n ≤ 999999999999) : (Lib.decDigits n.natAbs).length ≤ 12 :=
  len_small 11 _ (by rw [p12]; omega)
theorem dig_large (n : Int) (h : n < -999999999999 ∨ 999999999999 < n) : 12 < (Lib.decDigits n.natAbs).length := by
  rcases Nat.lt_or_ge 12 (Lib.decDigits n.natAbs).length with h' | h'
  · exact h'
  · have := small_len 12 _ h'
    rw [p12] at this
    omega

def TrueEndN (w : World) (e : Ending) (w' : World) : Prop := e = .returned (.bool true) ∧ Below w.heap.size w w'
theorem go_on {a b c : World} {B : Nat} (h : Below B a b) (k : Below b.heap.size b c) (hB : B ≤ b.heap.size) : Below B a c := h.trans (k.mono hB)
theorem size_itoa (n : Int) (h : IsI64 n) : (⟨(Lib.itoa n).toArray⟩ : ByteArray).size ≤ 1048576 := Nat.le_trans (itoa_size n h) (by decide)
theorem data_itoa (n : Int) : (⟨(Lib.itoa n).toArray⟩ : ByteArray).data.toList = Lib.itoa n := by simp
theorem parse_in {n x : Int} {b : Bool} (h : ParseEnd (-999999999999) 999999999999 (Lib.itoa n) x b) (h0 : -999999999999 ≤ n) (h1 : n ≤ 999999999999) : x = n ∧ b = true := by
  cases b
  · exact absurd rfl ((h.2 rfl).2 n h0 h1)
  · exact ⟨itoa_inj (h.1 rfl).1, rfl⟩
theorem parse_out {n x : Int} {b : Bool} (h : ParseEnd (-999999999999) 999999999999 (Lib.itoa n) x b) (h0 : n < -999999999999 ∨ 999999999999 < n) : x = 0 ∧ b = false := by
  cases b
  · exact ⟨(h.2 rfl).1, rfl⟩
  · obtain ⟨e, h1, h2⟩ := h.1 rfl
    have := itoa_inj e
    omega

theorem number_cases {n x : Int} {ok : Bool} (hr : ParseEnd (-999999999999) 999999999999 (Lib.itoa n) x ok) :
    (0 ≤ n ∧ ((Lib.itoa n).length : Int) ≤ 12 ∧ x = n ∧ ok = true) ∨ (n < 0 ∧ ((Lib.itoa n).length : Int) ≤ 13 ∧ x = n ∧ ok = true) ∨
      (0 ≤ n ∧ 12 < ((Lib.itoa n).length : Int) ∧ x = 0 ∧ ok = false) ∨ (n < 0 ∧ 13 < ((Lib.itoa n).length : Int) ∧ x = 0 ∧ ok = false) := by
  have hl := itoa_len n
  by_cases hin : -999999999999 ≤ n ∧ n ≤ 999999999999
  · obtain ⟨e1, e2⟩ := parse_in hr hin.1 hin.2
    have hd := dig_small n hin.1 hin.2
    by_cases hneg : n < 0
    · rw [if_pos hneg] at hl
      exact Or.inr (Or.inl ⟨hneg, by omega, e1, e2⟩)
    · rw [if_neg hneg] at hl
      exact Or.inl ⟨by omega, by omega, e1, e2⟩
  · obtain ⟨e1, e2⟩ := parse_out hr (by omega)
    have hd := dig_large n (by omega)
    by_cases hneg : n < 0
    · rw [if_pos hneg] at hl
      exact Or.inr (Or.inr (Or.inr ⟨hneg, by omega, e1, e2⟩))
    · rw [if_neg hneg] at hl
      exact Or.inr (Or.inr (Or.inl ⟨by omega, by omega, e1, e2⟩))

theorem big_noN (A : Option Addr) (n cap : Nat) (w : World) (hn : (n : Int) ≤ 1048576) :
    Calls Tryd.prog 9 #[.slice A n cap] w fun e w' => e = .returned (.bool false) ∧ w = w' := by
  go_enter Tryd.func9, Tryd.ntmps9
  go_wp2
  go_ret
  exact ⟨by simp; omega, rfl⟩
theorem big_yesN (A : Option Addr) (n cap : Nat) (w : World) (hn : 1048576 < (n : Int)) (_hm : (n : Int) ≤ 9223372036854775807) :
    Calls Tryd.prog 9 #[.slice A n cap] w fun e w' => e = .returned (.bool true) ∧ w = w' := by
  go_enter Tryd.func9, Tryd.ntmps9
  go_wp2
  go_ret
  exact ⟨by simp, rfl⟩
set_option maxHeartbeats 400000 in
theorem numbers_long (A : Option Addr) (n cap : Nat) (w : World) (hn : 1048576 < (n : Int)) (hm : (n : Int) ≤ 9223372036854775807) :
    Calls Tryd.prog 3 #[.slice A n cap] w (TrueEndN w) := by
  have HA := Lib.hid (big_yesN A n cap w hn hm)
  clear hn hm
  go_enter Tryd.func3, Tryd.ntmps3
  go_wp2_with (go_at_call 9; refine HA.out.mono ?_; rintro e w' ⟨rfl, rfl⟩)
  go_ret
  exact ⟨rfl, Below.refl _ _⟩

set_option maxHeartbeats 2000000 in
theorem numbers_short (A : Option Addr) (zs : List Int) (cap : Nat) (w : World) (hs : Bytes w w.heap.size A zs) (hn : zs.length ≤ 1048576) (hv : Vars w) :
    Calls Tryd.prog 3 #[.slice A zs.length cap] w (TrueEndN w) := by
  have HA := Lib.hid (big_noN A zs.length cap w (by omega))
  have HD := Lib.hid (draw_int A zs cap w hs hn)
  have HDT := Lib.hid (fun (W : World) (hb : Below w.heap.size w W) => draw_text A zs cap W ((hs.below hb).more hb.size) hn)
  have HV := Lib.hid (fun (W : World) (hb : Below w.heap.size w W) => vars_below hb hv)
  clear hs hn hv
  go_enter Tryd.func3, Tryd.ntmps3
  go_wp2_with (go_at_call 9; refine HA.out.mono ?_; rintro e w' ⟨rfl, rfl⟩)
  go_at_call 10
  refine HD.out.mono ?_
  rintro e w1 ⟨n, hi, rfl, hb1⟩
  have HI := Lib.hid hi
  have HF := Lib.hid (impl_format n hi.1 hi.2 w1 (HV.out w1 hb1).1)
  have HB1 := Lib.hid hb1
  clear hi hb1
  go_wp2_with fail
  go_at_call 11
  refine HF.out.mono ?_
  rintro e w2 ⟨rfl, hb2⟩
  have HB2 := Lib.hid (go_on HB1.out hb2 HB1.out.size)
  have HP := Lib.hid (impl_int ⟨(Lib.itoa n).toArray⟩ (size_itoa n HI.out) w2 (HV.out w2 HB2.out))
  clear hb2
  go_wp2_with fail
  go_at_call 12
  refine HP.out.mono ?_
  rintro e w3 ⟨x, ok, rfl, hr, hb3⟩
  rw [data_itoa] at hr
  have HB3 := Lib.hid (go_on HB2.out hb3 HB2.out.size)
  have HSF := Lib.hid (spec_format n HI.out.1 HI.out.2 w3)
  clear hb3
  go_wp2_with fail
  have hcase : (0 ≤ n ∧ ((Lib.itoa n).length : Int) ≤ 12 ∧ x = n ∧ ok = true) ∨ (n < 0 ∧ ((Lib.itoa n).length : Int) ≤ 13 ∧ x = n ∧ ok = true) ∨
      (0 ≤ n ∧ 12 < ((Lib.itoa n).length : Int) ∧ x = 0 ∧ ok = false) ∨ (n < 0 ∧ 13 < ((Lib.itoa n).length : Int) ∧ x = 0 ∧ ok = false) := number_cases hr
  clear hr
  go_at_call 13
  refine HSF.out.mono ?_
  rintro e w4 ⟨rfl, hb4⟩
  have HB4 := Lib.hid (go_on HB3.out hb4 HB3.out.size)
  have HD4 := Lib.hid (HDT.out w4 HB4.out)
  clear hb4
  rcases hcase with ⟨hn0, hlen, rfl, rfl⟩ | ⟨hn0, hlen, rfl, rfl⟩ | ⟨hn0, hlen, rfl, rfl⟩ | ⟨hn0, hlen, rfl, rfl⟩
  all_goals
    go_wp2_with fail
  all_goals
    clear hlen
    go_at_call 14
    refine HD4.out.mono ?_
    rintro e w5 ⟨t, hts, rfl, hb5⟩
    have HB5 := Lib.hid (go_on HB4.out hb5 HB4.out.size)
    have HT := Lib.hid (show t.size ≤ 1048576 by omega)
    have HN5 := Lib.hid (impl_number t HT.out w5 (HV.out w5 HB5.out))
    clear hb5 hts
    go_wp2_with fail
    go_at_call 15
    refine HN5.out.mono ?_
    rintro e w6 ⟨y, fine, rfl, hr5, hb6⟩
    have HB6 := Lib.hid (go_on HB5.out hb6 HB5.out.size)
    have HR5 := Lib.hid hr5
    clear hb6 hr5
    go_wp2_with fail
    go_at_call 16
    refine (spec_number t HT.out w6).mono ?_
    rintro e w7 ⟨y2, fine2, rfl, hr6, hb7⟩
    have HB7 := Lib.hid (go_on HB6.out hb7 HB6.out.size)
    obtain ⟨rfl, rfl⟩ := parse_unique HR5.out hr6
    clear hb7 hr6
    cases fine
    · go_wp2
      go_ret
      exact ⟨rfl, HB7.out⟩
    · obtain ⟨he, hy0, hy1⟩ := HR5.out.1 rfl
      have hx : (Lib.itoa y == t.toList) = true := (itoa_beq _ t).2 he
      have HF7 := Lib.hid (impl_format y (by omega) (by omega) w7 (HV.out w7 HB7.out).1)
      clear he
      go_wp2_with fail
      go_at_call 11
      refine HF7.out.mono ?_
      rintro e w8 ⟨rfl, hb8⟩
      have HB8 := Lib.hid (go_on HB7.out hb8 HB7.out.size)
      clear hb8
      go_wp2
      go_ret
      exact ⟨by simp, HB8.out⟩
end Go.Proofs.YtlkfifnkdmmhnaaDoor
