/- The contract of the model's reader of integers: it gives the number whose numeral the text is, if it has at most so many digits. Conditions: at most 12 digits are asked for, and the text is at most 1048576 bytes long. -/
import Derived.Test.YtlkfifnkdmmhnaaDoorWalkA
import Derived.Test.YtlkfifnkdmmhnaaDoorNumsB
import Derived.Lib.IndexBytes
namespace Go.Proofs.YtlkfifnkdmmhnaaDoor
open Go Go.RowKit

theorem byte_mem (t : ByteArray) (k : Nat) (h : k < t.size) : t[k] ∈ t.data.toList := by
  have : t[k] = t.data.toList[k]'(by simpa using h) := rfl
  rw [this]; exact List.getElem_mem _
theorem take_snoc (t : ByteArray) (k : Nat) (h : k < t.size) : t.data.toList.take (k + 1) = t.data.toList.take k ++ [t[k]] := by
  rw [List.take_succ_eq_append_getElem (by simpa using h)]; rfl
theorem take_all (t : ByteArray) (k : Nat) (h : k = t.size) : t.data.toList.take k = t.data.toList := List.take_of_length_le (by rw [h]; simp)
theorem step_num (t : ByteArray) (k : Nat) (h : k < t.size) (a : Int) (ha : a = (dval 0 (t.data.toList.take k) : Int)) (hd : allDig (t.data.toList.take k)) (hc : isDig t[k]) (hl : t.size ≤ 12) :
    10 * a + ((t[k].toNat : Int) - 48) = (dval 0 (t.data.toList.take (k + 1)) : Int) ∧ allDig (t.data.toList.take (k + 1)) ∧ 10 * a + ((t[k].toNat : Int) - 48) ≤ 999999999999 := by
  have hd2 : allDig (t.data.toList.take (k + 1)) := by rw [take_snoc t k h]; exact allDig_append hd (allDig_one hc)
  have hb := dval_bound12 _ hd2 (by rw [List.length_take]; omega)
  have hv : dval 0 (t.data.toList.take (k + 1)) = dval 0 (t.data.toList.take k) * 10 + (t[k].toNat - 48) := by rw [take_snoc t k h, dval_snoc]
  unfold isDig at hc
  rw [hv] at hb
  refine ⟨by rw [ha, hv]; omega, hd2, by omega⟩

theorem start_num (l : List UInt8) : (0 : Int) = (dval 0 (l.take 0) : Int) ∧ allDig (l.take 0) := ⟨rfl, allDig_nil⟩

def ReadPost (most : Int) (s : ByteArray) (w : World) (e : Ending) (w' : World) : Prop :=
  ∃ (n : Int) (b : Bool), e = .returned (.tuple #[.int .i64 n, .bool b]) ∧ ReadEnd most s.data.toList n b ∧ Below w.heap.size w w'

theorem size_list (s : ByteArray) : s.data.toList.length = s.size := Array.length_toList
theorem itoa_beq (l : List UInt8) (s : ByteArray) : ((l == s.toList) = true) ↔ l = s.data.toList := by
  rw [ByteArray.toList_eq, beq_iff_eq]

theorem close_no (most : Int) (s t : ByteArray) (a v : Int) (h : (!Lib.itoa v == s.toList) = true) (ha : a = (dval 0 t.data.toList : Int)) (hb : t.data.toList = body s.data.toList) (neg : Bool) (hs : (s.data.toList.head? = some 45) ↔ neg = true) (hv : v = if neg = true then -a else a) :
    ReadEnd most s.data.toList 0 false := by
  refine read_other most _ v ?_ ?_
  · rw [hv, ha, hb]
    cases neg
    · rw [if_neg (by simp), if_neg (fun h => by cases hs.1 h)]
    · rw [if_pos rfl, if_pos (hs.2 rfl)]
  · intro e
    rw [(itoa_beq _ s).2 e] at h
    cases h
theorem close_yes (most : Int) (s t : ByteArray) (a v : Int) (h : (!Lib.itoa v == s.toList) = false) (hb : t.data.toList = body s.data.toList) (hl : (t.size : Int) ≤ most) (h0 : 0 ≤ a) (h1 : a ≤ 999999999999) (neg : Bool) (hv : v = if neg = true then -a else a) :
    ReadEnd most s.data.toList v true := by
  refine read_good most _ v ((itoa_beq _ s).1 (by simpa using h)) (by rw [← hb, size_list]; exact hl) ?_
  cases neg
  · rw [if_neg (by simp)] at hv; omega
  · rw [if_pos rfl] at hv; omega

set_option maxHeartbeats 1000000 in
theorem read_plain (s : ByteArray) (most : Int) (h1 : most ≤ 12) (hp : 0 < s.size) (hl : (s.size : Int) ≤ most) (hm : ((s[0].toNat : Int) == 45) = false) (hbody : Hid (s.data.toList = body s.data.toList)) (hsign : Hid ((s.data.toList.head? = some 45) ↔ false = true)) (w : World) :
    Calls Tryd.prog 33 #[.string s, .int .i64 most] w (ReadPost most s w) := by
  have hp1 : 1 ≤ (s.size : Int) := by omega
  have hlen := Lib.hid (show s.size ≤ 12 by omega)
  have hlen2 := Lib.hid hl
  go_enter Tryd.func33, Tryd.ntmps33
  go_wp2
  go_loop [8, 9] (fun n i => ∃ (k : Nat) (a : Int), k ≤ s.size ∧ i = .int .i64 (k : Int) ∧ n = .int .i64 a ∧ Hid (a = (dval 0 (s.data.toList.take k) : Int) ∧ allDig (s.data.toList.take k)) ∧ 0 ≤ a ∧ a ≤ 999999999999) (fun _ i => s.size - (intOf i).toNat)
  case atStart => exact ⟨0, 0, Nat.zero_le _, rfl, rfl, Lib.hid (start_num _), Int.le_refl _, by decide⟩
  case round =>
    obtain ⟨k, a, hk, rfl, rfl, HK, ha0, ha1⟩ := hrel
    by_cases hlt : k < s.size
    · have hc : 0 ≤ (s[k].toNat : Int) ∧ (s[k].toNat : Int) ≤ 255 := by have := s[k].toNat_lt; omega
      have hmem := Lib.hid (byte_mem s k hlt)
      have HS := Lib.hid (take_snoc s k hlt)
      by_cases hd1 : (s[k].toNat : Int) < 48
      · go_wp2
        go_ret2
        exact ⟨0, false, rfl, read_bad most _ _ (hbody.out ▸ hmem.out) (by unfold isDig; omega), Below.refl _ _⟩
      · by_cases hd2 : 57 < (s[k].toNat : Int)
        · go_wp2
          go_ret2
          exact ⟨0, false, rfl, read_bad most _ _ (hbody.out ▸ hmem.out) (by unfold isDig; omega), Below.refl _ _⟩
        · have hd : isDig s[k] := by unfold isDig; omega
          have HD := Lib.hid hd
          clear hd
          have HN := Lib.hid (step_num s k hlt a HK.out.1 HK.out.2 HD.out (by have := hlen.out; omega))
          have hn1 : 10 * a + ((s[k].toNat : Int) - 48) ≤ 999999999999 := HN.out.2.2
          go_wp2
          go_round
          case rel => exact ⟨k + 1, _, by omega, by go_num, rfl, Lib.hid ⟨HN.out.1, HN.out.2.1⟩, by omega, hn1⟩
          case measure => simp [intOf]; omega
    · have hk' : k = s.size := by omega
      have HE := Lib.hid (take_all s k hk')
      go_wp2_with (go_at_call 13; refine (spec_format _ (by omega) (by omega) _).mono ?_; rintro e w' ⟨rfl, hb⟩)
      · have hx : (!Lib.itoa a == s.toList) = true := by assumption
        go_ret2
        exact ⟨0, false, rfl, close_no most s s a a hx (by rw [HK.out.1, HE.out]) hbody.out false (by simpa using hsign.out) (by simp), hb⟩
      · have hx : (!Lib.itoa a == s.toList) = false := by assumption
        go_ret2
        exact ⟨a, true, rfl, close_yes most s s a a hx hbody.out hlen2.out ha0 ha1 false (by simp), hb⟩

set_option maxHeartbeats 1000000 in
theorem read_minus (s : ByteArray) (most : Int) (h1 : most ≤ 12) (hp : 0 < s.size) (hp1 : 1 ≤ ((s.size - 1 : Nat) : Int)) (hl : ((s.size - 1 : Nat) : Int) ≤ most) (hm : ((s[0].toNat : Int) == 45) = true) (hbody0 : Hid ((s.extract 1 s.size).data.toList = body s.data.toList)) (hsign : Hid ((s.data.toList.head? = some 45) ↔ true = true)) (w : World) :
    Calls Tryd.prog 33 #[.string s, .int .i64 most] w (ReadPost most s w) := by
  go_enter Tryd.func33, Tryd.ntmps33
  go_wp2
  obtain ⟨t, ht⟩ : ∃ t, t = s.extract 1 s.size := ⟨_, rfl⟩
  have hts : t.size = s.size - 1 := by rw [ht]; simp
  rw [← ht]
  have hbody := Lib.hid (show t.data.toList = body s.data.toList by rw [ht]; exact hbody0.out)
  clear hbody0
  have hlt1 : 1 ≤ (t.size : Int) := by omega
  have hlt2 : (t.size : Int) ≤ most := by omega
  have hlen := Lib.hid (show t.size ≤ 12 by omega)
  have hlen2 := Lib.hid hlt2
  clear ht hts hl hp1
  go_loop [8, 9] (fun n i => ∃ (k : Nat) (a : Int), k ≤ t.size ∧ i = .int .i64 (k : Int) ∧ n = .int .i64 a ∧ Hid (a = (dval 0 (t.data.toList.take k) : Int) ∧ allDig (t.data.toList.take k)) ∧ 0 ≤ a ∧ a ≤ 999999999999) (fun _ i => t.size - (intOf i).toNat)
  case atStart => exact ⟨0, 0, Nat.zero_le _, rfl, rfl, Lib.hid (start_num _), Int.le_refl _, by decide⟩
  case round =>
    obtain ⟨k, a, hk, rfl, rfl, HK, ha0, ha1⟩ := hrel
    by_cases hlt : k < t.size
    · have hc : 0 ≤ (t[k].toNat : Int) ∧ (t[k].toNat : Int) ≤ 255 := by have := t[k].toNat_lt; omega
      have hmem := Lib.hid (byte_mem t k hlt)
      have HS := Lib.hid (take_snoc t k hlt)
      by_cases hd1 : (t[k].toNat : Int) < 48
      · go_wp2
        go_ret2
        exact ⟨0, false, rfl, read_bad most _ _ (hbody.out ▸ hmem.out) (by unfold isDig; omega), Below.refl _ _⟩
      · by_cases hd2 : 57 < (t[k].toNat : Int)
        · go_wp2
          go_ret2
          exact ⟨0, false, rfl, read_bad most _ _ (hbody.out ▸ hmem.out) (by unfold isDig; omega), Below.refl _ _⟩
        · have hd : isDig t[k] := by unfold isDig; omega
          have HD := Lib.hid hd
          clear hd
          have HN := Lib.hid (step_num t k hlt a HK.out.1 HK.out.2 HD.out (by have := hlen.out; omega))
          have hn1 : 10 * a + ((t[k].toNat : Int) - 48) ≤ 999999999999 := HN.out.2.2
          go_wp2
          go_round
          case rel => exact ⟨k + 1, _, by omega, by go_num, rfl, Lib.hid ⟨HN.out.1, HN.out.2.1⟩, by omega, hn1⟩
          case measure => simp [intOf]; omega
    · have hk' : k = t.size := by omega
      have HE := Lib.hid (take_all t k hk')
      go_wp2_with (go_at_call 13; refine (spec_format _ (by omega) (by omega) _).mono ?_; rintro e w' ⟨rfl, hb⟩)
      · have hx : (!Lib.itoa (-a) == s.toList) = true := by assumption
        go_ret2
        exact ⟨0, false, rfl, close_no most s t a (-a) hx (by rw [HK.out.1, HE.out]) hbody.out true (by simpa using hsign.out) (by simp), hb⟩
      · have hx : (!Lib.itoa (-a) == s.toList) = false := by assumption
        go_ret2
        exact ⟨(-a), true, rfl, close_yes most s t a (-a) hx hbody.out hlen2.out ha0 ha1 true (by simp), hb⟩

set_option maxHeartbeats 1000000 in
theorem read_minus_no (s : ByteArray) (most : Int) (h0 : 0 ≤ most) (h1 : most ≤ 12) (hs : s.size ≤ 1048576) (hp : 0 < s.size) (hl : ((s.size - 1 : Nat) : Int) < 1 ∨ most < ((s.size - 1 : Nat) : Int)) (hm : ((s[0].toNat : Int) == 45) = true) (hend : Hid (ReadEnd most s.data.toList 0 false)) (w : World) :
    Calls Tryd.prog 33 #[.string s, .int .i64 most] w (ReadPost most s w) := by
  rcases hl with hl | hl <;> by_cases hl2 : ((s.size - 1 : Nat) : Int) < 1
  all_goals
    go_enter Tryd.func33, Tryd.ntmps33
    go_wp2
    all_goals
      go_ret2
      exact ⟨0, false, rfl, hend.out, Below.refl _ _⟩
set_option maxHeartbeats 1000000 in
theorem read_plain_no (s : ByteArray) (most : Int) (_h0 : 0 ≤ most) (_h1 : most ≤ 12) (hs : s.size ≤ 1048576) (hp : 0 < s.size) (hl : most < (s.size : Int)) (hm : ((s[0].toNat : Int) == 45) = false) (hend : Hid (ReadEnd most s.data.toList 0 false)) (w : World) :
    Calls Tryd.prog 33 #[.string s, .int .i64 most] w (ReadPost most s w) := by
  have hp1 : 1 ≤ (s.size : Int) := by omega
  go_enter Tryd.func33, Tryd.ntmps33
  go_wp2
  go_ret2
  exact ⟨0, false, rfl, hend.out, Below.refl _ _⟩
set_option maxHeartbeats 1000000 in
theorem read_empty_no (s : ByteArray) (most : Int) (_h0 : 0 ≤ most) (_h1 : most ≤ 12) (hp : s.size = 0) (hend : Hid (ReadEnd most s.data.toList 0 false)) (w : World) :
    Calls Tryd.prog 33 #[.string s, .int .i64 most] w (ReadPost most s w) := by
  go_enter Tryd.func33, Tryd.ntmps33
  go_wp2
  go_ret2
  exact ⟨0, false, rfl, hend.out, Below.refl _ _⟩

theorem head_byte (s : ByteArray) (hp : 0 < s.size) : s.data.toList.head? = some s[0] := by
  rw [List.head?_eq_getElem?, List.getElem?_eq_getElem (by rw [size_list]; exact hp)]; rfl
theorem byte_45 (c : UInt8) : c = 45 ↔ ((c.toNat : Int) == 45) = true := by
  rw [← UInt8.toNat_inj]; simp; omega

/-- THE READER's CONTRACT. -/
theorem read_any (s : ByteArray) (most : Int) (h0 : 0 ≤ most) (h1 : most ≤ 12) (hs : s.size ≤ 1048576) (w : World) :
    Calls Tryd.prog 33 #[.string s, .int .i64 most] w (ReadPost most s w) := by
  by_cases hz : s.size = 0
  · refine read_empty_no s most h0 h1 hz (Lib.hid (read_empty most _ ?_)) w
    have : s.data.toList = [] := List.eq_nil_of_length_eq_zero (by rw [size_list]; exact hz)
    rw [this]; rfl
  · have hp : 0 < s.size := by omega
    have hh := head_byte s hp
    have hb := byte_45 s[0]
    by_cases hm : ((s[0].toNat : Int) == 45) = true
    · have h45 : s.data.toList.head? = some 45 := by rw [hh, hb.2 hm]
      have hbody : (s.extract 1 s.size).data.toList = body s.data.toList := by
        unfold body
        rw [if_pos h45, Lib.extract_to_end, List.drop_one]
      have hlen : (body s.data.toList).length = s.size - 1 := by rw [← hbody, size_list]; simp
      by_cases hl : ((s.size - 1 : Nat) : Int) < 1 ∨ most < ((s.size - 1 : Nat) : Int)
      · refine read_minus_no s most h0 h1 hs hp hl hm (Lib.hid ?_) w
        rcases hl with hl | hl
        · exact read_empty most _ (List.eq_nil_of_length_eq_zero (by rw [hlen]; omega))
        · exact read_long most _ (by rw [hlen]; exact hl)
      · exact read_minus s most h1 hp (by omega) (by omega) hm (Lib.hid hbody) (Lib.hid ⟨fun _ => rfl, fun _ => h45⟩) w
    · have h45 : s.data.toList.head? ≠ some 45 := by rw [hh]; intro e; exact hm (hb.1 (Option.some.inj e))
      have hm' : ((s[0].toNat : Int) == 45) = false := by simpa using hm
      have hbody : s.data.toList = body s.data.toList := (body_other _ h45).symm
      by_cases hl : most < (s.size : Int)
      · exact read_plain_no s most h0 h1 hs hp hl hm' (Lib.hid (read_long most _ (by rw [← hbody, size_list]; exact hl))) w
      · exact read_plain s most h1 hp (by omega) hm' (Lib.hid hbody) (Lib.hid ⟨fun e => absurd e h45, (fun e => by cases e)⟩) w
end Go.Proofs.YtlkfifnkdmmhnaaDoor
