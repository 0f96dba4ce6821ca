/- The contracts of the program's own IsName and IsConName. No condition. -/
import Derived.Test.YtmndlhbgacgnlaaSpecNames
namespace Go.Proofs.Ytmndlhbgacgnlaa
open Go Go.RowKit

set_option maxHeartbeats 400000 in
theorem between_yes (x lo hi : Int) (w : World) (h0 : lo ≤ x) (h1 : x ≤ hi) :
    Calls Try.prog 166 #[.int .i32 x, .int .i32 lo, .int .i32 hi] w fun e w' => e = .returned (.bool true) ∧ w = w' := by
  go_enter Try.func166, Try.ntmps166
  go_wp2
  go_ret
  exact ⟨rfl, rfl⟩
set_option maxHeartbeats 400000 in
theorem between_no (x lo hi : Int) (w : World) (h : x < lo ∨ hi < x) :
    Calls Try.prog 166 #[.int .i32 x, .int .i32 lo, .int .i32 hi] w fun e w' => e = .returned (.bool false) ∧ w = w' := by
  by_cases h2 : lo ≤ x
  · have hd : decide (x ≤ hi) = false := by simp; omega
    clear h
    go_enter Try.func166, Try.ntmps166
    go_wp2
    go_ret
    exact ⟨rfl, rfl⟩
  · clear h
    go_enter Try.func166, Try.ntmps166
    go_wp2
    go_ret
    exact ⟨rfl, rfl⟩

/-- What is known of a text whose first bytes, up to a place, are those of a name. -/
def Upto (lo hi : Nat) (s : ByteArray) (k : Nat) : Prop := 0 < k → nameL lo hi s.data.toList = tailL (s.data.toList.drop k)
theorem iter_below (w : World) (s : ByteArray) (k : Nat) : Below w.heap.size w (w.iter s k) := (Below.refl _ _).alloc (Nat.le_refl _) _

def NamePost (lo hi : Nat) (s : ByteArray) (w : World) (e : Ending) (w' : World) : Prop := e = .returned (.bool (nameL lo hi s.data.toList)) ∧ Below w.heap.size w w'

set_option maxHeartbeats 400000 in
theorem from_empty (lo hi : Nat) (s : ByteArray) (w : World) (h : s.toList = []) (he : s.size < 1) :
    Calls Try.prog 145 #[.string s, .int .i32 (lo : Int), .int .i32 (hi : Int)] w (NamePost lo hi s w) := by
  have HN := Lib.hid (name_size lo hi s (Or.inl he))
  have h2 : (!s.toList.isEmpty) = false := by rw [h]; rfl
  have h3 : s.toList.isEmpty = true := by rw [h]; rfl
  clear he
  go_enter Try.func145, Try.ntmps145
  go_wp2
  go_ret
  exact ⟨by rw [HN.out]; rfl, Below.refl _ _⟩
set_option maxHeartbeats 400000 in
theorem from_long (lo hi : Nat) (s : ByteArray) (w : World) (h : s.toList.isEmpty = false) (he : 6 < (s.size : Int)) :
    Calls Try.prog 145 #[.string s, .int .i32 (lo : Int), .int .i32 (hi : Int)] w (NamePost lo hi s w) := by
  have HN := Lib.hid (name_size lo hi s (Or.inr (by omega)))
  go_enter Try.func145, Try.ntmps145
  go_wp2
  go_ret
  exact ⟨by rw [HN.out]; rfl, Below.refl _ _⟩

theorem upto_end (lo hi : Nat) (s : ByteArray) (k : Nat) (h : Upto lo hi s k) (hk : ¬ k < s.size) (h1 : 1 ≤ s.size) : nameL lo hi s.data.toList = true := by
  rw [h (by omega), List.drop_eq_nil_of_le (by rw [sizeN]; omega)]; rfl
theorem upto_first (lo hi : Nat) (s : ByteArray) (h : 0 < s.size) (h6 : s.size ≤ 6) (h0 : lo ≤ s[0].toNat) (h1 : s[0].toNat ≤ hi) : Upto lo hi s 1 := fun _ => name_in lo hi s h h6 h0 h1
theorem upto_next (lo hi : Nat) (s : ByteArray) (k : Nat) (h : Upto lo hi s k) (hk : k < s.size) (h0 : 0 < k) (hc : tailOk s[k] = true) : Upto lo hi s (k + 1) := fun _ => (h h0).trans (tail_step _ k _ (drop_at s k hk) hc)
theorem upto_stop (lo hi : Nat) (s : ByteArray) (k : Nat) (h : Upto lo hi s k) (hk : k < s.size) (h0 : 0 < k) (hc : tailOk s[k] = false) : nameL lo hi s.data.toList = false := (h h0).trans (tail_stop _ k _ (drop_at s k hk) hc)

set_option maxHeartbeats 2000000 in
theorem from_short (lo hi : Nat) (hhi : hi ≤ 122) (s : ByteArray) (w : World) (h : s.toList.isEmpty = false) (he : (s.size : Int) ≤ 6) (h1 : 1 ≤ s.size) :
    Calls Try.prog 145 #[.string s, .int .i32 (lo : Int), .int .i32 (hi : Int)] w (NamePost lo hi s w) := by
  have HB := Lib.hid (fun (x l u : Int) (W : World) (a : l ≤ x) (b : x ≤ u) => between_yes x l u W a b)
  have HC := Lib.hid (fun (x l u : Int) (W : World) (a : x < l ∨ u < x) => between_no x l u W a)
  go_enter Try.func145, Try.ntmps145
  go_wp2
  go_loopw [7] (fun _ wr => ∃ k : Nat, k ≤ s.size ∧ wr = w.iter s k ∧ Hid (Upto lo hi s k)) (fun _ wr => s.size - wr.iterPos w.heap.size)
  case atStart => exact ⟨0, Nat.zero_le _, rfl, Lib.hid (fun h => by omega)⟩
  case round =>
    obtain ⟨k, hk, rfl, HU⟩ := hrel
    by_cases hp : k < s.size
    · have hnx : ∀ ty, (Instr.next (.pointer (some ⟨w.heap.size, 0, none⟩)) true ty).run Try.prog (w.iter s k) = _ := fun ty => run_next_any w s k ty hp
      have hc8 := s[k].toNat_lt
      by_cases ha : s[k].toNat < 128
      · rw [decode_ascii s k hp ha] at hnx
        simp only [] at hnx
        by_cases hk0 : k = 0
        · subst hk0
          by_cases hin : lo ≤ s[0].toNat ∧ s[0].toNat ≤ hi
          · have HU2 := Lib.hid (upto_first lo hi s hp (by omega) hin.1 hin.2)
            have HL := Lib.hid (fun (W : World) => between_yes (s[0].toNat : Int) lo hi W (by omega) (by omega))
            have HW : Hid (s.size - 1 < s.size - 0) := Lib.hid (by omega)
            clear hin ha hc8
            generalize s[0].toNat = c at *
            go_wp2_with (go_at_call 166; (with_reducible refine (HL.out _).mono ?_); rintro e w' ⟨rfl, rfl⟩)
            go_roundw
            case rel => exact ⟨1, by omega, rfl, HU2⟩
            case measure => simp; omega
          · have HE := Lib.hid (name_first lo hi s (by omega) (by omega))
            have HL := Lib.hid (fun (W : World) => between_no (s[0].toNat : Int) lo hi W (by omega))
            clear hin ha hc8
            generalize s[0].toNat = c at *
            go_wp2_with (go_at_call 166; (with_reducible refine (HL.out _).mono ?_); rintro e w' ⟨rfl, rfl⟩)
            go_ret
            exact ⟨by rw [HE.out]; rfl, iter_below _ _ _⟩
        · have hkp : 0 < (k : Int) := by omega
          have hkz : ((k : Int) == 0) = false := by simpa using hk0
          by_cases hb1 : 97 ≤ s[k].toNat ∧ s[k].toNat ≤ 122
          · have HU2 := Lib.hid (upto_next lo hi s k HU.out hp (by omega) (tail_yes (Or.inl hb1)))
            have HL := Lib.hid (fun (W : World) => between_yes (s[k].toNat : Int) 97 122 W (by omega) (by omega))
            clear hb1 ha hc8 hk0
            generalize s[k].toNat = c at *
            go_wp2_with (go_at_call 166; (with_reducible refine (HL.out _).mono ?_); rintro e w' ⟨rfl, rfl⟩)
            go_roundw
            case rel => exact ⟨k + 1, by omega, rfl, HU2⟩
            case measure => simp; omega
          · have HL := Lib.hid (fun (W : World) => between_no (s[k].toNat : Int) 97 122 W (by omega))
            by_cases hb2 : 48 ≤ s[k].toNat ∧ s[k].toNat ≤ 57
            · have HU2 := Lib.hid (upto_next lo hi s k HU.out hp (by omega) (tail_yes (Or.inr hb2)))
              have HD := Lib.hid (fun (W : World) => between_yes (s[k].toNat : Int) 48 57 W (by omega) (by omega))
              clear hb1 hb2 ha hc8 hk0
              generalize s[k].toNat = c at *
              go_wp2_with (first | (go_at_call 166; (with_reducible refine (HL.out _).mono ?_); rintro e w' ⟨rfl, rfl⟩) | (go_at_call 166; (with_reducible refine (HD.out _).mono ?_); rintro e w' ⟨rfl, rfl⟩))
              go_roundw
              case rel => exact ⟨k + 1, by omega, rfl, HU2⟩
              case measure => simp; omega
            · have HE := Lib.hid (upto_stop lo hi s k HU.out hp (by omega) (tail_not (by omega)))
              have HD := Lib.hid (fun (W : World) => between_no (s[k].toNat : Int) 48 57 W (by omega))
              clear hb1 hb2 ha hc8 hk0
              generalize s[k].toNat = c at *
              go_wp2_with (first | (go_at_call 166; (with_reducible refine (HL.out _).mono ?_); rintro e w' ⟨rfl, rfl⟩) | (go_at_call 166; (with_reducible refine (HD.out _).mono ?_); rintro e w' ⟨rfl, rfl⟩))
              go_ret
              exact ⟨by rw [HE.out]; rfl, iter_below _ _ _⟩
      · have hr1 := (decode_high s k hp (by omega)).1
        generalize (Utf8.decode s k).1 = r at *
        generalize (Utf8.decode s k).2 = d at *
        by_cases hk0 : k = 0
        · subst hk0
          have HE := Lib.hid (name_first lo hi s (by omega) (by omega))
          have HL := Lib.hid (fun (W : World) => between_no (r : Int) lo hi W (by omega))
          clear ha hc8
          go_wp2_with (go_at_call 166; (with_reducible refine (HL.out _).mono ?_); rintro e w' ⟨rfl, rfl⟩)
          go_ret
          exact ⟨by rw [HE.out]; rfl, iter_below _ _ _⟩
        · have hkp : 0 < (k : Int) := by omega
          have hkz : ((k : Int) == 0) = false := by simpa using hk0
          have HE := Lib.hid (upto_stop lo hi s k HU.out hp (by omega) (tail_not (by omega)))
          have HL := Lib.hid (fun (W : World) => between_no (r : Int) 97 122 W (by omega))
          have HD := Lib.hid (fun (W : World) => between_no (r : Int) 48 57 W (by omega))
          clear ha hc8 hk0
          go_wp2_with (first | (go_at_call 166; (with_reducible refine (HL.out _).mono ?_); rintro e w' ⟨rfl, rfl⟩) | (go_at_call 166; (with_reducible refine (HD.out _).mono ?_); rintro e w' ⟨rfl, rfl⟩))
          go_ret
          exact ⟨by rw [HE.out]; rfl, iter_below _ _ _⟩
    · have hnx : ∀ ty, (Instr.next (.pointer (some ⟨w.heap.size, 0, none⟩)) true ty).run Try.prog (w.iter s k) = _ := fun ty => run_next_end w s k ty hp
      have HE := Lib.hid (upto_end lo hi s k HU.out hp h1)
      go_wp2
      go_ret
      exact ⟨by rw [HE.out]; rfl, iter_below _ _ _⟩

theorem empty_list (s : ByteArray) (h : s.size < 1) : s.toList = [] := by
  rw [ByteArray.toList_eq]; exact List.eq_nil_of_length_eq_zero (by rw [sizeN]; omega)
theorem full_list (s : ByteArray) (h : 1 ≤ s.size) : s.toList.isEmpty = false := by
  cases hb : s.toList.isEmpty with
  | false => rfl
  | true =>
    rw [List.isEmpty_iff, ByteArray.toList_eq] at hb
    have := sizeN s
    rw [hb] at this
    simp at this; omega
theorem from_any (lo hi : Nat) (hhi : hi ≤ 122) (s : ByteArray) (w : World) :
    Calls Try.prog 145 #[.string s, .int .i32 (lo : Int), .int .i32 (hi : Int)] w (NamePost lo hi s w) := by
  by_cases h1 : s.size < 1
  · exact from_empty lo hi s w (empty_list s h1) h1
  · by_cases h6 : 6 < (s.size : Int)
    · exact from_long lo hi s w (full_list s (by omega)) h6
    · exact from_short lo hi hhi s w (full_list s (by omega)) (by omega) (by omega)

set_option maxHeartbeats 400000 in
theorem own_isname (s : ByteArray) (w : World) : Calls Try.prog 104 #[.string s] w (NamePost 97 122 s w) := by
  have HF := Lib.hid (from_any 97 122 (by omega) s w)
  unfold NamePost at *
  generalize nameL 97 122 s.data.toList = b at *
  go_enter Try.func104, Try.ntmps104
  go_wp2_with fail
  go_at_call 145
  refine HF.out.mono ?_
  rintro e w' ⟨rfl, hb⟩
  go_wp2_with fail
  go_ret
  exact ⟨rfl, hb⟩
set_option maxHeartbeats 400000 in
theorem own_iscon (s : ByteArray) (w : World) : Calls Try.prog 105 #[.string s] w (NamePost 65 90 s w) := by
  have HF := Lib.hid (from_any 65 90 (by omega) s w)
  unfold NamePost at *
  generalize nameL 65 90 s.data.toList = b at *
  go_enter Try.func105, Try.ntmps105
  go_wp2_with fail
  go_at_call 145
  refine HF.out.mono ?_
  rintro e w' ⟨rfl, hb⟩
  go_wp2_with fail
  go_ret
  exact ⟨rfl, hb⟩
end Go.Proofs.Ytmndlhbgacgnlaa
