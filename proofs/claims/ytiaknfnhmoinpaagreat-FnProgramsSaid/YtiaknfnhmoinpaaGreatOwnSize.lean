/- A part of the proof of the seat's statement: OwnSize. Condition: as each says. -/
import Derived.Test.YtiaknfnhmoinpaaGreatFrame
import Derived.Test.YtiaknfnhmoinpaaGreatSpecJoin
import Derived.Lib.Hide
import Derived.Test.YtiaknfnhmoinpaaGreatNodesOf
set_option maxHeartbeats 8000000
namespace Go.Proofs.YtiaknfnhmoinpaaGreat
open Go Go.RowKit
theorem between_yes (x lo hi : Int) (w : World) (h0 : lo ≤ x) (h1 : x ≤ hi) :
 Calls Tryz.prog 103 #[.int .i32 x, .int .i32 lo, .int .i32 hi] w fun e w' => e = .returned (.bool true) ∧ w = w' := by
 go_enter Tryz.func103, Tryz.ntmps103
 go_wp2
 go_ret
 exact ⟨rfl, rfl⟩
theorem between_no (x lo hi : Int) (w : World) (h : x < lo ∨ hi < x) :
 Calls Tryz.prog 103 #[.int .i32 x, .int .i32 lo, .int .i32 hi] w fun e w' => e = .returned (.bool false) ∧ w = w' := by
 by_cases h2 : lo ≤ x
 · have hd : decide (x ≤ hi) = false := by simp; omega
   clear h
   go_enter Tryz.func103, Tryz.ntmps103
   go_wp2
   go_ret
   exact ⟨rfl, rfl⟩
 clear h
 go_enter Tryz.func103, Tryz.ntmps103
 go_wp2
 go_ret
 exact ⟨rfl, rfl⟩
def Upto (lo hi : Nat) (s : ByteArray) (k : Nat) : Prop := 0 < k → nameL lo hi s.data.toList = tailL (s.data.toList.drop k)
theorem iter_below (w : World) (s : ByteArray) (k : Nat) : Below w.heap.size w (w.iter s k) := (wB _ _).alloc (nR _) _
def NamePost (lo hi : Nat) (s : ByteArray) (w : World) (e : Ending) (w' : World) : Prop := e = .returned (.bool (nameL lo hi s.data.toList)) ∧ Below w.heap.size w w'
theorem from_empty (lo hi : Nat) (s : ByteArray) (w : World) (h : s.toList = []) (he : s.size < 1) :
 Calls Tryz.prog 91 #[.string s, .int .i32 (lo : Int), .int .i32 (hi : Int)] w (NamePost lo hi s w) := by
 have HN := zH (name_size lo hi s (Or.inl he))
 have h2 : (!s.toList.isEmpty) = false := by rw [h]; rfl
 have h3 : s.toList.isEmpty = true := by rw [h]; rfl
 clear he
 go_enter Tryz.func91, Tryz.ntmps91
 go_wp2
 go_ret
 exact ⟨by rw [HN.out]; rfl, wB _ _⟩
theorem from_long (lo hi : Nat) (s : ByteArray) (w : World) (h : s.toList.isEmpty = false) (he : 6 < (s.size : Int)) :
 Calls Tryz.prog 91 #[.string s, .int .i32 (lo : Int), .int .i32 (hi : Int)] w (NamePost lo hi s w) := by
 have HN := zH (name_size lo hi s (Or.inr (by omega)))
 go_enter Tryz.func91, Tryz.ntmps91
 go_wp2
 go_ret
 exact ⟨by rw [HN.out]; rfl, wB _ _⟩
theorem upto_end (lo hi : Nat) (s : ByteArray) (k : Nat) (h : Upto lo hi s k) (hk : ¬ k < s.size) (h1 : 1 ≤ s.size) : nameL lo hi s.data.toList = true := by
 rw [h (by omega), List.drop_eq_nil_of_le (by rw [sizeN]; omega)]; rfl
theorem upto_first (lo hi : Nat) (s : ByteArray) (h : 0 < s.size) (h6 : s.size ≤ 6) (h0 : lo ≤ s[0].toNat) (h1 : s[0].toNat ≤ hi) : Upto lo hi s 1 := fun _ => name_in lo hi s h h6 h0 h1
theorem upto_next (lo hi : Nat) (s : ByteArray) (k : Nat) (h : Upto lo hi s k) (hk : k < s.size) (h0 : 0 < k) (hc : tailOk s[k] = true) : Upto lo hi s (k + 1) := fun _ => (h h0).trans (tail_step _ k _ (drop_at s k hk) hc)
theorem upto_stop (lo hi : Nat) (s : ByteArray) (k : Nat) (h : Upto lo hi s k) (hk : k < s.size) (h0 : 0 < k) (hc : tailOk s[k] = false) : nameL lo hi s.data.toList = false := (h h0).trans (tail_stop _ k _ (drop_at s k hk) hc)
theorem from_short (lo hi : Nat) (hhi : hi ≤ 122) (s : ByteArray) (w : World) (h : s.toList.isEmpty = false) (he : (s.size : Int) ≤ 6) (h1 : 1 ≤ s.size) :
 Calls Tryz.prog 91 #[.string s, .int .i32 (lo : Int), .int .i32 (hi : Int)] w (NamePost lo hi s w) := by
 have HB := zH (fun (x l u : Int) (W : World) (a : l ≤ x) (b : x ≤ u) => between_yes x l u W a b)
 have HC := zH (fun (x l u : Int) (W : World) (a : x < l ∨ u < x) => between_no x l u W a)
 go_enter Tryz.func91, Tryz.ntmps91
 go_wp2
 go_loopw [7] (fun _ wr => ∃ k : Nat, k ≤ s.size ∧ wr = w.iter s k ∧ Hid (Upto lo hi s k)) (fun _ wr => s.size - wr.iterPos w.heap.size)
 case atStart => exact ⟨0, Nat.zero_le _, rfl, zH (fun h => by omega)⟩
 case round =>
  obtain ⟨k, hk, rfl, HU⟩ := hrel
  by_cases hp : k < s.size
  · have hnx : ∀ ty, (Instr.next (.pointer (some ⟨w.heap.size, 0, none⟩)) true ty).run Tryz.prog (w.iter s k) = _ := fun ty => run_next_any w s k ty hp
    have hc8 := s[k].toNat_lt
    by_cases ha : s[k].toNat < 128
    · rw [decode_ascii s k hp ha] at hnx
      simp only [] at hnx
      by_cases hk0 : k = 0
      · subst hk0
        by_cases hin : lo ≤ s[0].toNat ∧ s[0].toNat ≤ hi
        · have HU2 := zH (upto_first lo hi s hp (by omega) hin.1 hin.2)
          have HL := zH (fun (W : World) => between_yes (s[0].toNat : Int) lo hi W (by omega) (by omega))
          have HW : Hid (s.size - 1 < s.size - 0) := zH (by omega)
          clear hin ha hc8
          generalize s[0].toNat = c at *
          go_wp2_with (go_at_call 103; (with_reducible refine (HL.out _).mono ?_); rintro e w' ⟨rfl, rfl⟩)
          go_roundw
          case rel => exact ⟨1, by omega, rfl, HU2⟩
          case measure => simp; omega
        have HE := zH (name_first lo hi s (by omega) (by omega))
        have HL := zH (fun (W : World) => between_no (s[0].toNat : Int) lo hi W (by omega))
        clear hin ha hc8
        generalize s[0].toNat = c at *
        go_wp2_with (go_at_call 103; (with_reducible refine (HL.out _).mono ?_); rintro e w' ⟨rfl, rfl⟩)
        go_ret
        exact ⟨by rw [HE.out]; rfl, iter_below _ _ _⟩
      have hkp : 0 < (k : Int) := by omega
      have hkz : ((k : Int) == 0) = false := by simpa using hk0
      by_cases hb1 : 97 ≤ s[k].toNat ∧ s[k].toNat ≤ 122
      · have HU2 := zH (upto_next lo hi s k HU.out hp (by omega) (tail_yes (Or.inl hb1)))
        have HL := zH (fun (W : World) => between_yes (s[k].toNat : Int) 97 122 W (by omega) (by omega))
        clear hb1 ha hc8 hk0
        generalize s[k].toNat = c at *
        go_wp2_with (go_at_call 103; (with_reducible refine (HL.out _).mono ?_); rintro e w' ⟨rfl, rfl⟩)
        go_roundw
        case rel => exact ⟨k + 1, by omega, rfl, HU2⟩
        case measure => simp; omega
      have HL := zH (fun (W : World) => between_no (s[k].toNat : Int) 97 122 W (by omega))
      by_cases hb2 : 48 ≤ s[k].toNat ∧ s[k].toNat ≤ 57
      · have HU2 := zH (upto_next lo hi s k HU.out hp (by omega) (tail_yes (Or.inr hb2)))
        have HD := zH (fun (W : World) => between_yes (s[k].toNat : Int) 48 57 W (by omega) (by omega))
        clear hb1 hb2 ha hc8 hk0
        generalize s[k].toNat = c at *
        go_wp2_with (first | (go_at_call 103; (with_reducible refine (HL.out _).mono ?_); rintro e w' ⟨rfl, rfl⟩) | (go_at_call 103; (with_reducible refine (HD.out _).mono ?_); rintro e w' ⟨rfl, rfl⟩))
        go_roundw
        case rel => exact ⟨k + 1, by omega, rfl, HU2⟩
        case measure => simp; omega
      have HE := zH (upto_stop lo hi s k HU.out hp (by omega) (tail_not (by omega)))
      have HD := zH (fun (W : World) => between_no (s[k].toNat : Int) 48 57 W (by omega))
      clear hb1 hb2 ha hc8 hk0
      generalize s[k].toNat = c at *
      go_wp2_with (first | (go_at_call 103; (with_reducible refine (HL.out _).mono ?_); rintro e w' ⟨rfl, rfl⟩) | (go_at_call 103; (with_reducible refine (HD.out _).mono ?_); rintro e w' ⟨rfl, rfl⟩))
      go_ret
      exact ⟨by rw [HE.out]; rfl, iter_below _ _ _⟩
    have hr1 := (decode_high s k hp (by omega)).1
    generalize (Utf8.decode s k).1 = r at *
    generalize (Utf8.decode s k).2 = d at *
    by_cases hk0 : k = 0
    · subst hk0
      have HE := zH (name_first lo hi s (by omega) (by omega))
      have HL := zH (fun (W : World) => between_no (r : Int) lo hi W (by omega))
      clear ha hc8
      go_wp2_with (go_at_call 103; (with_reducible refine (HL.out _).mono ?_); rintro e w' ⟨rfl, rfl⟩)
      go_ret
      exact ⟨by rw [HE.out]; rfl, iter_below _ _ _⟩
    have hkp : 0 < (k : Int) := by omega
    have hkz : ((k : Int) == 0) = false := by simpa using hk0
    have HE := zH (upto_stop lo hi s k HU.out hp (by omega) (tail_not (by omega)))
    have HL := zH (fun (W : World) => between_no (r : Int) 97 122 W (by omega))
    have HD := zH (fun (W : World) => between_no (r : Int) 48 57 W (by omega))
    clear ha hc8 hk0
    go_wp2_with (first | (go_at_call 103; (with_reducible refine (HL.out _).mono ?_); rintro e w' ⟨rfl, rfl⟩) | (go_at_call 103; (with_reducible refine (HD.out _).mono ?_); rintro e w' ⟨rfl, rfl⟩))
    go_ret
    exact ⟨by rw [HE.out]; rfl, iter_below _ _ _⟩
  have hnx : ∀ ty, (Instr.next (.pointer (some ⟨w.heap.size, 0, none⟩)) true ty).run Tryz.prog (w.iter s k) = _ := fun ty => run_next_end w s k ty hp
  have HE := zH (upto_end lo hi s k HU.out hp h1)
  go_wp2
  go_ret
  exact ⟨by rw [HE.out]; rfl, iter_below _ _ _⟩
theorem empty_list (s : ByteArray) (h : s.size < 1) : s.toList = [] := by
 rw [ByteArray.toList_eq]; exact List.eq_nil_of_length_eq_zero (by rw [sizeN]; omega)
theorem full_list (s : ByteArray) (h : 1 ≤ s.size) : s.toList.isEmpty = false := by
 cases hb : s.toList.isEmpty with
 | false => rfl
 | true =>
  rw [List.isEmpty_iff, ByteArray.toList_eq] at hb
  have := sizeN s
  rw [hb] at this
  simp at this; omega
theorem from_any (lo hi : Nat) (hhi : hi ≤ 122) (s : ByteArray) (w : World) :
 Calls Tryz.prog 91 #[.string s, .int .i32 (lo : Int), .int .i32 (hi : Int)] w (NamePost lo hi s w) := by
 by_cases h1 : s.size < 1
 · exact from_empty lo hi s w (empty_list s h1) h1
 by_cases h6 : 6 < (s.size : Int)
 · exact from_long lo hi s w (full_list s (by omega)) h6
 exact from_short lo hi hhi s w (full_list s (by omega)) (by omega) (by omega)
theorem own_isname (s : ByteArray) (w : World) : Calls Tryz.prog 68 #[.string s] w (NamePost 97 122 s w) := by
 have HF := zH (from_any 97 122 (by omega) s w)
 unfold NamePost at *
 generalize nameL 97 122 s.data.toList = b at *
 go_enter Tryz.func68, Tryz.ntmps68
 go_wp2_with fail
 go_at_call 91
 refine HF.out.mono ?_
 rintro e w' ⟨rfl, hb⟩
 go_wp2_with fail
 go_ret
 exact ⟨rfl, hb⟩
theorem own_iscon (s : ByteArray) (w : World) : Calls Tryz.prog 82 #[.string s] w (NamePost 65 90 s w) := by
 have HF := zH (from_any 65 90 (by omega) s w)
 unfold NamePost at *
 generalize nameL 65 90 s.data.toList = b at *
 go_enter Tryz.func82, Tryz.ntmps82
 go_wp2_with fail
 go_at_call 91
 refine HF.out.mono ?_
 rintro e w' ⟨rfl, hb⟩
 go_wp2_with fail
 go_ret
 exact ⟨rfl, hb⟩
def formTy (k : Int) : Nat := if k = 1 then 114 else if k = 2 then 98 else if k = 3 then 97 else if k = 4 then 115 else 116
def FormPost (k : Int) (s : ByteArray) (A : Option Addr) (m c : Nat) (w : World) (e : Ending) (w2 : World) : Prop := e = .returned (.iface (formTy k) (.agg #[.string s, .slice A m c])) ∧ Below w.heap.size w w2
theorem own_form (k : Int) (s : ByteArray) (A : Option Addr) (m c : Nat) (w : World) :
 Calls Tryz.prog 58 #[.agg #[.int .i64 k, .string s, .slice A m c]] w (FormPost k s A m c w) := by
 have hb : Below w.heap.size w ((w.alloc (.cells #[.int .i64 k, .string s, .slice A m c] 32)).alloc (.cells #[.string s, .slice A m c] 95)) := ((wB _ _).alloc (nR _) _).alloc (by simp) _
 have HB := zH hb
 clear hb
 by_cases h1 : k = 1
 · subst h1
   go_enter Tryz.func58, Tryz.ntmps58
   go_wp2_with fail
   go_ret
   exact ⟨rfl, HB.out⟩
 by_cases h2 : k = 2
 · subst h2
   go_enter Tryz.func58, Tryz.ntmps58
   go_wp2_with fail
   go_ret
   exact ⟨rfl, HB.out⟩
 by_cases h3 : k = 3
 · subst h3
   go_enter Tryz.func58, Tryz.ntmps58
   go_wp2_with fail
   go_ret
   exact ⟨rfl, HB.out⟩
 by_cases h4 : k = 4
 · subst h4
   go_enter Tryz.func58, Tryz.ntmps58
   go_wp2_with fail
   go_ret
   exact ⟨rfl, HB.out⟩
 have HF := zH (show formTy k = 116 by simp [formTy, h1, h2, h3, h4])
 have e1 : (k == 1) = false := by simpa using h1
 have e2 : (k == 2) = false := by simpa using h2
 have e3 : (k == 3) = false := by simpa using h3
 have e4 : (k == 4) = false := by simpa using h4
 go_enter Tryz.func58, Tryz.ntmps58
 go_wp2_with fail
 go_ret
 exact ⟨by rw [HF.out]; rfl, HB.out⟩
theorem asVV (v : Value) (w : World) : (Instr.typeAssert (.iface 114 v) 91 114 true).run Tryz.prog w = .ok (.tuple #[v, .bool true]) w := by kernel_rfl
theorem asVC (v : Value) (w : World) : (Instr.typeAssert (.iface 114 v) 91 98 true).run Tryz.prog w = .ok (.tuple #[.agg #[.string ⟨#[]⟩, .slice none 0 0], .bool false]) w := by kernel_rfl
theorem asVK (v : Value) (w : World) : (Instr.typeAssert (.iface 114 v) 91 97 true).run Tryz.prog w = .ok (.tuple #[.agg #[.string ⟨#[]⟩, .slice none 0 0], .bool false]) w := by kernel_rfl
theorem asCV (v : Value) (w : World) : (Instr.typeAssert (.iface 98 v) 91 114 true).run Tryz.prog w = .ok (.tuple #[.agg #[.string ⟨#[]⟩, .slice none 0 0], .bool false]) w := by kernel_rfl
theorem asCC (v : Value) (w : World) : (Instr.typeAssert (.iface 98 v) 91 98 true).run Tryz.prog w = .ok (.tuple #[v, .bool true]) w := by kernel_rfl
theorem asCK (v : Value) (w : World) : (Instr.typeAssert (.iface 98 v) 91 97 true).run Tryz.prog w = .ok (.tuple #[.agg #[.string ⟨#[]⟩, .slice none 0 0], .bool false]) w := by kernel_rfl
theorem asKV (v : Value) (w : World) : (Instr.typeAssert (.iface 97 v) 91 114 true).run Tryz.prog w = .ok (.tuple #[.agg #[.string ⟨#[]⟩, .slice none 0 0], .bool false]) w := by kernel_rfl
theorem asKC (v : Value) (w : World) : (Instr.typeAssert (.iface 97 v) 91 98 true).run Tryz.prog w = .ok (.tuple #[.agg #[.string ⟨#[]⟩, .slice none 0 0], .bool false]) w := by kernel_rfl
theorem asKK (v : Value) (w : World) : (Instr.typeAssert (.iface 97 v) 91 97 true).run Tryz.prog w = .ok (.tuple #[v, .bool true]) w := by kernel_rfl
theorem asSV (v : Value) (w : World) : (Instr.typeAssert (.iface 115 v) 91 114 true).run Tryz.prog w = .ok (.tuple #[.agg #[.string ⟨#[]⟩, .slice none 0 0], .bool false]) w := by kernel_rfl
theorem asSC (v : Value) (w : World) : (Instr.typeAssert (.iface 115 v) 91 98 true).run Tryz.prog w = .ok (.tuple #[.agg #[.string ⟨#[]⟩, .slice none 0 0], .bool false]) w := by kernel_rfl
theorem asSK (v : Value) (w : World) : (Instr.typeAssert (.iface 115 v) 91 97 true).run Tryz.prog w = .ok (.tuple #[.agg #[.string ⟨#[]⟩, .slice none 0 0], .bool false]) w := by kernel_rfl
theorem asSS (v : Value) (w : World) : (Instr.typeAssert (.iface 115 v) 91 115 true).run Tryz.prog w = .ok (.tuple #[v, .bool true]) w := by kernel_rfl
theorem asOV (v : Value) (w : World) : (Instr.typeAssert (.iface 116 v) 91 114 true).run Tryz.prog w = .ok (.tuple #[.agg #[.string ⟨#[]⟩, .slice none 0 0], .bool false]) w := by kernel_rfl
theorem asOC (v : Value) (w : World) : (Instr.typeAssert (.iface 116 v) 91 98 true).run Tryz.prog w = .ok (.tuple #[.agg #[.string ⟨#[]⟩, .slice none 0 0], .bool false]) w := by kernel_rfl
theorem asOK (v : Value) (w : World) : (Instr.typeAssert (.iface 116 v) 91 97 true).run Tryz.prog w = .ok (.tuple #[.agg #[.string ⟨#[]⟩, .slice none 0 0], .bool false]) w := by kernel_rfl
theorem asOS (v : Value) (w : World) : (Instr.typeAssert (.iface 116 v) 91 115 true).run Tryz.prog w = .ok (.tuple #[.agg #[.string ⟨#[]⟩, .slice none 0 0], .bool false]) w := by kernel_rfl
def RightPost (k : Int) (s : ByteArray) (m : Nat) (w : World) (e : Ending) (w2 : World) : Prop := e = .returned (.bool (exFormOf k s m)) ∧ Below w.heap.size w w2
theorem right_box {w w2 : World} {s : ByteArray} {A : Option Addr} {m c : Nat} {T : Nat} (h : Below (w.alloc (.cells #[.string s, .slice A m c] T)).heap.size (w.alloc (.cells #[.string s, .slice A m c] T)) w2) : w2.cell? ⟨w.heap.size, 1, none⟩ = some (.slice A m c) := by
 have := (h.block w.heap.size (by simp)).trans (heap_alloc_new w _)
 simp [World.cell?, this]
theorem right_below {w w2 : World} {o : Obj} (h : Below (w.alloc o).heap.size (w.alloc o) w2) : Below w.heap.size w w2 := ((wB _ w).alloc (nR _) _).trans (h.mono (by simp))
set_option maxRecDepth 100000 in
theorem own_right (k : Int) (s : ByteArray) (A : Option Addr) (m c : Nat) (w : World) (hc : (c : Int) ≤ 9223372036854775807) (hmc : m ≤ c) :
 Calls Tryz.prog 57 #[.iface (formTy k) (.agg #[.string s, .slice A m c])] w (RightPost k s m w) := by
 have hm3 : (m : Int) ≤ 9223372036854775807 := by omega
 have HB := zH (fun (T : Nat) => (wB w.heap.size w).alloc (nR _) (.cells #[.string s, .slice A m c] T))
 by_cases h1 : k = 1
 · subst h1
   rw [show formTy 1 = 114 from rfl]
   have HF := zH (show exFormOf 1 s m = (nameL 97 122 s.data.toList && decide (m = 0)) from rfl)
   have HN := zH (fun (W : World) => own_isname s W)
   unfold NamePost at HN
   generalize nameL 97 122 s.data.toList = b at *
   cases b
   · have aV := asVV
     go_enter Tryz.func57, Tryz.ntmps57
     go_wp2_with (go_at_call 68; refine (HN.out _).mono ?_; rintro r w2 ⟨rfl, hb2⟩; have hx2 := right_box hb2; have HB2 := zH hb2; clear hb2)
     go_ret
     exact ⟨by rw [HF.out]; rfl, right_below HB2.out⟩
   by_cases hm0 : m = 0
   · subst hm0
     have aV := asVV
     go_enter Tryz.func57, Tryz.ntmps57
     go_wp2_with (go_at_call 68; refine (HN.out _).mono ?_; rintro r w2 ⟨rfl, hb2⟩; have hx2 := right_box hb2; have HB2 := zH hb2; clear hb2)
     go_ret
     exact ⟨by rw [HF.out]; rfl, right_below HB2.out⟩
   have hz : ((m : Int) == 0) = false := by simpa using hm0
   have HM := zH (show decide (m = 0) = false by simpa using hm0)
   clear hm0
   have aV := asVV
   go_enter Tryz.func57, Tryz.ntmps57
   go_wp2_with (go_at_call 68; refine (HN.out _).mono ?_; rintro r w2 ⟨rfl, hb2⟩; have hx2 := right_box hb2; have HB2 := zH hb2; clear hb2)
   go_ret
   exact ⟨by rw [HF.out, HM.out]; rfl, right_below HB2.out⟩
 by_cases h2 : k = 2
 · subst h2
   rw [show formTy 2 = 98 from rfl]
   have HF := zH (show exFormOf 2 s m = (nameL 65 90 s.data.toList && decide (m ≤ 5)) from rfl)
   have HN := zH (fun (W : World) => own_iscon s W)
   unfold NamePost at HN
   generalize nameL 65 90 s.data.toList = b at *
   cases b
   · have aV := asCV
     have aC := asCC
     go_enter Tryz.func57, Tryz.ntmps57
     go_wp2_with (go_at_call 82; refine (HN.out _).mono ?_; rintro r w2 ⟨rfl, hb2⟩; have hx2 := right_box hb2; have HB2 := zH hb2; clear hb2)
     go_ret
     exact ⟨by rw [HF.out]; rfl, right_below HB2.out⟩
   by_cases hm0 : m ≤ 5
   · have hz : (m : Int) ≤ 5 := by omega
     have HM := zH (show decide (m ≤ 5) = true by simpa using hm0)
     clear hm0
     have aV := asCV
     have aC := asCC
     go_enter Tryz.func57, Tryz.ntmps57
     go_wp2_with (go_at_call 82; refine (HN.out _).mono ?_; rintro r w2 ⟨rfl, hb2⟩; have hx2 := right_box hb2; have HB2 := zH hb2; clear hb2)
     go_ret
     exact ⟨by rw [HF.out, HM.out]; rfl, right_below HB2.out⟩
   have hz : 5 < (m : Int) := by omega
   have hz2 : decide ((m : Int) ≤ 5) = false := by simp; omega
   have HM := zH (show decide (m ≤ 5) = false by simpa using hm0)
   clear hm0
   have aV := asCV
   have aC := asCC
   go_enter Tryz.func57, Tryz.ntmps57
   go_wp2_with (go_at_call 82; refine (HN.out _).mono ?_; rintro r w2 ⟨rfl, hb2⟩; have hx2 := right_box hb2; have HB2 := zH hb2; clear hb2)
   go_ret
   exact ⟨by rw [HF.out, HM.out]; rfl, right_below HB2.out⟩
 by_cases h3 : k = 3
 · subst h3
   rw [show formTy 3 = 97 from rfl]
   have HF := zH (show exFormOf 3 s m = (nameL 97 122 s.data.toList && decide (m ≤ 5)) from rfl)
   have HN := zH (fun (W : World) => own_isname s W)
   unfold NamePost at HN
   generalize nameL 97 122 s.data.toList = b at *
   cases b
   · have aV := asKV
     have aC := asKC
     have aK := asKK
     go_enter Tryz.func57, Tryz.ntmps57
     go_wp2_with (go_at_call 68; refine (HN.out _).mono ?_; rintro r w2 ⟨rfl, hb2⟩; have hx2 := right_box hb2; have HB2 := zH hb2; clear hb2)
     go_ret
     exact ⟨by rw [HF.out]; rfl, right_below HB2.out⟩
   by_cases hm0 : m ≤ 5
   · have hz : (m : Int) ≤ 5 := by omega
     have HM := zH (show decide (m ≤ 5) = true by simpa using hm0)
     clear hm0
     have aV := asKV
     have aC := asKC
     have aK := asKK
     go_enter Tryz.func57, Tryz.ntmps57
     go_wp2_with (go_at_call 68; refine (HN.out _).mono ?_; rintro r w2 ⟨rfl, hb2⟩; have hx2 := right_box hb2; have HB2 := zH hb2; clear hb2)
     go_ret
     exact ⟨by rw [HF.out, HM.out]; rfl, right_below HB2.out⟩
   have hz : 5 < (m : Int) := by omega
   have hz2 : decide ((m : Int) ≤ 5) = false := by simp; omega
   have HM := zH (show decide (m ≤ 5) = false by simpa using hm0)
   clear hm0
   have aV := asKV
   have aC := asKC
   have aK := asKK
   go_enter Tryz.func57, Tryz.ntmps57
   go_wp2_with (go_at_call 68; refine (HN.out _).mono ?_; rintro r w2 ⟨rfl, hb2⟩; have hx2 := right_box hb2; have HB2 := zH hb2; clear hb2)
   go_ret
   exact ⟨by rw [HF.out, HM.out]; rfl, right_below HB2.out⟩
 by_cases h4 : k = 4
 · subst h4
   rw [show formTy 4 = 115 from rfl]
   have HF := zH (show exFormOf 4 s m = (decide (s.size = 0) && decide (m = 0)) from rfl)
   by_cases hs0 : s.size = 0
   · have HS := zH (show decide (s.size = 0) = true by simpa using hs0)
     have hl : s.toList = [] := by rw [ByteArray.toList_eq]; exact List.eq_nil_of_length_eq_zero (by rw [sizeN]; omega)
     have hl2 : (!s.toList.isEmpty) = false := by rw [hl]; rfl
     have hl3 : s.toList.isEmpty = true := by rw [hl]; rfl
     clear hs0
     by_cases hm0 : m = 0
     · subst hm0
       have aV := asSV
       have aC := asSC
       have aK := asSK
       have aS := asSS
       go_enter Tryz.func57, Tryz.ntmps57
       go_wp2_with fail
       go_ret
       exact ⟨by rw [HF.out, HS.out]; rfl, HB.out _⟩
     have hz : ((m : Int) == 0) = false := by simpa using hm0
     have HM := zH (show decide (m = 0) = false by simpa using hm0)
     clear hm0
     have aV := asSV
     have aC := asSC
     have aK := asSK
     have aS := asSS
     go_enter Tryz.func57, Tryz.ntmps57
     go_wp2_with fail
     go_ret
     exact ⟨by rw [HF.out, HS.out, HM.out]; rfl, HB.out _⟩
   have HS := zH (show decide (s.size = 0) = false by simpa using hs0)
   have hl3 : s.toList.isEmpty = false := by
    cases hb : s.toList.isEmpty with
    | false => rfl
    | true =>
     rw [List.isEmpty_iff, ByteArray.toList_eq] at hb
     have := sizeN s
     rw [hb] at this
     simp at this; omega
   clear hs0
   have aV := asSV
   have aC := asSC
   have aK := asSK
   have aS := asSS
   go_enter Tryz.func57, Tryz.ntmps57
   go_wp2_with fail
   go_ret
   exact ⟨by rw [HF.out, HS.out]; rfl, HB.out _⟩
 have HF := zH (show exFormOf k s m = false by unfold exFormOf; rw [if_neg h1, if_neg h2, if_neg h3, if_neg h4])
 rw [show formTy k = 116 by simp [formTy, h1, h2, h3, h4]]
 clear h1 h2 h3 h4
 have aV := asOV
 have aC := asOC
 have aK := asOK
 have aS := asOS
 go_enter Tryz.func57, Tryz.ntmps57
 go_wp2_with fail
 go_ret
 exact ⟨by rw [HF.out]; rfl, wB _ _⟩
end Go.Proofs.YtiaknfnhmoinpaaGreat
namespace Go.Proofs.YtiaknfnhmoinpaaGreat
open Go Go.RowKit Go.Shelf
attribute [local go_sem] Oper.semAt_some
theorem at_wide {F : Fence} {n : Nat} {P : Program} {f : FuncId} {args : Array Value} {w : World} {R : Ending → World → Prop} (hF : F = Fence.wide) (h : Calls P f args w R) (l : Nat) : CallsIn (F.inRound l) n P f args w R := by
 subst hF
 exact CallsIn.inRound l (callsIn_wide.2 h)
theorem wide_in {F : Fence} {n : Nat} {P : Program} {f : FuncId} {args : Array Value} {w : World} {R : Ending → World → Prop} (hF : F = Fence.wide) (h : Calls P f args w R) : CallsIn F n P f args w R := by
 subst hF
 exact callsIn_wide.2 h
theorem res_bool {fn : Func} (h : fn.results = #[.cell 2 4]) (tmps : Array Value) (W : World) (rb : Nat) (b : Bool) (ht : tmps.getD 2 undef = .pointer (some ⟨rb, 0, none⟩)) (hc : W.cell? ⟨rb, 0, none⟩ = some (.bool b)) : (results fn tmps).run Tryz.prog W = .ok (.bool b) W := by
 rw [Array.getD_eq_getD_getElem?] at ht
 simp [results, h, ht, go_sem, hc]
theorem bool_end {F : Fence} {n : Nat} {fn : Func} {tmps : Array Value} {b : Bool} {D rb : Nat} {w X : World} (h : fn.results = #[.cell 2 4]) (ht : tmps.getD 2 undef = .pointer (some ⟨rb, 0, none⟩)) (hR : Boxed X rb 4 (.bool b)) (hK : X.heap[D]? = some (.deferred (some []))) (hne : D ≠ rb) (hDw : w.heap.size ≤ D) (hlow : Below w.heap.size w X) :
 LeavesInM F n Tryz.prog fn tmps (RetPost (.bool b) w) [{ target := .collected D, args := #[] }] .returning X := by
 refine ⟨by simp, .inl ⟨D, _, rfl, run_takeDeferred hK, ?_⟩⟩
 refine ⟨.bool b, res_bool h tmps _ rb b ht ?_, rfl, hlow.trans ((Fr.put (S := [D]) X _ _ (by simp)).below (by simpa using hDw) hlow.size)⟩
 exact (box_on hR (World.putObj_heap_other (Ne.symm hne))).cell
def Noded {wo : World} (I : List (It wo) → List Nat → World → Prop) (tm : Nat → It wo → Array Value) (ks : List (It wo)) (x : It wo) (a : Act) (Fp : List Nat) (X : World) : Prop := ∃ nb Fp0, Fp = nb :: Fp0 ∧ X.heap[nb]? = some (.cells #[.int .i64 x.ex.kind, .string x.ex.name, x.1.2.2.1] 32 (0, 0)) ∧ nb ∉ Fp0 ∧ I ks Fp0 X ∧ a = { tmps := tm nb x, defers := [] }
theorem noded_foot {wo : World} {I : List (It wo) → List Nat → World → Prop} (hI : ∀ ks, Foot (I ks)) (tm : Nat → It wo → Array Value) (ks : List (It wo)) (x : It wo) (a : Act) : Foot (Noded I tm ks x a) := by
 rintro Fp X Y ⟨nb, Fp0, rfl, h1, h2, h3, h4⟩ hs hk
 exact ⟨nb, Fp0, rfl, (hk nb (by simp)).trans h1, h2, hI ks Fp0 X Y h3 hs (fun k h => hk k (by simp [h])), h4⟩
theorem noded_new {wo : World} {I : List (It wo) → List Nat → World → Prop} (hI : ∀ ks, Foot (I ks)) {tm : Nat → It wo → Array Value} {ks : List (It wo)} {x : It wo} {Fp : List Nat} {X : World} (h : I ks Fp X) (hFp : ∀ k ∈ Fp, k < X.heap.size) {u : Value} (hu : x.1.2.2.1 = u) {a : Act} (ha : a = { tmps := tm X.heap.size x, defers := [] }) :
 Fr Fp X (X.alloc (.cells #[.int .i64 x.ex.kind, .string x.ex.name, u] 32)) ∧ (∀ k ∈ X.heap.size :: Fp, (k ∈ Fp ∨ X.heap.size ≤ k) ∧ k < (X.alloc (.cells #[.int .i64 x.ex.kind, .string x.ex.name, u] 32)).heap.size) ∧ Noded I tm ks x a (X.heap.size :: Fp) (X.alloc (.cells #[.int .i64 x.ex.kind, .string x.ex.name, u] 32)) := by
 subst hu
 refine ⟨Fr.alloc _ _, fun k hk => ?_, X.heap.size, Fp, rfl, World.alloc_heap_new X _, fun hm => by have := hFp _ hm; omega, hI ks Fp X _ h (by simp) (fun k hk => Below.heap_alloc X _ k (hFp k hk)), ha⟩
 rcases List.mem_cons.1 hk with rfl | hk
 · exact ⟨Or.inr (nR _), by simp⟩
 exact ⟨Or.inl hk, by have := hFp k hk; simp; omega⟩
end Go.Proofs.YtiaknfnhmoinpaaGreat
