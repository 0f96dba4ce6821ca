/- The contracts of the program's own formOf and isRightForm: the form of a node, and whether it is right. No condition. -/
import Derived.Test.YtmndlhbgacgnlaaSpecValid
import Derived.Test.YtmndlhbgacgnlaaOwnIsName
import Derived.Lib.Hide
namespace Go.Proofs.Ytmndlhbgacgnlaa
open Go Go.RowKit

/-- The type that stands for a kind. -/
def formTy (k : Int) : Nat := if k = 1 then 85 else if k = 2 then 93 else if k = 3 then 89 else if k = 4 then 147 else 148
def FormPost (k : Int) (s : ByteArray) (A : Option Addr) (m c : Nat) (w : World) (e : Ending) (w2 : World) : Prop := e = .returned (.iface (formTy k) (.agg #[.string s, .slice A m c])) ∧ Below w.heap.size w w2

set_option maxHeartbeats 1000000 in
theorem own_form (k : Int) (s : ByteArray) (A : Option Addr) (m c : Nat) (w : World) :
    Calls Try.prog 60 #[.agg #[.int .i64 k, .string s, .slice A m c]] w (FormPost k s A m c w) := by
  have hb : Below w.heap.size w ((w.alloc (.cells #[.int .i64 k, .string s, .slice A m c] 26)).alloc (.cells #[.string s, .slice A m c] 83)) := ((Below.refl _ _).alloc (Nat.le_refl _) _).alloc (by simp) _
  have HB := Lib.hid hb
  clear hb
  by_cases h1 : k = 1
  · subst h1
    go_enter Try.func60, Try.ntmps60
    go_wp2_with fail
    go_ret
    exact ⟨rfl, HB.out⟩
  · by_cases h2 : k = 2
    · subst h2
      go_enter Try.func60, Try.ntmps60
      go_wp2_with fail
      go_ret
      exact ⟨rfl, HB.out⟩
    · by_cases h3 : k = 3
      · subst h3
        go_enter Try.func60, Try.ntmps60
        go_wp2_with fail
        go_ret
        exact ⟨rfl, HB.out⟩
      · by_cases h4 : k = 4
        · subst h4
          go_enter Try.func60, Try.ntmps60
          go_wp2_with fail
          go_ret
          exact ⟨rfl, HB.out⟩
        · have HF := Lib.hid (show formTy k = 148 by simp [formTy, h1, h2, h3, h4])
          have e1 : (k == 1) = false := by simpa using h1
          have e2 : (k == 2) = false := by simpa using h2
          have e3 : (k == 3) = false := by simpa using h3
          have e4 : (k == 4) = false := by simpa using h4
          go_enter Try.func60, Try.ntmps60
          go_wp2_with fail
          go_ret
          exact ⟨by rw [HF.out]; rfl, HB.out⟩

theorem asVV (v : Value) (w : World) : (Instr.typeAssert (.iface 85 v) 79 85 true).run Try.prog w = .ok (.tuple #[v, .bool true]) w := by kernel_rfl
theorem asVC (v : Value) (w : World) : (Instr.typeAssert (.iface 85 v) 79 93 true).run Try.prog w = .ok (.tuple #[.agg #[.string ⟨#[]⟩, .slice none 0 0], .bool false]) w := by kernel_rfl
theorem asVK (v : Value) (w : World) : (Instr.typeAssert (.iface 85 v) 79 89 true).run Try.prog w = .ok (.tuple #[.agg #[.string ⟨#[]⟩, .slice none 0 0], .bool false]) w := by kernel_rfl
theorem asVS (v : Value) (w : World) : (Instr.typeAssert (.iface 85 v) 79 147 true).run Try.prog w = .ok (.tuple #[.agg #[.string ⟨#[]⟩, .slice none 0 0], .bool false]) w := by kernel_rfl
theorem asCV (v : Value) (w : World) : (Instr.typeAssert (.iface 93 v) 79 85 true).run Try.prog w = .ok (.tuple #[.agg #[.string ⟨#[]⟩, .slice none 0 0], .bool false]) w := by kernel_rfl
theorem asCC (v : Value) (w : World) : (Instr.typeAssert (.iface 93 v) 79 93 true).run Try.prog w = .ok (.tuple #[v, .bool true]) w := by kernel_rfl
theorem asCK (v : Value) (w : World) : (Instr.typeAssert (.iface 93 v) 79 89 true).run Try.prog w = .ok (.tuple #[.agg #[.string ⟨#[]⟩, .slice none 0 0], .bool false]) w := by kernel_rfl
theorem asCS (v : Value) (w : World) : (Instr.typeAssert (.iface 93 v) 79 147 true).run Try.prog w = .ok (.tuple #[.agg #[.string ⟨#[]⟩, .slice none 0 0], .bool false]) w := by kernel_rfl
theorem asKV (v : Value) (w : World) : (Instr.typeAssert (.iface 89 v) 79 85 true).run Try.prog w = .ok (.tuple #[.agg #[.string ⟨#[]⟩, .slice none 0 0], .bool false]) w := by kernel_rfl
theorem asKC (v : Value) (w : World) : (Instr.typeAssert (.iface 89 v) 79 93 true).run Try.prog w = .ok (.tuple #[.agg #[.string ⟨#[]⟩, .slice none 0 0], .bool false]) w := by kernel_rfl
theorem asKK (v : Value) (w : World) : (Instr.typeAssert (.iface 89 v) 79 89 true).run Try.prog w = .ok (.tuple #[v, .bool true]) w := by kernel_rfl
theorem asKS (v : Value) (w : World) : (Instr.typeAssert (.iface 89 v) 79 147 true).run Try.prog w = .ok (.tuple #[.agg #[.string ⟨#[]⟩, .slice none 0 0], .bool false]) w := by kernel_rfl
theorem asSV (v : Value) (w : World) : (Instr.typeAssert (.iface 147 v) 79 85 true).run Try.prog w = .ok (.tuple #[.agg #[.string ⟨#[]⟩, .slice none 0 0], .bool false]) w := by kernel_rfl
theorem asSC (v : Value) (w : World) : (Instr.typeAssert (.iface 147 v) 79 93 true).run Try.prog w = .ok (.tuple #[.agg #[.string ⟨#[]⟩, .slice none 0 0], .bool false]) w := by kernel_rfl
theorem asSK (v : Value) (w : World) : (Instr.typeAssert (.iface 147 v) 79 89 true).run Try.prog w = .ok (.tuple #[.agg #[.string ⟨#[]⟩, .slice none 0 0], .bool false]) w := by kernel_rfl
theorem asSS (v : Value) (w : World) : (Instr.typeAssert (.iface 147 v) 79 147 true).run Try.prog w = .ok (.tuple #[v, .bool true]) w := by kernel_rfl
theorem asOV (v : Value) (w : World) : (Instr.typeAssert (.iface 148 v) 79 85 true).run Try.prog w = .ok (.tuple #[.agg #[.string ⟨#[]⟩, .slice none 0 0], .bool false]) w := by kernel_rfl
theorem asOC (v : Value) (w : World) : (Instr.typeAssert (.iface 148 v) 79 93 true).run Try.prog w = .ok (.tuple #[.agg #[.string ⟨#[]⟩, .slice none 0 0], .bool false]) w := by kernel_rfl
theorem asOK (v : Value) (w : World) : (Instr.typeAssert (.iface 148 v) 79 89 true).run Try.prog w = .ok (.tuple #[.agg #[.string ⟨#[]⟩, .slice none 0 0], .bool false]) w := by kernel_rfl
theorem asOS (v : Value) (w : World) : (Instr.typeAssert (.iface 148 v) 79 147 true).run Try.prog w = .ok (.tuple #[.agg #[.string ⟨#[]⟩, .slice none 0 0], .bool false]) w := by kernel_rfl
def RightPost (k : Int) (s : ByteArray) (m : Nat) (w : World) (e : Ending) (w2 : World) : Prop := e = .returned (.bool (exFormOf k s m)) ∧ Below w.heap.size w w2
theorem right_box {w w2 : World} {s : ByteArray} {A : Option Addr} {m c : Nat} {T : Nat} (h : Below (w.alloc (.cells #[.string s, .slice A m c] T)).heap.size (w.alloc (.cells #[.string s, .slice A m c] T)) w2) : w2.cell? ⟨w.heap.size, 1, none⟩ = some (.slice A m c) := by
  have := (h.block w.heap.size (by simp)).trans (heap_alloc_new w _)
  simp [World.cell?, this]
theorem right_below {w w2 : World} {o : Obj} (h : Below (w.alloc o).heap.size (w.alloc o) w2) : Below w.heap.size w w2 := ((Below.refl _ w).alloc (Nat.le_refl _) _).trans (h.mono (by simp))

set_option maxRecDepth 100000 in
set_option maxHeartbeats 2000000 in
theorem own_right (k : Int) (s : ByteArray) (A : Option Addr) (m c : Nat) (w : World) (hc : (c : Int) ≤ 9223372036854775807) (hmc : m ≤ c) :
    Calls Try.prog 59 #[.iface (formTy k) (.agg #[.string s, .slice A m c])] w (RightPost k s m w) := by
  have hm3 : (m : Int) ≤ 9223372036854775807 := by omega
  have HB := Lib.hid (fun (T : Nat) => (Below.refl w.heap.size w).alloc (Nat.le_refl _) (.cells #[.string s, .slice A m c] T))
  by_cases h1 : k = 1
  · subst h1
    rw [show formTy 1 = 85 from rfl]
    have HF := Lib.hid (show exFormOf 1 s m = (nameL 97 122 s.data.toList && decide (m = 0)) from rfl)
    have HN := Lib.hid (fun (W : World) => own_isname s W)
    unfold NamePost at HN
    generalize nameL 97 122 s.data.toList = b at *
    cases b
    · have aV := asVV
      go_enter Try.func59, Try.ntmps59
      go_wp2_with (go_at_call 104; refine (HN.out _).mono ?_; rintro r w2 ⟨rfl, hb2⟩; have hx2 := right_box hb2; have HB2 := Lib.hid hb2; clear hb2)
      go_ret
      exact ⟨by rw [HF.out]; rfl, right_below HB2.out⟩
    · by_cases hm0 : m = 0
      · subst hm0
        have aV := asVV
        go_enter Try.func59, Try.ntmps59
        go_wp2_with (go_at_call 104; refine (HN.out _).mono ?_; rintro r w2 ⟨rfl, hb2⟩; have hx2 := right_box hb2; have HB2 := Lib.hid hb2; clear hb2)
        go_ret
        exact ⟨by rw [HF.out]; rfl, right_below HB2.out⟩
      · have hz : ((m : Int) == 0) = false := by simpa using hm0
        have HM := Lib.hid (show decide (m = 0) = false by simpa using hm0)
        clear hm0
        have aV := asVV
        go_enter Try.func59, Try.ntmps59
        go_wp2_with (go_at_call 104; refine (HN.out _).mono ?_; rintro r w2 ⟨rfl, hb2⟩; have hx2 := right_box hb2; have HB2 := Lib.hid hb2; clear hb2)
        go_ret
        exact ⟨by rw [HF.out, HM.out]; rfl, right_below HB2.out⟩
  by_cases h2 : k = 2
  · subst h2
    rw [show formTy 2 = 93 from rfl]
    have HF := Lib.hid (show exFormOf 2 s m = (nameL 65 90 s.data.toList && decide (m ≤ 5)) from rfl)
    have HN := Lib.hid (fun (W : World) => own_iscon s W)
    unfold NamePost at HN
    generalize nameL 65 90 s.data.toList = b at *
    cases b
    · have aV := asCV
      have aC := asCC
      go_enter Try.func59, Try.ntmps59
      go_wp2_with (go_at_call 105; refine (HN.out _).mono ?_; rintro r w2 ⟨rfl, hb2⟩; have hx2 := right_box hb2; have HB2 := Lib.hid hb2; clear hb2)
      go_ret
      exact ⟨by rw [HF.out]; rfl, right_below HB2.out⟩
    · by_cases hm0 : m ≤ 5
      · have hz : (m : Int) ≤ 5 := by omega
        have HM := Lib.hid (show decide (m ≤ 5) = true by simpa using hm0)
        clear hm0
        have aV := asCV
        have aC := asCC
        go_enter Try.func59, Try.ntmps59
        go_wp2_with (go_at_call 105; refine (HN.out _).mono ?_; rintro r w2 ⟨rfl, hb2⟩; have hx2 := right_box hb2; have HB2 := Lib.hid hb2; clear hb2)
        go_ret
        exact ⟨by rw [HF.out, HM.out]; rfl, right_below HB2.out⟩
      · have hz : 5 < (m : Int) := by omega
        have hz2 : decide ((m : Int) ≤ 5) = false := by simp; omega
        have HM := Lib.hid (show decide (m ≤ 5) = false by simpa using hm0)
        clear hm0
        have aV := asCV
        have aC := asCC
        go_enter Try.func59, Try.ntmps59
        go_wp2_with (go_at_call 105; refine (HN.out _).mono ?_; rintro r w2 ⟨rfl, hb2⟩; have hx2 := right_box hb2; have HB2 := Lib.hid hb2; clear hb2)
        go_ret
        exact ⟨by rw [HF.out, HM.out]; rfl, right_below HB2.out⟩
  by_cases h3 : k = 3
  · subst h3
    rw [show formTy 3 = 89 from rfl]
    have HF := Lib.hid (show exFormOf 3 s m = (nameL 97 122 s.data.toList && decide (m ≤ 5)) from rfl)
    have HN := Lib.hid (fun (W : World) => own_isname s W)
    unfold NamePost at HN
    generalize nameL 97 122 s.data.toList = b at *
    cases b
    · have aV := asKV
      have aC := asKC
      have aK := asKK
      go_enter Try.func59, Try.ntmps59
      go_wp2_with (go_at_call 104; refine (HN.out _).mono ?_; rintro r w2 ⟨rfl, hb2⟩; have hx2 := right_box hb2; have HB2 := Lib.hid hb2; clear hb2)
      go_ret
      exact ⟨by rw [HF.out]; rfl, right_below HB2.out⟩
    · by_cases hm0 : m ≤ 5
      · have hz : (m : Int) ≤ 5 := by omega
        have HM := Lib.hid (show decide (m ≤ 5) = true by simpa using hm0)
        clear hm0
        have aV := asKV
        have aC := asKC
        have aK := asKK
        go_enter Try.func59, Try.ntmps59
        go_wp2_with (go_at_call 104; refine (HN.out _).mono ?_; rintro r w2 ⟨rfl, hb2⟩; have hx2 := right_box hb2; have HB2 := Lib.hid hb2; clear hb2)
        go_ret
        exact ⟨by rw [HF.out, HM.out]; rfl, right_below HB2.out⟩
      · have hz : 5 < (m : Int) := by omega
        have hz2 : decide ((m : Int) ≤ 5) = false := by simp; omega
        have HM := Lib.hid (show decide (m ≤ 5) = false by simpa using hm0)
        clear hm0
        have aV := asKV
        have aC := asKC
        have aK := asKK
        go_enter Try.func59, Try.ntmps59
        go_wp2_with (go_at_call 104; refine (HN.out _).mono ?_; rintro r w2 ⟨rfl, hb2⟩; have hx2 := right_box hb2; have HB2 := Lib.hid hb2; clear hb2)
        go_ret
        exact ⟨by rw [HF.out, HM.out]; rfl, right_below HB2.out⟩
  by_cases h4 : k = 4
  · subst h4
    rw [show formTy 4 = 147 from rfl]
    have HF := Lib.hid (show exFormOf 4 s m = (decide (s.size = 0) && decide (m = 0)) from rfl)
    by_cases hs0 : s.size = 0
    · have HS := Lib.hid (show decide (s.size = 0) = true by simpa using hs0)
      have hl : s.toList = [] := by rw [ByteArray.toList_eq]; exact List.eq_nil_of_length_eq_zero (by rw [sizeN]; omega)
      have hl2 : (!s.toList.isEmpty) = false := by rw [hl]; rfl
      have hl3 : s.toList.isEmpty = true := by rw [hl]; rfl
      clear hs0
      by_cases hm0 : m = 0
      · subst hm0
        have aV := asSV
        have aC := asSC
        have aK := asSK
        have aS := asSS
        go_enter Try.func59, Try.ntmps59
        go_wp2_with fail
        go_ret
        exact ⟨by rw [HF.out, HS.out]; rfl, HB.out _⟩
      · have hz : ((m : Int) == 0) = false := by simpa using hm0
        have HM := Lib.hid (show decide (m = 0) = false by simpa using hm0)
        clear hm0
        have aV := asSV
        have aC := asSC
        have aK := asSK
        have aS := asSS
        go_enter Try.func59, Try.ntmps59
        go_wp2_with fail
        go_ret
        exact ⟨by rw [HF.out, HS.out, HM.out]; rfl, HB.out _⟩
    · have HS := Lib.hid (show decide (s.size = 0) = false by simpa using hs0)
      have hl3 : s.toList.isEmpty = false := by
        cases hb : s.toList.isEmpty with
        | false => rfl
        | true =>
          rw [List.isEmpty_iff, ByteArray.toList_eq] at hb
          have := sizeN s
          rw [hb] at this
          simp at this; omega
      clear hs0
      have aV := asSV
      have aC := asSC
      have aK := asSK
      have aS := asSS
      go_enter Try.func59, Try.ntmps59
      go_wp2_with fail
      go_ret
      exact ⟨by rw [HF.out, HS.out]; rfl, HB.out _⟩
  have HF := Lib.hid (show exFormOf k s m = false by unfold exFormOf; rw [if_neg h1, if_neg h2, if_neg h3, if_neg h4])
  rw [show formTy k = 148 by simp [formTy, h1, h2, h3, h4]]
  clear h1 h2 h3 h4
  have aV := asOV
  have aC := asOC
  have aK := asOK
  have aS := asOS
  go_enter Try.func59, Try.ntmps59
  go_wp2_with fail
  go_ret
  exact ⟨by rw [HF.out]; rfl, Below.refl _ _⟩
end Go.Proofs.Ytmndlhbgacgnlaa
