/- The contract of the model's l4Take. Condition: a text of at most 1048576 bytes. -/
import Derived.Test.YtmndlhbgacgnlaaSpecNames
import Derived.Test.YtmndlhbgacgnlaaFrame
import Derived.Deep.QuietTactic
import Derived.BigQuiet
namespace Go.Proofs.Ytmndlhbgacgnlaa
open Go Go.RowKit

/-- Block R reads the text s; it stands before byte a; b: an error has been met. -/
def Rd (w : World) (R : Nat) (s : ByteArray) (a : Nat) (b : Bool) : Prop := w.heap[R]? = some (.cells #[.string s, .int .i64 (a : Int), .bool b] 103 (0, 0))
theorem Rd.cells {w : World} {R : Nat} {s : ByteArray} {a : Nat} {b : Bool} (h : Rd w R s a b) : w.cell? ⟨R, 0, none⟩ = some (.string s) ∧ w.cell? ⟨R, 1, none⟩ = some (.int .i64 (a : Int)) ∧ w.cell? ⟨R, 2, none⟩ = some (.bool b) ∧ R < w.heap.size := by
  unfold Rd at h
  exact ⟨by simp [World.cell?, h], by simp [World.cell?, h], by simp [World.cell?, h], (Array.getElem?_eq_some_iff.1 h).1⟩
theorem Rd.thaw {w : World} {R : Nat} {s : ByteArray} {a : Nat} {b : Bool} (h : Rd w R s a b) (j : Nat) : w.frozen? ⟨R, j, none⟩ = false := by
  unfold Rd at h
  simp [World.frozen?, h]
theorem Rd.at_ {w : World} {R : Nat} {s : ByteArray} {a : Nat} {b : Bool} (h : Rd w R s a b) (k : Nat) : Rd (w.setCell ⟨R, 1, none⟩ (.int .i64 (k : Int))) R s k b := by
  unfold Rd at h ⊢
  simp [World.setCell, Array.getElem?_modify, h]
theorem Rd.turn {w : World} {R : Nat} {s : ByteArray} {a : Nat} {b : Bool} (h : Rd w R s a b) (b2 : Bool) : Rd (w.setCell ⟨R, 2, none⟩ (.bool b2)) R s a b2 := by
  unfold Rd at h ⊢
  simp [World.setCell, Array.getElem?_modify, h]
theorem Rd.move {w : World} {R : Nat} {s : ByteArray} {a : Nat} {b : Bool} (h : Rd w R s a b) (n : Nat) : Rd ((w.drewN n).setCell ⟨R, 1, none⟩ (.int .i64 ((a : Int) + 1))) R s (a + 1) b :=
  Rd.at_ (w := w.drewN n) h (a + 1)
theorem Rd.keep {w w2 : World} {R : Nat} {s : ByteArray} {a : Nat} {b : Bool} (h : Rd w R s a b) (hk : Fr [] w w2) : Rd w2 R s a b := (hk.block R h.cells.2.2.2 (by simp)).trans h
theorem Fr.drewN {S : List Nat} {W W2 : World} (h : Fr S W W2) (n : Nat) : Fr S W (W2.drewN n) := ⟨h.os, h.tape, h.output, h.size, h.block⟩

/-- Whether byte c stands at a. -/
def isAt (s : ByteArray) (a : Nat) (c : UInt8) : Bool := s.data.toList[a]? == some c
def TakePost (R : Nat) (s : ByteArray) (a : Nat) (b : Bool) (c : UInt8) (w : World) (e : Ending) (w2 : World) : Prop :=
  e = .returned (.bool (!b && isAt s a c)) ∧ Fr [R] w w2 ∧ Rd w2 R s (if (!b && isAt s a c) then a + 1 else a) b

set_option maxHeartbeats 1000000 in
theorem take_bad (R : Nat) (s : ByteArray) (a : Nat) (c : UInt8) (w : World) (h : Rd w R s a true) :
    Calls Try.prog 121 #[.pointer (some ⟨R, 0, none⟩), .string ⟨#[c]⟩] w (TakePost R s a true c w) := by
  obtain ⟨c0, c1, c2, hR⟩ := h.cells
  have HR := Lib.hid h
  clear h
  go_enter Try.func121, Try.ntmps121
  go_wp2
  go_quiet (fail)
  go_wp2
  go_ret
  exact ⟨rfl, (Fr.refl _ _).drewN _, HR.out⟩

set_option maxHeartbeats 1000000 in
theorem take_end (R : Nat) (s : ByteArray) (a : Nat) (c : UInt8) (w : World) (h : Rd w R s a false) (ha : s.size ≤ a) (ha2 : a ≤ 1048576) :
    Calls Try.prog 121 #[.pointer (some ⟨R, 0, none⟩), .string ⟨#[c]⟩] w (TakePost R s a false c w) := by
  obtain ⟨c0, c1, c2, hR⟩ := h.cells
  have HR := Lib.hid h
  have HX := Lib.hid (show isAt s a c = false by
    unfold isAt
    rw [List.getElem?_eq_none (by rw [sizeN]; omega)]; rfl)
  have h1 : (s.size : Int) < (a : Int) + 1 := by omega
  have h2 : IntKind.i64.wrap ((a : Int) + 1) = (a : Int) + 1 := IntWalk.i64_in _ (by omega)
  clear h
  go_enter Try.func121, Try.ntmps121
  go_wp2
  go_quiet (fail)
  go_wp2
  go_ret
  exact ⟨by rw [HX.out]; rfl, (Fr.refl _ _).drewN _, by rw [HX.out]; exact HR.out⟩

theorem cut_list (s : ByteArray) (a b : Nat) : (s.extract a b).data.toList = (s.data.toList.drop a).take (b - a) := by
  rw [ByteArray.data_extract, Array.toList_extract]
theorem one_at (s : ByteArray) (a : Nat) (c : UInt8) (ha : a < s.size) : ((s.extract a (a + 1)).toList == [c]) = isAt s a c := by
  have h1 : (s.extract a (a + 1)).toList = [s[a]] := by
    rw [ByteArray.toList_eq, cut_list, drop_at s a ha, Nat.add_sub_cancel_left]
    simp
  rw [h1]
  unfold isAt
  have h3 : s.data.toList[a]? = some s[a] := by
    rw [List.getElem?_eq_getElem (by rw [sizeN]; exact ha)]; rfl
  rw [h3]
  simp

set_option maxHeartbeats 1000000 in
theorem take_not (R : Nat) (s : ByteArray) (a : Nat) (c : UInt8) (w : World) (h : Rd w R s a false) (ha : a < s.size) (ha2 : s.size ≤ 1048576) (hx : isAt s a c = false) :
    Calls Try.prog 121 #[.pointer (some ⟨R, 0, none⟩), .string ⟨#[c]⟩] w (TakePost R s a false c w) := by
  obtain ⟨c0, c1, c2, hR⟩ := h.cells
  have HR := Lib.hid h
  have HX := Lib.hid hx
  have h1 : (a : Int) + 1 ≤ (s.size : Int) := by omega
  have h0 : 0 ≤ (a : Int) := by omega
  have hd : decide ((s.size : Int) < (a : Int) + 1) = false := by simp; omega
  have h2 : IntKind.i64.wrap ((a : Int) + 1) = (a : Int) + 1 := IntWalk.i64_in _ (by omega)
  have h3 := (one_at s a c ha).trans hx
  clear h hx
  go_enter Try.func121, Try.ntmps121
  go_wp2
  go_quiet (fail)
  go_wp2
  go_ret
  exact ⟨by rw [HX.out]; rfl, (Fr.refl _ _).drewN _, by rw [HX.out]; exact HR.out⟩

set_option maxHeartbeats 1000000 in
theorem take_hit (R : Nat) (s : ByteArray) (a : Nat) (c : UInt8) (w : World) (h : Rd w R s a false) (ha : a < s.size) (ha2 : s.size ≤ 1048576) (hx : isAt s a c = true) :
    Calls Try.prog 121 #[.pointer (some ⟨R, 0, none⟩), .string ⟨#[c]⟩] w (TakePost R s a false c w) := by
  obtain ⟨c0, c1, c2, hR⟩ := h.cells
  have hf := h.thaw 1
  have HR := Lib.hid h
  have HX := Lib.hid hx
  have h1 : (a : Int) + 1 ≤ (s.size : Int) := by omega
  have h0 : 0 ≤ (a : Int) := by omega
  have hd : decide ((s.size : Int) < (a : Int) + 1) = false := by simp; omega
  have h2 : IntKind.i64.wrap ((a : Int) + 1) = (a : Int) + 1 := IntWalk.i64_in _ (by omega)
  have h3 := (one_at s a c ha).trans hx
  clear h hx
  go_enter Try.func121, Try.ntmps121
  go_wp2
  go_quiet (fail)
  go_wp2
  go_ret
  exact ⟨by rw [HX.out]; rfl, ((Fr.refl _ _).drewN _).trans (Fr.set (S := [R]) _ _ _ (by simp)) (by simp), by rw [HX.out]; exact HR.out.move _⟩

theorem take_any (R : Nat) (s : ByteArray) (a : Nat) (b : Bool) (c : UInt8) (w : World) (h : Rd w R s a b) (ha : a ≤ s.size) (ha2 : s.size ≤ 1048576) :
    Calls Try.prog 121 #[.pointer (some ⟨R, 0, none⟩), .string ⟨#[c]⟩] w (TakePost R s a b c w) := by
  cases b
  · by_cases h1 : a < s.size
    · cases h2 : isAt s a c
      · exact take_not R s a c w h h1 ha2 h2
      · exact take_hit R s a c w h h1 ha2 h2
    · exact take_end R s a c w h (by omega) (by omega)
  · exact take_bad R s a c w h
end Go.Proofs.Ytmndlhbgacgnlaa
