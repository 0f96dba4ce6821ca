/- A part of the proof of the seat's statement: SpecSizes. Condition: as each says. -/
import Derived.Test.YtiaknfnhmoinpaaGreatFrame
import Derived.Deep.QuietTactic
import Derived.BigQuiet
import Derived.Test.YtiaknfnhmoinpaaGreatDrawOnce
import Derived.WalkSpells
import Derived.WalkLawsBesides
set_option maxHeartbeats 8000000
namespace Go.Proofs.YtiaknfnhmoinpaaGreat
open Go Go.RowKit
def Rd (w : World) (R : Nat) (s : ByteArray) (a : Nat) (b : Bool) : Prop := w.heap[R]? = some (.cells #[.string s, .int .i64 (a : Int), .bool b] 148 (0, 0))
theorem Rd.cells {w : World} {R : Nat} {s : ByteArray} {a : Nat} {b : Bool} (h : Rd w R s a b) : w.cell? ⟨R, 0, none⟩ = some (.string s) ∧ w.cell? ⟨R, 1, none⟩ = some (.int .i64 (a : Int)) ∧ w.cell? ⟨R, 2, none⟩ = some (.bool b) ∧ R < w.heap.size := by
 unfold Rd at h
 exact ⟨by simp [World.cell?, h], by simp [World.cell?, h], by simp [World.cell?, h], (Array.getElem?_eq_some_iff.1 h).1⟩
theorem Rd.thaw {w : World} {R : Nat} {s : ByteArray} {a : Nat} {b : Bool} (h : Rd w R s a b) (j : Nat) : w.frozen? ⟨R, j, none⟩ = false := by
 unfold Rd at h
 simp [World.frozen?, h]
theorem Rd.at_ {w : World} {R : Nat} {s : ByteArray} {a : Nat} {b : Bool} (h : Rd w R s a b) (k : Nat) : Rd (w.setCell ⟨R, 1, none⟩ (.int .i64 (k : Int))) R s k b := by
 unfold Rd at h ⊢
 simp [World.setCell, Array.getElem?_modify, h]
theorem Rd.turn {w : World} {R : Nat} {s : ByteArray} {a : Nat} {b : Bool} (h : Rd w R s a b) (b2 : Bool) : Rd (w.setCell ⟨R, 2, none⟩ (.bool b2)) R s a b2 := by
 unfold Rd at h ⊢
 simp [World.setCell, Array.getElem?_modify, h]
theorem Rd.move {w : World} {R : Nat} {s : ByteArray} {a : Nat} {b : Bool} (h : Rd w R s a b) (n : Nat) : Rd ((w.drewN n).setCell ⟨R, 1, none⟩ (.int .i64 ((a : Int) + 1))) R s (a + 1) b :=
 Rd.at_ (w := w.drewN n) h (a + 1)
theorem Rd.keep {w w2 : World} {R : Nat} {s : ByteArray} {a : Nat} {b : Bool} (h : Rd w R s a b) (hk : Fr [] w w2) : Rd w2 R s a b := (hk.block R h.cells.2.2.2 (by simp)).trans h
theorem Fr.drewN {S : List Nat} {W W2 : World} (h : Fr S W W2) (n : Nat) : Fr S W (W2.drewN n) := ⟨h.os, h.tape, h.output, h.size, h.block⟩
def isAt (s : ByteArray) (a : Nat) (c : UInt8) : Bool := s.data.toList[a]? == some c
def TakePost (R : Nat) (s : ByteArray) (a : Nat) (b : Bool) (c : UInt8) (w : World) (e : Ending) (w2 : World) : Prop :=
 e = .returned (.bool (!b && isAt s a c)) ∧ Fr [R] w w2 ∧ Rd w2 R s (if (!b && isAt s a c) then a + 1 else a) b
theorem take_bad (R : Nat) (s : ByteArray) (a : Nat) (c : UInt8) (w : World) (h : Rd w R s a true) :
 Calls Tryz.prog 110 #[.pointer (some ⟨R, 0, none⟩), .string ⟨#[c]⟩] w (TakePost R s a true c w) := by
 obtain ⟨c0, c1, c2, hR⟩ := h.cells
 have HR := zH h
 clear h
 go_enter Tryz.func110, Tryz.ntmps110
 go_wp2
 go_quiet (fail)
 go_wp2
 go_ret
 exact ⟨rfl, (Fr.refl _ _).drewN _, HR.out⟩
theorem take_end (R : Nat) (s : ByteArray) (a : Nat) (c : UInt8) (w : World) (h : Rd w R s a false) (ha : s.size ≤ a) (ha2 : a ≤ 1048576) :
 Calls Tryz.prog 110 #[.pointer (some ⟨R, 0, none⟩), .string ⟨#[c]⟩] w (TakePost R s a false c w) := by
 obtain ⟨c0, c1, c2, hR⟩ := h.cells
 have HR := zH h
 have HX := zH (show isAt s a c = false by
  unfold isAt
  rw [List.getElem?_eq_none (by rw [sizeN]; omega)]; rfl)
 have h1 : (s.size : Int) < (a : Int) + 1 := by omega
 have h2 : IntKind.i64.wrap ((a : Int) + 1) = (a : Int) + 1 := IntWalk.i64_in _ (by omega)
 clear h
 go_enter Tryz.func110, Tryz.ntmps110
 go_wp2
 go_quiet (fail)
 go_wp2
 go_ret
 exact ⟨by rw [HX.out]; rfl, (Fr.refl _ _).drewN _, by rw [HX.out]; exact HR.out⟩
theorem cut_list (s : ByteArray) (a b : Nat) : (s.extract a b).data.toList = (s.data.toList.drop a).take (b - a) := by
 rw [ByteArray.data_extract, Array.toList_extract]
theorem one_at (s : ByteArray) (a : Nat) (c : UInt8) (ha : a < s.size) : ((s.extract a (a + 1)).toList == [c]) = isAt s a c := by
 have h1 : (s.extract a (a + 1)).toList = [s[a]] := by
  rw [ByteArray.toList_eq, cut_list, drop_at s a ha, Nat.add_sub_cancel_left]
  simp
 rw [h1]
 unfold isAt
 have h3 : s.data.toList[a]? = some s[a] := by
  rw [List.getElem?_eq_getElem (by rw [sizeN]; exact ha)]; rfl
 rw [h3]
 simp
theorem take_not (R : Nat) (s : ByteArray) (a : Nat) (c : UInt8) (w : World) (h : Rd w R s a false) (ha : a < s.size) (ha2 : s.size ≤ 1048576) (hx : isAt s a c = false) :
 Calls Tryz.prog 110 #[.pointer (some ⟨R, 0, none⟩), .string ⟨#[c]⟩] w (TakePost R s a false c w) := by
 obtain ⟨c0, c1, c2, hR⟩ := h.cells
 have HR := zH h
 have HX := zH hx
 have h1 : (a : Int) + 1 ≤ (s.size : Int) := by omega
 have h0 : 0 ≤ (a : Int) := by omega
 have hd : decide ((s.size : Int) < (a : Int) + 1) = false := by simp; omega
 have h2 : IntKind.i64.wrap ((a : Int) + 1) = (a : Int) + 1 := IntWalk.i64_in _ (by omega)
 have h3 := (one_at s a c ha).trans hx
 clear h hx
 go_enter Tryz.func110, Tryz.ntmps110
 go_wp2
 go_quiet (fail)
 go_wp2
 go_ret
 exact ⟨by rw [HX.out]; rfl, (Fr.refl _ _).drewN _, by rw [HX.out]; exact HR.out⟩
theorem take_hit (R : Nat) (s : ByteArray) (a : Nat) (c : UInt8) (w : World) (h : Rd w R s a false) (ha : a < s.size) (ha2 : s.size ≤ 1048576) (hx : isAt s a c = true) :
 Calls Tryz.prog 110 #[.pointer (some ⟨R, 0, none⟩), .string ⟨#[c]⟩] w (TakePost R s a false c w) := by
 obtain ⟨c0, c1, c2, hR⟩ := h.cells
 have hf := h.thaw 1
 have HR := zH h
 have HX := zH hx
 have h1 : (a : Int) + 1 ≤ (s.size : Int) := by omega
 have h0 : 0 ≤ (a : Int) := by omega
 have hd : decide ((s.size : Int) < (a : Int) + 1) = false := by simp; omega
 have h2 : IntKind.i64.wrap ((a : Int) + 1) = (a : Int) + 1 := IntWalk.i64_in _ (by omega)
 have h3 := (one_at s a c ha).trans hx
 clear h hx
 go_enter Tryz.func110, Tryz.ntmps110
 go_wp2
 go_quiet (fail)
 go_wp2
 go_ret
 exact ⟨by rw [HX.out]; rfl, ((Fr.refl _ _).drewN _).trans (Fr.set (S := [R]) _ _ _ (by simp)) (by simp), by rw [HX.out]; exact HR.out.move _⟩
theorem take_any (R : Nat) (s : ByteArray) (a : Nat) (b : Bool) (c : UInt8) (w : World) (h : Rd w R s a b) (ha : a ≤ s.size) (ha2 : s.size ≤ 1048576) :
 Calls Tryz.prog 110 #[.pointer (some ⟨R, 0, none⟩), .string ⟨#[c]⟩] w (TakePost R s a b c w) := by
 cases b
 · by_cases h1 : a < s.size
   · cases h2 : isAt s a c
     · exact take_not R s a c w h h1 ha2 h2
     exact take_hit R s a c w h h1 ha2 h2
   exact take_end R s a c w h (by omega) (by omega)
 exact take_bad R s a c w h
theorem tail_zero (s : ByteArray) (w : World) (hs : s.size ≤ 1048576) :
 Calls Tryz.prog 97 #[.string s, .int .i64 0] w fun e w' => e = .returned (.bool (tailL s.data.toList)) ∧ w = w' := by
 go_enter Tryz.func97, Tryz.ntmps97
 go_wp2
 go_loop [5] (fun i => ∃ k : Nat, k ≤ s.size ∧ i = .int .i64 (k : Int) ∧ Hid (tailL s.data.toList = tailL (s.data.toList.drop k))) (fun i => s.size - (intOf i).toNat)
 case atStart => exact ⟨0, Nat.zero_le _, rfl, zH rfl⟩
 case round =>
  obtain ⟨k, hk, rfl, HK⟩ := hrel
  by_cases hlt : k < s.size
  · have HD := zH (drop_at s k hlt)
    have hc : 0 ≤ (s[k].toNat : Int) ∧ (s[k].toNat : Int) ≤ 255 := by have := s[k].toNat_lt; omega
    by_cases ha : 97 ≤ (s[k].toNat : Int) ∧ (s[k].toNat : Int) ≤ 122
    · obtain ⟨ha1, ha2⟩ := ha
      have HT := zH (tail_step _ k _ HD.out (tail_yes (Or.inl ⟨by omega, by omega⟩)))
      go_wp2
      go_round
      case rel => exact ⟨k + 1, by omega, by go_num, zH (HK.out.trans HT.out)⟩
      case measure => simp [intOf]; omega
    by_cases hb : 48 ≤ (s[k].toNat : Int) ∧ (s[k].toNat : Int) ≤ 57
    · obtain ⟨hb1, hb2⟩ := hb
      have HT := zH (tail_step _ k _ HD.out (tail_yes (Or.inr ⟨by omega, by omega⟩)))
      clear ha
      go_wp2
      go_round
      case rel => exact ⟨k + 1, by omega, by go_num, zH (HK.out.trans HT.out)⟩
      case measure => simp [intOf]; omega
    have hcase : (s[k].toNat : Int) < 48 ∨ (57 < (s[k].toNat : Int) ∧ (s[k].toNat : Int) < 97) ∨ 122 < (s[k].toNat : Int) := by omega
    have HT := zH (tail_stop _ k _ HD.out (tail_not (by omega)))
    clear ha hb
    rcases hcase with h | ⟨h, h'⟩ | h
    · go_wp2
      go_ret
      exact ⟨by rw [HK.out, HT.out]; rfl, rfl⟩
    · have hd : decide ((s[k].toNat : Int) ≤ 57) = false := by simp; omega
      go_wp2
      go_ret
      exact ⟨by rw [HK.out, HT.out]; rfl, rfl⟩
    have hd : decide ((s[k].toNat : Int) ≤ 57) = false := by simp; omega
    have hd2 : decide ((s[k].toNat : Int) ≤ 122) = false := by simp; omega
    go_wp2
    go_ret
    exact ⟨by rw [HK.out, HT.out]; rfl, rfl⟩
  have HE := zH (show tailL (s.data.toList.drop k) = true by rw [List.drop_eq_nil_of_le (by rw [sizeN]; omega)]; rfl)
  go_wp2
  go_ret
  exact ⟨by rw [HK.out, HE.out]; rfl, rfl⟩
def wordOk (c : UInt8) : Bool := (decide (65 ≤ c.toNat) && decide (c.toNat ≤ 90)) || tailOk c
def wordL (l : List UInt8) : List UInt8 := l.takeWhile wordOk
theorem word_no {c : UInt8} {r : List UInt8} (h : wordOk c = false) : wordL (c :: r) = [] := by simp [wordL, h]
theorem word_yes {c : UInt8} {r : List UInt8} (h : wordOk c = true) : wordL (c :: r) = c :: wordL r := by simp [wordL, h]
def WInv (s : ByteArray) (a k : Nat) : Prop := a ≤ k ∧ k ≤ s.size ∧ wordL (s.data.toList.drop a) = (s.data.toList.drop a).take (k - a) ++ wordL (s.data.toList.drop k)
theorem WInv.step {s : ByteArray} {a k : Nat} (h : WInv s a k) (hk : k < s.size) (hc : wordOk s[k] = true) : WInv s a (k + 1) := by
 obtain ⟨h1, h2, h3⟩ := h
 refine ⟨by omega, by omega, ?_⟩
 rw [h3, drop_at s k hk, word_yes hc]
 have e : k + 1 - a = (k - a) + 1 := by omega
 have hl : k - a < (s.data.toList.drop a).length := by rw [List.length_drop, sizeN]; omega
 have e2 : (s.data.toList.drop a)[k - a]'hl = s[k] := by
  rw [List.getElem_drop]
  simp only [Nat.add_sub_cancel' h1]
  rfl
 rw [e, List.take_succ_eq_append_getElem hl, e2, List.append_assoc]
 rfl
theorem WInv.stop {s : ByteArray} {a k : Nat} (h : WInv s a k) (hk : k = s.size ∨ ∃ hk : k < s.size, wordOk s[k] = false) :
 s.extract a k = ⟨(wordL (s.data.toList.drop a)).toArray⟩ ∧ k = a + (wordL (s.data.toList.drop a)).length := by
 obtain ⟨h1, h2, h3⟩ := h
 have e : wordL (s.data.toList.drop k) = [] := by
  rcases hk with rfl | ⟨hk, hc⟩
  · rw [List.drop_eq_nil_of_le (by rw [sizeN]; omega)]; rfl
  rw [drop_at s k hk, word_no hc]
 rw [e, List.append_nil] at h3
 rw [h3]
 refine ⟨?_, ?_⟩
 · apply ByteArray.ext
   apply Array.toList_inj.1
   rw [cut_list]
 rw [List.length_take, List.length_drop, sizeN]; omega
def WordPost (R : Nat) (s : ByteArray) (a : Nat) (b : Bool) (w : World) (e : Ending) (w2 : World) : Prop :=
 e = .returned (.string ⟨(wordL (s.data.toList.drop a)).toArray⟩) ∧ Fr [R] w w2 ∧ Rd w2 R s (a + (wordL (s.data.toList.drop a)).length) b
theorem word_any (R : Nat) (s : ByteArray) (a : Nat) (b : Bool) (w : World) (h : Rd w R s a b) (ha : a ≤ s.size) (hs : s.size ≤ 1048576) :
 Calls Tryz.prog 111 #[.pointer (some ⟨R, 0, none⟩)] w (WordPost R s a b w) := by
 obtain ⟨c0, c1, c2, hR⟩ := h.cells
 have HR := zH h
 have HI0 := zH (show WInv s a a from ⟨nR _, ha, by simp⟩)
 clear h
 go_enter Tryz.func111, Tryz.ntmps111
 go_wp2
 go_loopw [58] (fun _ wr => ∃ (k : Nat), k ≤ s.size ∧ a ≤ k ∧ Hid (Rd wr R s k b) ∧ Hid (Fr [R] w wr) ∧ Hid (WInv s a k)) (fun _ wr => s.size - (intOf ((wr.cell? ⟨R, 1, none⟩).getD (.int .i64 0))).toNat)
 case atStart => exact ⟨a, ha, nR _, HR, zH (Fr.refl _ _), HI0⟩
 case round =>
  clear c0 c1 c2 hR HR HI0
  obtain ⟨k, hk, hak, HR, HF, HI⟩ := hrel
  obtain ⟨c0, c1, c2, hR⟩ := HR.out.cells
  have hf := HR.out.thaw 1
  have h0 : 0 ≤ (k : Int) := by omega
  have h2 : IntKind.i64.wrap ((k : Int) + 1) = (k : Int) + 1 := IntWalk.i64_in _ (by omega)
  have h00 : 0 ≤ (a : Int) := by omega
  have h01 : (a : Int) ≤ (k : Int) := by omega
  have h02 : (k : Int) ≤ (s.size : Int) := by omega
  by_cases hlt : k < s.size
  · have hc : 0 ≤ (s[k].toNat : Int) ∧ (s[k].toNat : Int) ≤ 255 := by have := s[k].toNat_lt; omega
    have hl1 : (k : Int) < (s.size : Int) := by omega
    have hl2 : (k : Int) + 1 ≤ (s.size : Int) := by omega
    have HRD := zH (fun (n : Nat) => HR.out.move n)
    have HFR := zH (fun (n : Nat) => show Fr [R] w ((wr.drewN n).setCell ⟨R, 1, none⟩ (.int .i64 ((k : Int) + 1))) from (HF.out.drewN n).trans (Fr.set (S := [R]) _ _ _ (by simp)) (by simp))
    have HME := zH (fun (n : Nat) => show s.size - (intOf ((((wr.drewN n).setCell ⟨R, 1, none⟩ (.int .i64 ((k : Int) + 1))).cell? ⟨R, 1, none⟩).getD (.int .i64 0))).toNat < s.size - (intOf ((wr.cell? ⟨R, 1, none⟩).getD (.int .i64 0))).toNat by
     rw [(HRD.out n).cells.2.1, c1]
     simp [intOf]; omega)
    by_cases hu : 65 ≤ s[k].toNat ∧ s[k].toNat ≤ 90
    · have HOK := zH (show wordOk s[k] = true by unfold wordOk; simp [hu.1, hu.2])
      obtain ⟨hu1, hu2⟩ := hu
      have hu3 : 65 ≤ (s[k].toNat : Int) := by omega
      have hu4 : (s[k].toNat : Int) ≤ 90 := by omega
      go_wp2
      go_quiet (fail)
      go_wp2
      go_roundw
      case rel => exact ⟨k + 1, by omega, by omega, zH (HRD.out _), zH (HFR.out _), zH (HI.out.step hlt HOK.out)⟩
      case measure => exact HME.out _
    have HTZ := zH (fun (W : World) => show Calls Tryz.prog 97 #[.string (s.extract k (k + 1)), .int .i64 0] W fun e w' => e = .returned (.bool (tailOk s[k])) ∧ w' = W by
     have h := tail_zero (s.extract k (k + 1)) W (by rw [ByteArray.size_extract]; omega)
     rw [show tailL (s.extract k (k + 1)).data.toList = tailOk s[k] by rw [cut_list, drop_at s k hlt, Nat.add_sub_cancel_left]; simp [tailL]] at h
     exact h.mono fun _ _ h => ⟨h.1, h.2.symm⟩)
    have HOO := zH (show wordOk s[k] = tailOk s[k] by
     unfold wordOk
     by_cases h : 65 ≤ s[k].toNat
     · have h' : ¬ s[k].toNat ≤ 90 := fun h' => hu ⟨h, h'⟩
       simp [h']
     simp [h])
    have hcase : (s[k].toNat : Int) < 65 ∨ 90 < (s[k].toNat : Int) := by omega
    clear hu
    cases hq : tailOk s[k]
    · rw [hq] at HTZ HOO
      have HE := zH (HI.out.stop (Or.inr ⟨hlt, HOO.out⟩))
      rcases hcase with h | h
      · have hd2 : decide (65 ≤ s[k].toNat) = false := by simp; omega
        have hd3 : decide (65 ≤ (s[k].toNat : Int)) = false := by simp; omega
        go_wp2
        go_quiet (first | (go_at_call 97; refine Calls.quiet_of_same (HTZ.out _)))
        go_wp2
        go_quiet (fail)
        go_wp2
        go_ret
        exact ⟨by rw [← HE.out.1]; rfl, (HF.out.drewN _).drewN _, by rw [← HE.out.2]; exact HR.out⟩
      have hx : 65 ≤ (s[k].toNat : Int) := by omega
      have hd2 : decide (s[k].toNat ≤ 90) = false := by simp; omega
      have hd3 : decide ((s[k].toNat : Int) ≤ 90) = false := by simp; omega
      go_wp2
      go_quiet (first | (go_at_call 97; refine Calls.quiet_of_same (HTZ.out _)))
      go_wp2
      go_quiet (fail)
      go_wp2
      go_ret
      exact ⟨by rw [← HE.out.1]; rfl, (HF.out.drewN _).drewN _, by rw [← HE.out.2]; exact HR.out⟩
    rw [hq] at HTZ HOO
    have HOK := zH HOO.out
    rcases hcase with h | h
    · have hd2 : decide (65 ≤ s[k].toNat) = false := by simp; omega
      have hd3 : decide (65 ≤ (s[k].toNat : Int)) = false := by simp; omega
      go_wp2
      go_quiet (first | (go_at_call 97; refine Calls.quiet_of_same (HTZ.out _)))
      go_wp2
      go_roundw
      case rel => exact ⟨k + 1, by omega, by omega, zH (HRD.out _), zH (HFR.out _), zH (HI.out.step hlt HOK.out)⟩
      case measure => exact HME.out _
    have hx : 65 ≤ (s[k].toNat : Int) := by omega
    have hd2 : decide (s[k].toNat ≤ 90) = false := by simp; omega
    have hd3 : decide ((s[k].toNat : Int) ≤ 90) = false := by simp; omega
    go_wp2
    go_quiet (first | (go_at_call 97; refine Calls.quiet_of_same (HTZ.out _)))
    go_wp2
    go_roundw
    case rel => exact ⟨k + 1, by omega, by omega, zH (HRD.out _), zH (HFR.out _), zH (HI.out.step hlt HOK.out)⟩
    case measure => exact HME.out _
  have HE := zH (HI.out.stop (Or.inl (by omega)))
  have hd : decide (k < s.size) = false := by simp; omega
  clear hlt
  go_wp2
  go_quiet (fail)
  go_wp2
  go_quiet (fail)
  go_wp2
  go_ret
  exact ⟨by rw [← HE.out.1]; rfl, (HF.out.drewN _).drewN _, by rw [← HE.out.2]; exact HR.out⟩
theorem sizes_snoc (l : List Ex) (k : Nat) (e : Ex) (h : l[k]? = some e) : exSizes (l.take (k + 1)) = exSizes (l.take k) + exSize e := by
 have hs : ∀ (a b : List Ex), exSizes (a ++ b) = exSizes a + exSizes b := by
  intro a
  induction a with
  | nil => intro b; simp [exSizes]
  | cons x r ih => intro b; rw [List.cons_append, exSizes, exSizes, ih]; omega
 have hk : k < l.length := (List.getElem?_eq_some_iff.1 h).1
 have he : l[k] = e := (List.getElem?_eq_some_iff.1 h).2
 rw [List.take_succ_eq_append_getElem hk, he, hs]
 simp [exSizes]
theorem sizes_take : ∀ (l : List Ex) (k : Nat), exSizes (l.take k) ≤ exSizes l := by
 intro l
 induction l with
 | nil => intro k; simp [exSizes]
 | cons x r ih =>
  intro k
  cases k with
  | zero => simp [exSizes]
  | succ k => rw [List.take_succ_cons, exSizes, exSizes]; have := ih k; omega
def SizePost (r : Int) (w : World) (e : Ending) (w' : World) : Prop := e = .returned (.int .i64 r) ∧ Below w.heap.size w w'
mutual
def exDepth : Ex → Nat
 | .mk _ _ l => exDeep l + 1
def exDeep : List Ex → Nat
 | [] => 0
 | e :: r => max (exDepth e) (exDeep r)
end
mutual
def exCalls : Ex → Nat
 | .mk k _ l => (if k = 3 then 1 else 0) + exCallsL l
def exCallsL : List Ex → Nat
 | [] => 0
 | e :: r => exCalls e + exCallsL r
end
theorem depth_size (n : Nat) : (∀ e : Ex, exSize e ≤ n → exDepth e ≤ exSize e ∧ exCalls e ≤ exSize e) ∧ (∀ l : List Ex, exSizes l ≤ n → exDeep l ≤ exSizes l ∧ exCallsL l ≤ exSizes l) := by
 induction n with
 | zero =>
  refine ⟨fun e h => by have := exSize_pos e; omega, fun l h => ?_⟩
  cases l with
  | nil => simp [exDeep, exCallsL]
  | cons e r => rw [exSizes] at h; have := exSize_pos e; omega
 | succ n ih =>
  have hE : ∀ e : Ex, exSize e ≤ n + 1 → exDepth e ≤ exSize e ∧ exCalls e ≤ exSize e := by
   intro e h
   cases e with
   | mk k s l =>
    rw [exSize] at h ⊢
    rw [exDepth, exCalls]
    have := ih.2 l (by omega)
    split <;> omega
  refine ⟨hE, ?_⟩
  intro l
  induction l with
  | nil => intro _; simp [exDeep, exCallsL]
  | cons e r ihl =>
   intro h
   rw [exSizes] at h ⊢
   rw [exDeep, exCallsL]
   have h1 := hE e (by omega)
   have h2 := ihl (by omega)
   omega
theorem deep_app : ∀ (a b : List Ex), exDeep (a ++ b) = max (exDeep a) (exDeep b) := by
 intro a
 induction a with
 | nil => intro b; simp [exDeep]
 | cons x r ih => intro b; rw [List.cons_append, exDeep, exDeep, ih]; omega
theorem take_ex (l : List Ex) (k : Nat) (e : Ex) (h : l[k]? = some e) : l.take (k + 1) = l.take k ++ [e] := by
 have hk : k < l.length := (List.getElem?_eq_some_iff.1 h).1
 rw [List.take_succ_eq_append_getElem hk, (List.getElem?_eq_some_iff.1 h).2]
theorem deep_snoc (l : List Ex) (k : Nat) (e : Ex) (h : l[k]? = some e) : exDeep (l.take (k + 1)) = max (exDeep (l.take k)) (exDepth e) := by
 rw [take_ex l k e h, deep_app]; simp [exDeep]
theorem depth_le (e : Ex) : exDepth e ≤ exSize e := ((depth_size _).1 e (nR _)).1
theorem max_any (a b : Int) (w : World) : Calls Tryz.prog 86 #[.int .i64 a, .int .i64 b] w fun e w' => e = .returned (.int .i64 (max a b)) ∧ w = w' := by
 by_cases h : b < a
 · have HM := zH (show max a b = a by omega)
   go_enter Tryz.func86, Tryz.ntmps86
   go_wp2
   go_ret
   exact ⟨by rw [HM.out]; rfl, rfl⟩
 have HM := zH (show max a b = b by omega)
 go_enter Tryz.func86, Tryz.ntmps86
 go_wp2
 go_ret
 exact ⟨by rw [HM.out]; rfl, rfl⟩
theorem depth_any (n : Nat) : ∀ (e : Ex) (v : Value) (bs : List Nat) (w : World), exSize e ≤ n → ExIs w v e bs → exSize e ≤ 1099511627776 →
 Calls Tryz.prog 64 #[v] w (SizePost (exDepth e : Int) w) := by
 induction n with
 | zero => intro e v bs w h; have := exSize_pos e; omega
 | succ n ih =>
  intro e v bs w hle hv hb
  obtain ⟨u, rfl, hsz, hu⟩ := hv
  obtain ⟨A, c, rfl, hc1, hc2, -⟩ := id hu
  have HU := zH hu
  obtain ⟨K, hK⟩ : ∃ K, K = e.kind := ⟨_, rfl⟩
  obtain ⟨S, hS⟩ : ∃ S, S = e.name := ⟨_, rfl⟩
  obtain ⟨L, hL⟩ : ∃ L, L = e.args := ⟨_, rfl⟩
  obtain ⟨m, hm⟩ : ∃ m, m = L.length := ⟨_, rfl⟩
  have HE := zH (show exSize e = exSizes L + 1 by rw [hL]; cases e; rfl)
  have HF := zH (show exDepth e = exDeep L + 1 by rw [hL]; cases e; rfl)
  rw [← hK, ← hS, ← hL, ← hm]
  rw [← hS] at hsz
  rw [← hL, ← hm] at hc1 HU
  have HM := zH hm
  have HN := zH hle
  have HBD := zH hb
  have HIH := zH ih
  clear hu hK hS hL hm hle hb ih
  have hc3 : (m : Int) ≤ 9223372036854775807 := by omega
  go_enter Tryz.func64, Tryz.ntmps64
  go_wp2_with fail
  go_loopw [3, 4] (fun t i wr => ∃ (k : Nat) (z : Int), k ≤ m ∧ i = .int .i64 (k : Int) ∧ t = .int .i64 z ∧ 0 ≤ z ∧ z ≤ 1099511627776 ∧ Hid (z = (exDeep (L.take k) : Int)) ∧ Hid (Below w.heap.size w wr) ∧ wr.heap[w.heap.size]? = some (.cells #[.int .i64 K, .string S, .slice A m c] 32 (0, 0))) (fun _ i _ => m - (intOf i).toNat)
  case atStart => exact ⟨0, 0, Nat.zero_le _, rfl, rfl, by omega, by omega, zH (by simp [exDeep]), zH ((wB _ _).alloc (nR _) _), heap_alloc_new _ _⟩
  case round =>
   obtain ⟨k, z, hk, rfl, rfl, hz0, hz1, HZ, HB, hbox⟩ := hrel
   have hc2' : wr.cell? ⟨w.heap.size, 2, none⟩ = some (.slice A m c) := by simp [World.cell?, hbox]
   have hgo := HB.out.size
   have hboxlt : w.heap.size < wr.heap.size := (Array.getElem?_eq_some_iff.1 hbox).1
   have HBOX := zH hbox
   clear hbox
   by_cases hlt : k < m
   · obtain ⟨g, o, e1, u, b1, rfl, hbl, hget, hmem, c1, c2, c3, his, -⟩ := (HU.out.below HB.out).get k (by rw [← HM.out]; exact hlt)
     have HG := zH (deep_snoc L k e1 hget)
     have hs1 : (exDepth e1 : Int) ≤ 1099511627776 := by
      have h1 := depth_le e1
      have h2 := exSizes_mem hmem
      have h3 := HE.out
      have h4 := HBD.out
      omega
     have HCALL := zH (HIH.out e1 _ b1 wr (by have := HE.out; have := exSizes_mem hmem; have := HN.out; omega) his (by have := HE.out; have := exSizes_mem hmem; have := HBD.out; omega))
     clear his hget hmem
     go_wp2_with (first
      | (go_at_call 64; refine HCALL.out.mono ?_; rintro r w1 ⟨rfl, hb1⟩; have HB1 := zH hb1; clear hb1)
      | (go_at_call 86; refine (max_any _ _ _).mono ?_; rintro r w' ⟨rfl, rfl⟩))
     go_roundw
     case rel => exact ⟨k + 1, _, by omega, by go_num, rfl, by omega, by omega, zH (by have := HZ.out; have := HG.out; omega), zH (HB.out.trans (HB1.out.mono HB.out.size)), (HB1.out.block _ hboxlt).trans HBOX.out⟩
     case measure => simp [intOf]; omega
   have HE2 := zH (show z + 1 = (exDepth e : Int) by
    have h := HZ.out
    rw [List.take_of_length_le (by rw [← HM.out]; omega)] at h
    have := HF.out
    omega)
   go_wp2_with fail
   go_ret
   exact ⟨by rw [← HE2.out]; rfl, HB.out⟩
def BitPost (b : Bool) (w : World) (e : Ending) (w' : World) : Prop := ∃ z : Int, e = .returned (.int .i64 z) ∧ w = w' ∧ 0 ≤ z ∧ z ≤ 1 ∧ z = if b then 1 else 0
theorem bit_any (b : Bool) (w : World) : Calls Tryz.prog 45 #[.bool b] w (BitPost b w) := by
 cases b
 · go_enter Tryz.func45, Tryz.ntmps45
   go_wp2
   go_ret
   exact ⟨0, rfl, rfl, by omega, by omega, rfl⟩
 go_enter Tryz.func45, Tryz.ntmps45
 go_wp2
 go_ret
 exact ⟨1, rfl, rfl, by omega, by omega, rfl⟩
end Go.Proofs.YtiaknfnhmoinpaaGreat
