/- The contract of the model's l4Word: it takes the longest word. Condition: a text of at most 1048576 bytes. -/
import Derived.Test.YtmndlhbgacgnlaaSpecRead
namespace Go.Proofs.Ytmndlhbgacgnlaa
open Go Go.RowKit

set_option maxHeartbeats 1000000 in
theorem tail_zero (s : ByteArray) (w : World) (hs : s.size ≤ 1048576) :
    Calls Try.prog 153 #[.string s, .int .i64 0] w fun e w' => e = .returned (.bool (tailL s.data.toList)) ∧ w = w' := by
  go_enter Try.func153, Try.ntmps153
  go_wp2
  go_loop [5] (fun i => ∃ k : Nat, k ≤ s.size ∧ i = .int .i64 (k : Int) ∧ Hid (tailL s.data.toList = tailL (s.data.toList.drop k))) (fun i => s.size - (intOf i).toNat)
  case atStart => exact ⟨0, Nat.zero_le _, rfl, Lib.hid rfl⟩
  case round =>
    obtain ⟨k, hk, rfl, HK⟩ := hrel
    by_cases hlt : k < s.size
    · have HD := Lib.hid (drop_at s k hlt)
      have hc : 0 ≤ (s[k].toNat : Int) ∧ (s[k].toNat : Int) ≤ 255 := by have := s[k].toNat_lt; omega
      by_cases ha : 97 ≤ (s[k].toNat : Int) ∧ (s[k].toNat : Int) ≤ 122
      · obtain ⟨ha1, ha2⟩ := ha
        have HT := Lib.hid (tail_step _ k _ HD.out (tail_yes (Or.inl ⟨by omega, by omega⟩)))
        go_wp2
        go_round
        case rel => exact ⟨k + 1, by omega, by go_num, Lib.hid (HK.out.trans HT.out)⟩
        case measure => simp [intOf]; omega
      · by_cases hb : 48 ≤ (s[k].toNat : Int) ∧ (s[k].toNat : Int) ≤ 57
        · obtain ⟨hb1, hb2⟩ := hb
          have HT := Lib.hid (tail_step _ k _ HD.out (tail_yes (Or.inr ⟨by omega, by omega⟩)))
          clear ha
          go_wp2
          go_round
          case rel => exact ⟨k + 1, by omega, by go_num, Lib.hid (HK.out.trans HT.out)⟩
          case measure => simp [intOf]; omega
        · have hcase : (s[k].toNat : Int) < 48 ∨ (57 < (s[k].toNat : Int) ∧ (s[k].toNat : Int) < 97) ∨ 122 < (s[k].toNat : Int) := by omega
          have HT := Lib.hid (tail_stop _ k _ HD.out (tail_not (by omega)))
          clear ha hb
          rcases hcase with h | ⟨h, h'⟩ | h
          · go_wp2
            go_ret
            exact ⟨by rw [HK.out, HT.out]; rfl, rfl⟩
          · have hd : decide ((s[k].toNat : Int) ≤ 57) = false := by simp; omega
            go_wp2
            go_ret
            exact ⟨by rw [HK.out, HT.out]; rfl, rfl⟩
          · have hd : decide ((s[k].toNat : Int) ≤ 57) = false := by simp; omega
            have hd2 : decide ((s[k].toNat : Int) ≤ 122) = false := by simp; omega
            go_wp2
            go_ret
            exact ⟨by rw [HK.out, HT.out]; rfl, rfl⟩
    · have HE := Lib.hid (show tailL (s.data.toList.drop k) = true by rw [List.drop_eq_nil_of_le (by rw [sizeN]; omega)]; rfl)
      go_wp2
      go_ret
      exact ⟨by rw [HK.out, HE.out]; rfl, rfl⟩

/-- The bytes of words. -/
def wordOk (c : UInt8) : Bool := (decide (65 ≤ c.toNat) && decide (c.toNat ≤ 90)) || tailOk c
def wordL (l : List UInt8) : List UInt8 := l.takeWhile wordOk
theorem word_no {c : UInt8} {r : List UInt8} (h : wordOk c = false) : wordL (c :: r) = [] := by simp [wordL, h]
theorem word_yes {c : UInt8} {r : List UInt8} (h : wordOk c = true) : wordL (c :: r) = c :: wordL r := by simp [wordL, h]
def WInv (s : ByteArray) (a k : Nat) : Prop := a ≤ k ∧ k ≤ s.size ∧ wordL (s.data.toList.drop a) = (s.data.toList.drop a).take (k - a) ++ wordL (s.data.toList.drop k)
theorem WInv.step {s : ByteArray} {a k : Nat} (h : WInv s a k) (hk : k < s.size) (hc : wordOk s[k] = true) : WInv s a (k + 1) := by
  obtain ⟨h1, h2, h3⟩ := h
  refine ⟨by omega, by omega, ?_⟩
  rw [h3, drop_at s k hk, word_yes hc]
  have e : k + 1 - a = (k - a) + 1 := by omega
  have hl : k - a < (s.data.toList.drop a).length := by rw [List.length_drop, sizeN]; omega
  have e2 : (s.data.toList.drop a)[k - a]'hl = s[k] := by
    rw [List.getElem_drop]
    simp only [Nat.add_sub_cancel' h1]
    rfl
  rw [e, List.take_succ_eq_append_getElem hl, e2, List.append_assoc]
  rfl
theorem WInv.stop {s : ByteArray} {a k : Nat} (h : WInv s a k) (hk : k = s.size ∨ ∃ hk : k < s.size, wordOk s[k] = false) :
    s.extract a k = ⟨(wordL (s.data.toList.drop a)).toArray⟩ ∧ k = a + (wordL (s.data.toList.drop a)).length := by
  obtain ⟨h1, h2, h3⟩ := h
  have e : wordL (s.data.toList.drop k) = [] := by
    rcases hk with rfl | ⟨hk, hc⟩
    · rw [List.drop_eq_nil_of_le (by rw [sizeN]; omega)]; rfl
    · rw [drop_at s k hk, word_no hc]
  rw [e, List.append_nil] at h3
  rw [h3]
  refine ⟨?_, ?_⟩
  · apply ByteArray.ext
    apply Array.toList_inj.1
    rw [cut_list]
  · rw [List.length_take, List.length_drop, sizeN]; omega
def WordPost (R : Nat) (s : ByteArray) (a : Nat) (b : Bool) (w : World) (e : Ending) (w2 : World) : Prop :=
  e = .returned (.string ⟨(wordL (s.data.toList.drop a)).toArray⟩) ∧ Fr [R] w w2 ∧ Rd w2 R s (a + (wordL (s.data.toList.drop a)).length) b

set_option maxHeartbeats 4000000 in
theorem word_any (R : Nat) (s : ByteArray) (a : Nat) (b : Bool) (w : World) (h : Rd w R s a b) (ha : a ≤ s.size) (hs : s.size ≤ 1048576) :
    Calls Try.prog 122 #[.pointer (some ⟨R, 0, none⟩)] w (WordPost R s a b w) := by
  obtain ⟨c0, c1, c2, hR⟩ := h.cells
  have HR := Lib.hid h
  have HI0 := Lib.hid (show WInv s a a from ⟨Nat.le_refl _, ha, by simp⟩)
  clear h
  go_enter Try.func122, Try.ntmps122
  go_wp2
  go_loopw [58] (fun _ wr => ∃ (k : Nat), k ≤ s.size ∧ a ≤ k ∧ Hid (Rd wr R s k b) ∧ Hid (Fr [R] w wr) ∧ Hid (WInv s a k)) (fun _ wr => s.size - (intOf ((wr.cell? ⟨R, 1, none⟩).getD (.int .i64 0))).toNat)
  case atStart => exact ⟨a, ha, Nat.le_refl _, HR, Lib.hid (Fr.refl _ _), HI0⟩
  case round =>
    clear c0 c1 c2 hR HR HI0
    obtain ⟨k, hk, hak, HR, HF, HI⟩ := hrel
    obtain ⟨c0, c1, c2, hR⟩ := HR.out.cells
    have hf := HR.out.thaw 1
    have h0 : 0 ≤ (k : Int) := by omega
    have h2 : IntKind.i64.wrap ((k : Int) + 1) = (k : Int) + 1 := IntWalk.i64_in _ (by omega)
    have h00 : 0 ≤ (a : Int) := by omega
    have h01 : (a : Int) ≤ (k : Int) := by omega
    have h02 : (k : Int) ≤ (s.size : Int) := by omega
    by_cases hlt : k < s.size
    · have hc : 0 ≤ (s[k].toNat : Int) ∧ (s[k].toNat : Int) ≤ 255 := by have := s[k].toNat_lt; omega
      have hl1 : (k : Int) < (s.size : Int) := by omega
      have hl2 : (k : Int) + 1 ≤ (s.size : Int) := by omega
      have HRD := Lib.hid (fun (n : Nat) => HR.out.move n)
      have HFR := Lib.hid (fun (n : Nat) => show Fr [R] w ((wr.drewN n).setCell ⟨R, 1, none⟩ (.int .i64 ((k : Int) + 1))) from (HF.out.drewN n).trans (Fr.set (S := [R]) _ _ _ (by simp)) (by simp))
      have HME := Lib.hid (fun (n : Nat) => show s.size - (intOf ((((wr.drewN n).setCell ⟨R, 1, none⟩ (.int .i64 ((k : Int) + 1))).cell? ⟨R, 1, none⟩).getD (.int .i64 0))).toNat < s.size - (intOf ((wr.cell? ⟨R, 1, none⟩).getD (.int .i64 0))).toNat by
        rw [(HRD.out n).cells.2.1, c1]
        simp [intOf]; omega)
      by_cases hu : 65 ≤ s[k].toNat ∧ s[k].toNat ≤ 90
      · have HOK := Lib.hid (show wordOk s[k] = true by unfold wordOk; simp [hu.1, hu.2])
        obtain ⟨hu1, hu2⟩ := hu
        have hu3 : 65 ≤ (s[k].toNat : Int) := by omega
        have hu4 : (s[k].toNat : Int) ≤ 90 := by omega
        go_wp2
        go_quiet (fail)
        go_wp2
        go_roundw
        case rel => exact ⟨k + 1, by omega, by omega, Lib.hid (HRD.out _), Lib.hid (HFR.out _), Lib.hid (HI.out.step hlt HOK.out)⟩
        case measure => exact HME.out _
      · have HTZ := Lib.hid (fun (W : World) => show Calls Try.prog 153 #[.string (s.extract k (k + 1)), .int .i64 0] W fun e w' => e = .returned (.bool (tailOk s[k])) ∧ w' = W by
          have h := tail_zero (s.extract k (k + 1)) W (by rw [ByteArray.size_extract]; omega)
          rw [show tailL (s.extract k (k + 1)).data.toList = tailOk s[k] by rw [cut_list, drop_at s k hlt, Nat.add_sub_cancel_left]; simp [tailL]] at h
          exact h.mono fun _ _ h => ⟨h.1, h.2.symm⟩)
        have HOO := Lib.hid (show wordOk s[k] = tailOk s[k] by
          unfold wordOk
          by_cases h : 65 ≤ s[k].toNat
          · have h' : ¬ s[k].toNat ≤ 90 := fun h' => hu ⟨h, h'⟩
            simp [h']
          · simp [h])
        have hcase : (s[k].toNat : Int) < 65 ∨ 90 < (s[k].toNat : Int) := by omega
        clear hu
        cases hq : tailOk s[k]
        · rw [hq] at HTZ HOO
          have HE := Lib.hid (HI.out.stop (Or.inr ⟨hlt, HOO.out⟩))
          rcases hcase with h | h
          · have hd2 : decide (65 ≤ s[k].toNat) = false := by simp; omega
            have hd3 : decide (65 ≤ (s[k].toNat : Int)) = false := by simp; omega
            go_wp2
            go_quiet (first | (go_at_call 153; refine Calls.quiet_of_same (HTZ.out _)))
            go_wp2
            go_quiet (fail)
            go_wp2
            go_ret
            exact ⟨by rw [← HE.out.1]; rfl, (HF.out.drewN _).drewN _, by rw [← HE.out.2]; exact HR.out⟩
          · have hx : 65 ≤ (s[k].toNat : Int) := by omega
            have hd2 : decide (s[k].toNat ≤ 90) = false := by simp; omega
            have hd3 : decide ((s[k].toNat : Int) ≤ 90) = false := by simp; omega
            go_wp2
            go_quiet (first | (go_at_call 153; refine Calls.quiet_of_same (HTZ.out _)))
            go_wp2
            go_quiet (fail)
            go_wp2
            go_ret
            exact ⟨by rw [← HE.out.1]; rfl, (HF.out.drewN _).drewN _, by rw [← HE.out.2]; exact HR.out⟩
        · rw [hq] at HTZ HOO
          have HOK := Lib.hid HOO.out
          rcases hcase with h | h
          · have hd2 : decide (65 ≤ s[k].toNat) = false := by simp; omega
            have hd3 : decide (65 ≤ (s[k].toNat : Int)) = false := by simp; omega
            go_wp2
            go_quiet (first | (go_at_call 153; refine Calls.quiet_of_same (HTZ.out _)))
            go_wp2
            go_roundw
            case rel => exact ⟨k + 1, by omega, by omega, Lib.hid (HRD.out _), Lib.hid (HFR.out _), Lib.hid (HI.out.step hlt HOK.out)⟩
            case measure => exact HME.out _
          · have hx : 65 ≤ (s[k].toNat : Int) := by omega
            have hd2 : decide (s[k].toNat ≤ 90) = false := by simp; omega
            have hd3 : decide ((s[k].toNat : Int) ≤ 90) = false := by simp; omega
            go_wp2
            go_quiet (first | (go_at_call 153; refine Calls.quiet_of_same (HTZ.out _)))
            go_wp2
            go_roundw
            case rel => exact ⟨k + 1, by omega, by omega, Lib.hid (HRD.out _), Lib.hid (HFR.out _), Lib.hid (HI.out.step hlt HOK.out)⟩
            case measure => exact HME.out _
    · have HE := Lib.hid (HI.out.stop (Or.inl (by omega)))
      have hd : decide (k < s.size) = false := by simp; omega
      clear hlt
      go_wp2
      go_quiet (fail)
      go_wp2
      go_quiet (fail)
      go_wp2
      go_ret
      exact ⟨by rw [← HE.out.1]; rfl, (HF.out.drewN _).drewN _, by rw [← HE.out.2]; exact HR.out⟩
end Go.Proofs.Ytmndlhbgacgnlaa
