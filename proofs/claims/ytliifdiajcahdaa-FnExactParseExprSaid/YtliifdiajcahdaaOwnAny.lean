/- strings.IndexAny on any string, for several characters below 128. Condition: the string has fewer than 4294967281 bytes. -/
import Derived.Test.YtliifdiajcahdaaOwnRune
namespace Go.Proofs.Ytliifdiajcahdaa
open Go Go.RowKit

def AnyPost (s C : ByteArray) (w : World) (e : Ending) (w' : World) : Prop := e = .returned (.int .i64 (Lib.indexAny s.data.toList C.data.toList)) ∧ Below w.heap.size w w'
theorem ascii_list {C : ByteArray} (hC : ∀ (j : Nat) (h : j < C.size), C[j].toNat < 128) : ∀ (j : Nat) b, C.data.toList[j]? = some b → b.toNat < 128 := by
  intro j b hb
  obtain ⟨hj, hjb⟩ := List.getElem?_eq_some_iff.1 hb
  rw [← hjb]
  exact hC j (by simpa using hj)
/-- Bytes of 128 and above are none of the characters. -/
theorem NoAny_high {s C : ByteArray} {k m : Nat} (hC : ∀ (j : Nat) (h : j < C.size), C[j].toNat < 128) (h : Lib.NoAny s.data.toList C.data.toList k) (hm : ∀ j, k ≤ j → j < m → ∃ hj : j < s.size, 128 ≤ (s[j]'hj).toNat) : Lib.NoAny s.data.toList C.data.toList m := by
  intro j b hj hb
  by_cases hk : j < k
  · exact h j b hk hb
  · obtain ⟨h1, h2⟩ := hm j (by omega) hj
    rw [Lib.data_getElem? s j h1] at hb
    obtain rfl := Option.some.inj hb
    cases hc : C.data.toList.contains s[j] with
    | false => rfl
    | true =>
      rw [List.contains_iff_mem] at hc
      obtain ⟨i, hi, hib⟩ := List.getElem_of_mem hc
      have := hC i (by simpa using hi)
      rw [show C[i]'(by simpa using hi) = s[j] from hib] at this
      omega
/-- What the loop of IndexAny holds on a short string. -/
structure Iz (s C : ByteArray) (w : World) (k : Nat) (W : World) : Prop where
  it : W.heap[w.heap.size]? = some (.stringIter s k)
  low : Below w.heap.size w W
  no : Lib.NoAny s.data.toList C.data.toList k
theorem Iz.lt {s C : ByteArray} {w W : World} {k : Nat} (h : Iz s C w k W) : w.heap.size < W.heap.size := (Array.getElem?_eq_some_iff.1 h.it).1
theorem Iz.put {s C : ByteArray} {w W W2 : World} {k k2 : Nat} (h : Iz s C w k W) (hb : Below (W.putObj w.heap.size (.stringIter s k2)).heap.size (W.putObj w.heap.size (.stringIter s k2)) W2) (hn : Lib.NoAny s.data.toList C.data.toList k2) : Iz s C w k2 W2 := by
  have h1 := put_iter W w.heap.size (.stringIter s k2) h.lt
  refine ⟨(hb.block _ (Array.getElem?_eq_some_iff.1 h1).1).trans h1, ?_, hn⟩
  have h2 : Fr [w.heap.size] W (W.putObj w.heap.size (.stringIter s k2)) := Fr.put W _ _ (by simp)
  have h3 := h.low.trans (h2.below (n := w.heap.size) (by simp) (Nat.le_of_lt h.lt))
  exact h3.trans (hb.mono h3.size)
theorem Iz.put_low {s C : ByteArray} {w W : World} {k : Nat} (h : Iz s C w k W) (k2 : Nat) : Below w.heap.size w (W.putObj w.heap.size (.stringIter s k2)) := by
  have h2 : Fr [w.heap.size] W (W.putObj w.heap.size (.stringIter s k2)) := Fr.put W _ _ (by simp)
  exact h.low.trans (h2.below (n := w.heap.size) (by simp) (Nat.le_of_lt h.lt))
theorem iter_at {W : World} {s : ByteArray} {k b : Nat} (h : W.heap[b]? = some (.stringIter s k)) : W.iterPos b = k := by
  rw [World.iterPos, h]

set_option maxRecDepth 1000000 in
set_option maxHeartbeats 8000000 in
theorem any_short (s C : ByteArray) (w : World) (h2 : 2 ≤ C.size) (h8 : s.size ≤ 8) (hC : ∀ (j : Nat) (h : j < C.size), C[j].toNat < 128) :
    Calls Try.prog 74 #[.string s, .string C] w (AnyPost s C w) := by
  have hemp : C.toList.isEmpty = false := by
    rw [Lib.toList_data]
    cases h : C.data.toList with
    | nil => have := Lib.size_eq C; rw [h, List.length_nil] at this; omega
    | cons _ _ => rfl
  have hn1 : ((C.size : Int) == 1) = false := beq_eq_false_iff_ne.2 (by omega)
  have h8z : decide ((8 : Int) < (s.size : Int)) = false := decide_eq_false (by omega)
  have HC := Lib.hid hC
  have HU := Lib.hid (fun (W : World) => Try.strings_shouldUseASCIISet (s.size : Int) W)
  have H8 := Lib.hid h8z
  clear hC h8z
  go_enter Try.func74, Try.ntmps74
  go_wp2_with (go_at_call 109; refine (HU.out _).mono ?_; rintro e w' ⟨rfl, hw⟩; rw [hw, H8.out])
  have H0 := Lib.hid (show Iz s C w 0 (w.iter s 0) from ⟨World.iter_heap _ _ _, iter_below _ _ _, Lib.NoAny.zero _ _⟩)
  go_loopw [9, 10] (fun _ _ wr => ∃ k : Nat, Hid (Iz s C w k wr)) (fun _ _ wr => s.size - wr.iterPos w.heap.size)
  case atStart => exact ⟨0, H0⟩
  case round =>
    obtain ⟨k, HZ⟩ := hrel
    by_cases hp : k < s.size
    · have hnx := fun ty => run_next_gen (P := Try.prog) wr w.heap.size s k ty HZ.out.it hp
      by_cases ha : s[k].toNat < 128
      · rw [decode_ascii s k hp ha] at hnx
        simp only [] at hnx
        have hx8 := s[k].toNat_lt
        have HX := Lib.hid (Lib.data_getElem? s k hp)
        have hcon := Lib.contains_iff_indexByte C.data.toList s[k]
        have hback : ((s[k].toNat : Int)).toNat.toUInt8 = s[k] := by simp
        have HIR := Lib.hid (fun (W : World) => Try.strings_IndexRune_ascii C (s[k].toNat : Int) W (by omega) (by omega))
        rw [hback] at HIR
        have HM : Hid (s.size - (k + 1) < s.size - k) := Lib.hid (by omega)
        cases hin : C.data.toList.contains s[k]
        · rw [hin] at hcon
          have hlt : ¬ ((0 : Int) ≤ Lib.indexByte C.data.toList s[k]) := of_decide_eq_false hcon.symm
          have HN := Lib.hid (HZ.out.no.succ HX.out hin)
          have HMM := Lib.hid (iter_at HZ.out.it)
          clear hcon hin hback ha
          generalize Lib.indexByte C.data.toList s[k] = ib at *
          generalize s[k].toNat = cc at *
          go_wp2_with (go_at_call 108; refine (HIR.out _).mono ?_; rintro e w' ⟨rfl, rfl⟩)
          have HZ2 := Lib.hid (HZ.out.put (k2 := k + 1) (Below.refl _ _) HN.out)
          go_roundw
          case rel => exact ⟨k + 1, HZ2⟩
          case measure => rw [iter_at HZ2.out.it, HMM.out]; exact HM.out
        · rw [hin] at hcon
          have hge : (0 : Int) ≤ Lib.indexByte C.data.toList s[k] := of_decide_eq_true hcon.symm
          have HE := Lib.hid (Lib.indexAny_hit HZ.out.no HX.out hin)
          clear hcon hin hback ha
          generalize Lib.indexByte C.data.toList s[k] = ib at *
          generalize s[k].toNat = cc at *
          go_wp2_with (go_at_call 108; refine (HIR.out _).mono ?_; rintro e w' ⟨rfl, rfl⟩)
          go_ret
          exact ⟨by rw [HE.out]; rfl, HZ.out.put_low _⟩
      · have ha' : 128 ≤ s[k].toNat := by omega
        have HD := decode_high s k hp ha'
        have HR := Lib.hid (fun (W : World) => rune_wide C HC.out ((Utf8.decode s k).1 : Int) W (by omega))
        have HN := Lib.hid (NoAny_high HC.out HZ.out.no (decode_span s k hp ha'))
        have hd1 : 1 ≤ (Utf8.decode s k).2 := HD.2
        have HM : Hid (s.size - (k + (Utf8.decode s k).2) < s.size - k) := Lib.hid (by omega)
        have HMM := Lib.hid (iter_at HZ.out.it)
        clear HD ha ha'
        generalize (Utf8.decode s k).1 = cc at *
        generalize (Utf8.decode s k).2 = width at *
        go_wp2_with (go_at_call 108; refine (HR.out _).mono ?_; rintro e w' ⟨rfl, hb⟩; have HZ2 := Lib.hid (HZ.out.put hb HN.out); clear hb)
        go_roundw
        case rel => exact ⟨k + width, HZ2⟩
        case measure => rw [iter_at HZ2.out.it, HMM.out]; exact HM.out
    · have hnx := fun ty => run_next_fin (P := Try.prog) wr w.heap.size s k ty HZ.out.it hp
      have HE := Lib.hid (show Lib.indexAny s.data.toList C.data.toList = -1 from Lib.indexAny_none (fun j b hj hb => HZ.out.no j b (by rw [← Lib.size_eq] at hj; omega) hb))
      go_wp2
      go_ret
      exact ⟨by rw [HE.out]; rfl, HZ.out.low⟩
theorem Try.setInfo : (Try.prog.info? 159).map (fun i => (i.zero, i.size)) = some (some (.agg (Array.replicate 256 (.bool false))), 256) := by kernel_rfl
theorem any_ascii (s C : ByteArray) (w : World) (h2 : 2 ≤ C.size) (hCs : C.size < 4294967281) (hs : s.size < 4294967281) (hC : ∀ (j : Nat) (h : j < C.size), C[j].toNat < 128) :
    Calls Try.prog 74 #[.string s, .string C] w (AnyPost s C w) := by
  by_cases h8 : s.size ≤ 8
  · exact any_short s C w h2 h8 hC
  · refine (Try.strings_IndexAny_long (zero_of_info Try.setInfo).1 s C w h2 (by omega) hs hCs (ascii_list hC)).mono fun e w' ⟨h1, h2⟩ => ⟨h1, ?_⟩
    rw [h2]
    exact ((Below.refl _ _).alloc (Nat.le_refl _) _).alloc (by simp) _
end Go.Proofs.Ytliifdiajcahdaa
