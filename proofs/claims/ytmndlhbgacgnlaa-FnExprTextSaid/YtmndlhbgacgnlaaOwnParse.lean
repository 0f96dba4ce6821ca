/- strings.IndexRune finds no rune of 128 and above in a string of bytes below 128. Condition: the string has at most 1048576 bytes. strings.IndexAny on any string, for several characters below 128. Condition: the string has fewer than 4294967281 bytes. The contracts of the program's own take, word and nodeOfWord (the parser of expressions). Condition: a text of at most 1048576 bytes. What the program's parser has to find: the expressions whose texts stand at a place. No condition. The contract of the program's own args (the parser of expressions), from that of its expr. Condition: a text of at most 1048576 bytes. The contract of the program's own expr (the parser of expressions). Condition: a text of at most 1048576 bytes. The contract of the program's own ParseExpr. Condition: a text of at most 1048576 bytes. -/
import Derived.Test.YtmndlhbgacgnlaaShelf
import Derived.Test.YtmndlhbgacgnlaaOwnIsName
import Derived.Test.YtmndlhbgacgnlaaFrame
import Derived.Laws.Runes
import Derived.WalkMore
import Derived.BigQuiet
import Derived.Test.YtmndlhbgacgnlaaSpecNode
import Derived.Test.YtmndlhbgacgnlaaGramAll
import Derived.Test.YtmndlhbgacgnlaaOwnJoin
import Derived.Test.YtmndlhbgacgnlaaParseOk
import Derived.Laws.EntriesVeiled
namespace Go.Proofs.Ytmndlhbgacgnlaa
open Go Go.RowKit

def NotThere (w : World) (e : Ending) (w' : World) : Prop := e = .returned (.int .i64 (-1)) ∧ Below w.heap.size w w'

set_option maxRecDepth 1000000 in
set_option maxHeartbeats 2000000 in
theorem rune_error (C : ByteArray) (hC : ∀ (j : Nat) (h : j < C.size), C[j].toNat < 128) (w : World) :
    Calls Try.prog 149 #[.string C, .int .i32 65533] w (NotThere w) := by
  have HC := Lib.hid hC
  clear hC
  go_enter Try.func149, Try.ntmps149
  go_wp2
  go_loopw [5, 6] (fun _ _ wr => ∃ k : Nat, k ≤ C.size ∧ wr = w.iter C k) (fun _ _ wr => C.size - wr.iterPos w.heap.size)
  case atStart => exact ⟨0, Nat.zero_le _, rfl⟩
  case round =>
    obtain ⟨k, hk, rfl⟩ := hrel
    by_cases hp : k < C.size
    · have hnx := fun ty => run_next_ascii (P := Try.prog) w C k ty hp (HC.out k hp)
      have hz : ((C[k].toNat : Int) == 65533) = false := by have := HC.out k hp; simp; omega
      generalize C[k].toNat = c at *
      go_wp2
      go_roundw
      case rel => exact ⟨k + 1, by omega, rfl⟩
      case measure => simp; omega
    · have hnx := fun ty => run_next_end (P := Try.prog) w C k ty hp
      go_wp2
      go_ret
      exact ⟨rfl, iter_below _ _ _⟩

set_option maxRecDepth 1000000 in
set_option maxHeartbeats 2000000 in
theorem rune_bad (C : ByteArray) (r : Int) (w : World) (h0 : 128 ≤ r) (h1 : (r == 65533) = false) (h2 : Lib.validRune r = false) :
    Calls Try.prog 149 #[.string C, .int .i32 r] w (NotThere w) := by
  have HV := Lib.hid (Try.utf8_ValidRune r w)
  have HV2 := Lib.hid h2
  clear h2
  go_enter Try.func149, Try.ntmps149
  go_wp2_with (go_at_call 169; refine HV.out.mono ?_; rintro e w' ⟨rfl, hw⟩; rw [hw, HV2.out])
  go_ret
  exact ⟨rfl, Below.refl _ _⟩

theorem quiet_more {P : Program} {f : FuncId} {args : Array Value} {w : World} {a n : Nat} {v : Value}
    (h : Calls P f args (w.drewN (a + n)) fun e w' => e = .returned v ∧ w' = w.drewN (a + n)) : Calls P f args (w.drewN (a + n)) fun e w'' => e = .returned v ∧ ∃ m, w'' = w.drewN (a + m) :=
  h.mono fun _ _ ⟨he, hm⟩ => ⟨he, n, hm⟩
theorem drewN_below (w : World) (n : Nat) : Below w.heap.size w (w.drewN n) := ⟨rfl, rfl, rfl, Nat.le_refl _, fun _ _ => rfl⟩
/-- A byte that is not among those of a string. -/
theorem byte_none {l : List UInt8} {c : UInt8} (h : ∀ b ∈ l, b ≠ c) : Lib.indexByte l c = -1 := by
  induction l with
  | nil => rfl
  | cons b l ih =>
    rw [Lib.indexByte, ih (fun x hx => h x (List.mem_cons_of_mem _ hx))]
    have := h b (List.mem_cons_self ..)
    simp [this]
set_option maxRecDepth 1000000 in
set_option maxHeartbeats 2000000 in
theorem rune_good (C : ByteArray) (hC : ∀ (j : Nat) (h : j < C.size), C[j].toNat < 128) (r : Int) (w : World) (h0 : 128 ≤ r) (h1 : (r == 65533) = false) (h2 : Lib.validRune r = true) :
    Calls Try.prog 149 #[.string C, .int .i32 r] w (NotThere w) := by
  have HV := Lib.hid (Try.utf8_ValidRune r w)
  have HV2 := Lib.hid h2
  obtain ⟨e1, e2, e3⟩ := encode_facts r (by rw [validRune_eq]; exact h2) h0
  clear h2
  have hcv : (convert 21 9 (.int .i32 r)).run Try.prog w = .ok (.string (Utf8.encode r)) w := run_convert_int_string w 21 9 .i32 r (by rw [Try.underlying21]; rfl) Try.underlying9
  generalize Utf8.encode r = E at *
  obtain ⟨L, hL⟩ : ∃ L, L = E.size - 1 := ⟨_, rfl⟩
  have hLE : L < E.size := by omega
  have hL1 : 1 ≤ L := by omega
  have hL3 : L ≤ 3 := by omega
  have hE := e3 (by omega)
  have hEL : IntKind.i64.wrap ((E.size : Int) - 1) = (L : Int) := by rw [show (E.size : Int) - 1 = (L : Int) by omega]; exact IntWalk.i64_in _ (by omega)
  have hE2 : 128 ≤ (E[L]'hLE).toNat := by simpa only [← hL] using hE
  have HIB := Lib.hid (fun (a b : Nat) (W : World) => show Calls Try.prog 168 #[.string (C.extract a b), .int .u8 ((E[L]'hLE).toNat : Int)] W (fun e w' => e = .returned (.int .i64 (-1)) ∧ w' = W) by
    have h := Try.strings_IndexByte (C.extract a b) ((E[L]'hLE).toNat : Int) W
    rw [byte_none (fun x hx he => by
      have hm := mem_extract hx
      obtain ⟨j, hj, hjx⟩ := List.getElem_of_mem hm
      have h3 := hC j (by simpa using hj)
      rw [show C[j]'(by simpa using hj) = x from hjx, he] at h3
      simp at h3
      omega)] at h
    exact h)
  have HNE := Lib.hid (fun (h : L < C.size) => show (((C[L]'h).toNat : Int) != ((E[L]'hLE).toNat : Int)) = true by
    have := hC L h
    simp
    omega)
  clear e1 e2 e3 hE hE2 hC hL
  go_enter Try.func149, Try.ntmps149
  go_wp2_with (go_at_call 169; refine HV.out.mono ?_; rintro e w' ⟨rfl, hw⟩; rw [hw, HV2.out])
  go_step3
  go_wp2
  go_loopw [9, 10] (fun a b wr => a = .int .i64 (L : Int) ∧ b = .int .i64 0 ∧ wr = w) (fun _ _ _ => 0)
  case atStart => exact ⟨rfl, rfl, rfl⟩
  case round =>
    obtain ⟨rfl, rfl, rfl⟩ := hrel
    by_cases hlt : L < C.size
    · have hlz : (L : Int) < (C.size : Int) := by omega
      have hne := HNE.out hlt
      have hl0 : (0 : Int) ≤ (L : Int) := by omega
      have hle : (L : Int) < (E.size : Int) := by omega
      obtain ⟨q, hq⟩ : ∃ q : Int, q = (L : Int) + 1 := ⟨_, rfl⟩
      have hl1w : IntKind.i64.wrap ((L : Int) + 1) = q := by rw [hq]; exact IntWalk.i64_in _ (by omega)
      have hl2 : q ≤ (C.size : Int) := by omega
      have hl3 : 0 ≤ q := by omega
      clear hq
      go_wp2
      go_step3
      go_wp2
      go_quiet (fail)
      go_wp2
      go_quiet (first | (go_at_call 168; refine quiet_more (HIB.out _ _ _)))
      go_wp2
      first | (rw [Exit.noGoto_ret]; go_ret) | go_ret
      exact ⟨rfl, drewN_below _ _⟩
    · have hlz : ¬ (L : Int) < (C.size : Int) := by omega
      go_wp2
      first | (rw [Exit.noGoto_ret]; go_ret) | go_ret
      exact ⟨rfl, Below.refl _ _⟩
theorem rune_wide (C : ByteArray) (hC : ∀ (j : Nat) (h : j < C.size), C[j].toNat < 128) (r : Int) (w : World) (h0 : 128 ≤ r) :
    Calls Try.prog 149 #[.string C, .int .i32 r] w (NotThere w) := by
  by_cases h1 : r = 65533
  · subst h1; exact rune_error C hC w
  · have h1' : (r == 65533) = false := by simpa using h1
    cases h2 : Lib.validRune r
    · exact rune_bad C r w h0 h1' h2
    · exact rune_good C hC r w h0 h1' h2

/-- A step of an iterator over a string that lies wherever. -/
theorem run_next_gen {P : Program} (W : World) (b : Nat) (s : ByteArray) (pos : Nat) (ty : TypeId) (hb : W.heap[b]? = some (.stringIter s pos)) (h : pos < s.size) :
    (Instr.next (.pointer (some ⟨b, 0, none⟩)) true ty).run P W = .ok (.tuple #[.bool true, .int .i64 pos, .int .i32 (Utf8.decode s pos).1]) (W.putObj b (.stringIter s (pos + (Utf8.decode s pos).2))) := by
  simp only [Instr.next, getObj, setObj, Sem.run_bind, Sem.run, hb, Result.andThen, h, if_true]
  simp [goInt, World.putObj]
theorem run_next_fin {P : Program} (W : World) (b : Nat) (s : ByteArray) (pos : Nat) (ty : TypeId) (hb : W.heap[b]? = some (.stringIter s pos)) (h : ¬ pos < s.size) :
    (Instr.next (.pointer (some ⟨b, 0, none⟩)) true ty).run P W = .ok (.tuple #[.bool false]) W := by
  simp [Instr.next, getObj, Sem.run, hb, h]
theorem put_iter (W : World) (b : Nat) (o : Obj) (h : b < W.heap.size) : (W.putObj b o).heap[b]? = some o := by
  simp [World.putObj, h]

theorem get_in (s : ByteArray) (j : Nat) (h : j < s.size) : s.get! j = s[j]'h := by
  simp [ByteArray.get!, getElem!_pos, h]
  rfl
/-- The bytes of a rune that is not ASCII are all 128 and above, and lie within the string. -/
theorem decode_span (s : ByteArray) (pos : Nat) (h : pos < s.size) (ha : 128 ≤ (s[pos]'h).toNat) : ∀ j, pos ≤ j → j < pos + (Utf8.decode s pos).2 → ∃ hj : j < s.size, 128 ≤ (s[j]'hj).toNat := by
  have hn : ¬ (s[pos]'h).toNat < 128 := by omega
  have hc : ∀ k, (decide (pos + k < s.size) && ((s.get! (pos + k)).toNat / 64 == 2)) = true → ∃ hj : pos + k < s.size, 128 ≤ (s[pos + k]'hj).toNat := by
    intro k hk
    rw [Bool.and_eq_true] at hk
    have h1 := of_decide_eq_true hk.1
    refine ⟨h1, ?_⟩
    have h2 := beq_iff_eq.1 hk.2
    rw [get_in s _ h1] at h2
    omega
  have h0 : ∃ hj : pos < s.size, 128 ≤ (s[pos]'hj).toNat := ⟨h, ha⟩
  intro j hj1 hj2
  simp only [Utf8.decode, get_at s pos h, hn, if_false] at hj2
  have one : j < pos + 1 → ∃ hj : j < s.size, 128 ≤ (s[j]'hj).toNat := fun hh => by
    obtain rfl : j = pos := by omega
    exact h0
  split at hj2
  · rename_i hh
    have c1 := hc 1 ((Bool.and_eq_true _ _).mp hh).2
    split at hj2
    · by_cases e : j = pos + 1
      · subst e; exact c1
      · exact one (by simp only [] at hj2; omega)
    · exact one hj2
  · split at hj2
    · rename_i hh
      rw [Bool.and_eq_true, Bool.and_eq_true] at hh
      have c1 := hc 1 hh.1.2
      have c2 := hc 2 hh.2
      split at hj2
      · by_cases e : j = pos + 1
        · subst e; exact c1
        · by_cases e : j = pos + 2
          · subst e; exact c2
          · exact one (by simp only [] at hj2; omega)
      · exact one hj2
    · split at hj2
      · rename_i hh
        rw [Bool.and_eq_true, Bool.and_eq_true, Bool.and_eq_true] at hh
        have c1 := hc 1 hh.1.1.2
        have c2 := hc 2 hh.1.2
        have c3 := hc 3 hh.2
        split at hj2
        · by_cases e : j = pos + 1
          · subst e; exact c1
          · by_cases e : j = pos + 2
            · subst e; exact c2
            · by_cases e : j = pos + 3
              · subst e; exact c3
              · exact one (by simp only [] at hj2; omega)
        · exact one hj2
      · exact one hj2
end Go.Proofs.Ytmndlhbgacgnlaa

namespace Go.Proofs.Ytmndlhbgacgnlaa
open Go Go.RowKit

def AnyPost (s C : ByteArray) (w : World) (e : Ending) (w' : World) : Prop := e = .returned (.int .i64 (Lib.indexAny s.data.toList C.data.toList)) ∧ Below w.heap.size w w'
theorem ascii_list {C : ByteArray} (hC : ∀ (j : Nat) (h : j < C.size), C[j].toNat < 128) : ∀ (j : Nat) b, C.data.toList[j]? = some b → b.toNat < 128 := by
  intro j b hb
  obtain ⟨hj, hjb⟩ := List.getElem?_eq_some_iff.1 hb
  rw [← hjb]
  exact hC j (by simpa using hj)
/-- Bytes of 128 and above are none of the characters. -/
theorem NoAny_high {s C : ByteArray} {k m : Nat} (hC : ∀ (j : Nat) (h : j < C.size), C[j].toNat < 128) (h : Lib.NoAny s.data.toList C.data.toList k) (hm : ∀ j, k ≤ j → j < m → ∃ hj : j < s.size, 128 ≤ (s[j]'hj).toNat) : Lib.NoAny s.data.toList C.data.toList m := by
  intro j b hj hb
  by_cases hk : j < k
  · exact h j b hk hb
  · obtain ⟨h1, h2⟩ := hm j (by omega) hj
    rw [Lib.data_getElem? s j h1] at hb
    obtain rfl := Option.some.inj hb
    cases hc : C.data.toList.contains s[j] with
    | false => rfl
    | true =>
      rw [List.contains_iff_mem] at hc
      obtain ⟨i, hi, hib⟩ := List.getElem_of_mem hc
      have := hC i (by simpa using hi)
      rw [show C[i]'(by simpa using hi) = s[j] from hib] at this
      omega
/-- What the loop of IndexAny holds on a short string. -/
structure Iz (s C : ByteArray) (w : World) (k : Nat) (W : World) : Prop where
  it : W.heap[w.heap.size]? = some (.stringIter s k)
  low : Below w.heap.size w W
  no : Lib.NoAny s.data.toList C.data.toList k
theorem Iz.lt {s C : ByteArray} {w W : World} {k : Nat} (h : Iz s C w k W) : w.heap.size < W.heap.size := (Array.getElem?_eq_some_iff.1 h.it).1
theorem Iz.put {s C : ByteArray} {w W W2 : World} {k k2 : Nat} (h : Iz s C w k W) (hb : Below (W.putObj w.heap.size (.stringIter s k2)).heap.size (W.putObj w.heap.size (.stringIter s k2)) W2) (hn : Lib.NoAny s.data.toList C.data.toList k2) : Iz s C w k2 W2 := by
  have h1 := put_iter W w.heap.size (.stringIter s k2) h.lt
  refine ⟨(hb.block _ (Array.getElem?_eq_some_iff.1 h1).1).trans h1, ?_, hn⟩
  have h2 : Fr [w.heap.size] W (W.putObj w.heap.size (.stringIter s k2)) := Fr.put W _ _ (by simp)
  have h3 := h.low.trans (h2.below (n := w.heap.size) (by simp) (Nat.le_of_lt h.lt))
  exact h3.trans (hb.mono h3.size)
theorem Iz.put_low {s C : ByteArray} {w W : World} {k : Nat} (h : Iz s C w k W) (k2 : Nat) : Below w.heap.size w (W.putObj w.heap.size (.stringIter s k2)) := by
  have h2 : Fr [w.heap.size] W (W.putObj w.heap.size (.stringIter s k2)) := Fr.put W _ _ (by simp)
  exact h.low.trans (h2.below (n := w.heap.size) (by simp) (Nat.le_of_lt h.lt))
theorem iter_at {W : World} {s : ByteArray} {k b : Nat} (h : W.heap[b]? = some (.stringIter s k)) : W.iterPos b = k := by
  rw [World.iterPos, h]

set_option maxRecDepth 1000000 in
set_option maxHeartbeats 8000000 in
theorem any_short (s C : ByteArray) (w : World) (h2 : 2 ≤ C.size) (h8 : s.size ≤ 8) (hC : ∀ (j : Nat) (h : j < C.size), C[j].toNat < 128) :
    Calls Try.prog 116 #[.string s, .string C] w (AnyPost s C w) := by
  have hemp : C.toList.isEmpty = false := by
    rw [Lib.toList_data]
    cases h : C.data.toList with
    | nil => have := Lib.size_eq C; rw [h, List.length_nil] at this; omega
    | cons _ _ => rfl
  have hn1 : ((C.size : Int) == 1) = false := beq_eq_false_iff_ne.2 (by omega)
  have h8z : decide ((8 : Int) < (s.size : Int)) = false := decide_eq_false (by omega)
  have HC := Lib.hid hC
  have HU := Lib.hid (fun (W : World) => Try.strings_shouldUseASCIISet (s.size : Int) W)
  have H8 := Lib.hid h8z
  clear hC h8z
  go_enter Try.func116, Try.ntmps116
  go_wp2_with (go_at_call 150; refine (HU.out _).mono ?_; rintro e w' ⟨rfl, hw⟩; rw [hw, H8.out])
  have H0 := Lib.hid (show Iz s C w 0 (w.iter s 0) from ⟨World.iter_heap _ _ _, iter_below _ _ _, Lib.NoAny.zero _ _⟩)
  go_loopw [9, 10] (fun _ _ wr => ∃ k : Nat, Hid (Iz s C w k wr)) (fun _ _ wr => s.size - wr.iterPos w.heap.size)
  case atStart => exact ⟨0, H0⟩
  case round =>
    obtain ⟨k, HZ⟩ := hrel
    by_cases hp : k < s.size
    · have hnx := fun ty => run_next_gen (P := Try.prog) wr w.heap.size s k ty HZ.out.it hp
      by_cases ha : s[k].toNat < 128
      · rw [decode_ascii s k hp ha] at hnx
        simp only [] at hnx
        have hx8 := s[k].toNat_lt
        have HX := Lib.hid (Lib.data_getElem? s k hp)
        have hcon := Lib.contains_iff_indexByte C.data.toList s[k]
        have hback : ((s[k].toNat : Int)).toNat.toUInt8 = s[k] := by simp
        have HIR := Lib.hid (fun (W : World) => Try.strings_IndexRune_ascii C (s[k].toNat : Int) W (by omega) (by omega))
        rw [hback] at HIR
        have HM : Hid (s.size - (k + 1) < s.size - k) := Lib.hid (by omega)
        cases hin : C.data.toList.contains s[k]
        · rw [hin] at hcon
          have hlt : ¬ ((0 : Int) ≤ Lib.indexByte C.data.toList s[k]) := of_decide_eq_false hcon.symm
          have HN := Lib.hid (HZ.out.no.succ HX.out hin)
          have HMM := Lib.hid (iter_at HZ.out.it)
          clear hcon hin hback ha
          generalize Lib.indexByte C.data.toList s[k] = ib at *
          generalize s[k].toNat = cc at *
          go_wp2_with (go_at_call 149; refine (HIR.out _).mono ?_; rintro e w' ⟨rfl, rfl⟩)
          have HZ2 := Lib.hid (HZ.out.put (k2 := k + 1) (Below.refl _ _) HN.out)
          go_roundw
          case rel => exact ⟨k + 1, HZ2⟩
          case measure => rw [iter_at HZ2.out.it, HMM.out]; exact HM.out
        · rw [hin] at hcon
          have hge : (0 : Int) ≤ Lib.indexByte C.data.toList s[k] := of_decide_eq_true hcon.symm
          have HE := Lib.hid (Lib.indexAny_hit HZ.out.no HX.out hin)
          clear hcon hin hback ha
          generalize Lib.indexByte C.data.toList s[k] = ib at *
          generalize s[k].toNat = cc at *
          go_wp2_with (go_at_call 149; refine (HIR.out _).mono ?_; rintro e w' ⟨rfl, rfl⟩)
          go_ret
          exact ⟨by rw [HE.out]; rfl, HZ.out.put_low _⟩
      · have ha' : 128 ≤ s[k].toNat := by omega
        have HD := decode_high s k hp ha'
        have HR := Lib.hid (fun (W : World) => rune_wide C HC.out ((Utf8.decode s k).1 : Int) W (by omega))
        have HN := Lib.hid (NoAny_high HC.out HZ.out.no (decode_span s k hp ha'))
        have hd1 : 1 ≤ (Utf8.decode s k).2 := HD.2
        have HM : Hid (s.size - (k + (Utf8.decode s k).2) < s.size - k) := Lib.hid (by omega)
        have HMM := Lib.hid (iter_at HZ.out.it)
        clear HD ha ha'
        generalize (Utf8.decode s k).1 = cc at *
        generalize (Utf8.decode s k).2 = width at *
        go_wp2_with (go_at_call 149; refine (HR.out _).mono ?_; rintro e w' ⟨rfl, hb⟩; have HZ2 := Lib.hid (HZ.out.put hb HN.out); clear hb)
        go_roundw
        case rel => exact ⟨k + width, HZ2⟩
        case measure => rw [iter_at HZ2.out.it, HMM.out]; exact HM.out
    · have hnx := fun ty => run_next_fin (P := Try.prog) wr w.heap.size s k ty HZ.out.it hp
      have HE := Lib.hid (show Lib.indexAny s.data.toList C.data.toList = -1 from Lib.indexAny_none (fun j b hj hb => HZ.out.no j b (by rw [← Lib.size_eq] at hj; omega) hb))
      go_wp2
      go_ret
      exact ⟨by rw [HE.out]; rfl, HZ.out.low⟩
theorem Try.setInfo : (Try.prog.info? 199).map (fun i => (i.zero, i.size)) = some (some (.agg (Array.replicate 256 (.bool false))), 256) := by kernel_rfl
theorem any_ascii (s C : ByteArray) (w : World) (h2 : 2 ≤ C.size) (hCs : C.size < 4294967281) (hs : s.size < 4294967281) (hC : ∀ (j : Nat) (h : j < C.size), C[j].toNat < 128) :
    Calls Try.prog 116 #[.string s, .string C] w (AnyPost s C w) := by
  by_cases h8 : s.size ≤ 8
  · exact any_short s C w h2 h8 hC
  · refine (Try.strings_IndexAny_long (zero_of_info Try.setInfo).1 s C w h2 (by omega) hs hCs (ascii_list hC)).mono fun e w' ⟨h1, h2⟩ => ⟨h1, ?_⟩
    rw [h2]
    exact ((Below.refl _ _).alloc (Nat.le_refl _) _).alloc (by simp) _
end Go.Proofs.Ytmndlhbgacgnlaa

namespace Go.Proofs.Ytmndlhbgacgnlaa
open Go Go.RowKit

abbrev ptr (b : Nat) : Value := .pointer (some ⟨b, 0, none⟩)
/-- The blocks from b on are the variables of a parser of s that stands before byte a and has counted n nodes. -/
structure Env (W : World) (b : Nat) (s : ByteArray) (a n : Nat) : Prop where
  sb : Boxed W b 9 (.string s)
  pb : Boxed W (b + 1) 3 (.int .i64 (a : Int))
  nb : Boxed W (b + 2) 3 (.int .i64 (n : Int))
  tb : Boxed W (b + 3) 163 (.func (.func 114) #[] #[ptr (b + 1), ptr b])
  wb : Boxed W (b + 4) 165 (.func (.func 115) #[] #[ptr b, ptr (b + 1)])
  eb : Boxed W (b + 5) 98 (.func (.func 118) #[] #[ptr (b + 2), ptr (b + 4), ptr (b + 3), ptr (b + 6)])
  ab : Boxed W (b + 6) 166 (.func (.func 117) #[] #[ptr (b + 3), ptr (b + 5)])
section
variable {W W2 : World} {b : Nat} {s : ByteArray} {a n : Nat}
theorem Env.lt (h : Env W b s a n) : b + 6 < W.heap.size := h.ab.lt
theorem Env.keep {S : List Nat} (h : Env W b s a n) (hf : Fr S W W2) (hS : ∀ x ∈ S, x < b ∨ b + 6 < x) : Env W2 b s a n := by
  have k : ∀ i, i ≤ 6 → W2.heap[b + i]? = W.heap[b + i]? := fun i hi => hf.block (b + i) (by have := h.lt; omega) (fun hx => by have := hS _ hx; omega)
  exact ⟨box_on h.sb (k 0 (by omega)), box_on h.pb (k 1 (by omega)), box_on h.nb (k 2 (by omega)), box_on h.tb (k 3 (by omega)), box_on h.wb (k 4 (by omega)), box_on h.eb (k 5 (by omega)), box_on h.ab (k 6 (by omega))⟩
theorem Env.below (h : Env W b s a n) (hb : Below W.heap.size W W2) : Env W2 b s a n := h.keep (S := []) (Fr.of_below hb) (by simp)
theorem Env.pos (h : Env W b s a n) (k : Nat) : Env (W.setCell ⟨b + 1, 0, none⟩ (.int .i64 (k : Int))) b s k n :=
  ⟨h.sb.other (by omega) _, h.pb.set _, h.nb.other (by omega) _, h.tb.other (by omega) _, h.wb.other (by omega) _, h.eb.other (by omega) _, h.ab.other (by omega) _⟩
theorem Env.cnt (h : Env W b s a n) (k : Nat) : Env (W.setCell ⟨b + 2, 0, none⟩ (.int .i64 (k : Int))) b s a k :=
  ⟨h.sb.other (by omega) _, h.pb.other (by omega) _, h.nb.set _, h.tb.other (by omega) _, h.wb.other (by omega) _, h.eb.other (by omega) _, h.ab.other (by omega) _⟩
end

def TakeO (b : Nat) (s : ByteArray) (a n : Nat) (c : UInt8) (w : World) (r : Ending) (w2 : World) : Prop :=
  r = .returned (.bool (hd (rest s a) c)) ∧ Fr [b + 1] w w2 ∧ Env w2 b s (if hd (rest s a) c then a + 1 else a) n
theorem hd_at (s : ByteArray) (a : Nat) (c : UInt8) (h : a < s.size) : hd (rest s a) c = (s[a] == c) := by
  rw [hd, rest, List.head?_drop, Lib.data_getElem? s a h]
  rfl
theorem hd_end (s : ByteArray) (a : Nat) (c : UInt8) (h : s.size ≤ a) : hd (rest s a) c = false := by
  rw [hd, rest, List.head?_drop, List.getElem?_eq_none (by rw [sizeN]; omega)]; rfl

set_option maxHeartbeats 1000000 in
theorem own_take (b : Nat) (s : ByteArray) (a n : Nat) (c : UInt8) (C : Int) (hC : (c.toNat : Int) = C) (w : World) (h : Env w b s a n) (ha : a ≤ s.size) (hs : s.size ≤ 1048576) :
    Calls Try.prog 114 #[.int .u8 C, ptr (b + 1), ptr b] w (TakeO b s a n c w) := by
  have s1 := h.sb.cell
  have p1 := h.pb.cell
  have p2 := h.pb.frozen
  have p3 := h.pb.lt
  have HE := Lib.hid h
  by_cases hlt : a < s.size
  · have h1 : (a : Int) < (s.size : Int) := by omega
    have h0 : (0 : Int) ≤ (a : Int) := by omega
    have hw : IntKind.i64.wrap ((a : Int) + 1) = (a : Int) + 1 := IntWalk.i64_in _ (by omega)
    have HD := Lib.hid (hd_at s a c hlt)
    by_cases hx : s[a] = c
    · have HX := Lib.hid (show hd (rest s a) c = true by rw [HD.out]; simp [hx])
      have he : ((s[a].toNat : Int) == C) = true := by rw [hx, hC]; simp
      clear h hx
      go_enter Try.func114, Try.ntmps114
      go_wp2
      go_ret
      refine ⟨by rw [HX.out]; rfl, Fr.set _ _ _ (by simp), ?_⟩
      rw [HX.out]
      exact HE.out.pos (a + 1)
    · have HX := Lib.hid (show hd (rest s a) c = false by rw [HD.out]; simpa using hx)
      have he : ((s[a].toNat : Int) == C) = false := by
        rw [← hC]
        simp only [beq_eq_false_iff_ne, ne_eq]
        intro hh
        exact hx (UInt8.toNat_inj.1 (by omega))
      clear h hx
      go_enter Try.func114, Try.ntmps114
      go_wp2
      go_ret
      exact ⟨by rw [HX.out]; rfl, Fr.refl _ _, by rw [HX.out]; exact HE.out⟩
  · have HX := Lib.hid (hd_end s a c (by omega))
    have h1 : ¬ (a : Int) < (s.size : Int) := by omega
    clear h
    go_enter Try.func114, Try.ntmps114
    go_wp2
    go_ret
    exact ⟨by rw [HX.out]; rfl, Fr.refl _ _, by rw [HX.out]; exact HE.out⟩

/-- The bytes up to the next parenthesis or comma. -/
def wordCut (l : List UInt8) : List UInt8 := l.takeWhile (fun c => !([40, 41, 44] : List UInt8).contains c)
theorem cut_any : ∀ l : List UInt8, (Lib.indexAny l [40, 41, 44] = -1 ∧ wordCut l = l) ∨ (Lib.indexAny l [40, 41, 44] = ((wordCut l).length : Int) ∧ (wordCut l).length ≤ l.length) := by
  intro l
  induction l with
  | nil => exact Or.inl ⟨rfl, rfl⟩
  | cons x r ih =>
    cases hc : ([40, 41, 44] : List UInt8).contains x with
    | true =>
      have h : wordCut (x :: r) = [] := by rw [wordCut, List.takeWhile_cons, hc]; rfl
      refine Or.inr ⟨by rw [h, Lib.indexAny, if_pos hc, List.length_nil]; rfl, by rw [h]; exact Nat.zero_le _⟩
    | false =>
      have h : wordCut (x :: r) = x :: wordCut r := by rw [wordCut, List.takeWhile_cons, hc]; rfl
      rcases ih with ⟨h1, h2⟩ | ⟨h1, h2⟩
      · exact Or.inl ⟨by rw [Lib.indexAny, hc, h1]; rfl, by rw [h, h2]⟩
      · refine Or.inr ⟨?_, by rw [h, List.length_cons, List.length_cons]; omega⟩
        rw [Lib.indexAny, hc, h1, h]
        have hne : ¬ (((wordCut r).length : Int) == -1) = true := by intro hh; have := beq_iff_eq.1 hh; omega
        simp only [Bool.false_eq_true, if_false]
        rw [if_neg hne, List.length_cons]
        push_cast
        rfl
theorem cut_take (l : List UInt8) : wordCut l = l.take (wordCut l).length := by
  induction l with
  | nil => rfl
  | cons x r ih =>
    rw [wordCut, List.takeWhile_cons]
    split
    · rw [List.length_cons, List.take_succ_cons]
      congr 1
    · rfl
def WordO (b : Nat) (s : ByteArray) (a n : Nat) (w : World) (r : Ending) (w2 : World) : Prop :=
  r = .returned (.string ⟨(wordCut (rest s a)).toArray⟩) ∧ Fr [b + 1] w w2 ∧ Env w2 b s (a + (wordCut (rest s a)).length) n

set_option maxRecDepth 100000 in
set_option maxHeartbeats 1000000 in
theorem own_word (b : Nat) (s : ByteArray) (a n : Nat) (w : World) (h : Env w b s a n) (ha : a ≤ s.size) (hs : s.size ≤ 1048576) :
    Calls Try.prog 115 #[ptr b, ptr (b + 1)] w (WordO b s a n w) := by
  have s1 := h.sb.cell
  have p1 := h.pb.cell
  have HE := Lib.hid h
  have h0 : (0 : Int) ≤ (a : Int) := by omega
  have h1 : (a : Int) ≤ (s.size : Int) := by omega
  obtain ⟨R, hR⟩ : ∃ R, R = s.extract a s.size := ⟨_, rfl⟩
  have hRl : R.data.toList = rest s a := by
    rw [hR, cut_list, rest]
    exact List.take_of_length_le (by rw [List.length_drop, sizeN]; omega)
  have hRs : R.size = s.size - a := by rw [← sizeN, hRl, rest_len]
  have HA := Lib.hid (fun (W : World) => any_ascii R ⟨#[40, 41, 44]⟩ W (by decide) (by decide) (by omega) (by
    intro j hj
    have hj3 : j < 3 := hj
    match j, hj3 with
    | 0, _ => show (40 : UInt8).toNat < 128; decide
    | 1, _ => show (41 : UInt8).toNat < 128; decide
    | 2, _ => show (44 : UInt8).toNat < 128; decide))
  have hsl : (Instr.slice 9 (.string s) (some (.int .i64 (a : Int))) none none).run Try.prog w = .ok (.string R) w := by
    rw [hR]; exact run_slice_string_l w _ s Try.underlying9 .i64 (a : Int) h0 h1
  rcases cut_any (rest s a) with ⟨e1, e2⟩ | ⟨e1, e2⟩
  · have HW := Lib.hid (show (⟨(wordCut (rest s a)).toArray⟩ : ByteArray) = R ∧ (wordCut (rest s a)).length = R.size by
      constructor
      · rw [e2, ← hRl]
      · rw [e2, ← hRl, sizeN])
    have hadd : IntKind.i64.wrap ((a : Int) + (R.size : Int)) = ((a + R.size : Nat) : Int) := by rw [← Int.natCast_add]; exact IntWalk.i64_in _ (by omega)
    unfold AnyPost at HA
    rw [show (⟨#[40, 41, 44]⟩ : ByteArray).data.toList = [40, 41, 44] from rfl, hRl, e1] at HA
    have HB := Lib.hid (fun (W2 : World) (hb : Below w.heap.size w W2) => And.intro (h.below hb).pb.cell (And.intro (h.below hb).pb.frozen (h.below hb).pb.lt))
    clear h hR hRl hRs e1 e2 hs ha
    go_enter Try.func115, Try.ntmps115
    go_wp2_with (go_at_call 116; refine (HA.out _).mono ?_; rintro r w2 ⟨rfl, hb2⟩; obtain ⟨q1, q2, q3⟩ := HB.out w2 hb2; have HB2 := Lib.hid hb2; clear hb2)
    go_ret
    refine ⟨by rw [HW.out.1]; rfl, (Fr.of_below HB2.out).trans (Fr.set (S := [b + 1]) _ _ _ (by simp)) (fun x hx => Or.inl hx), ?_⟩
    rw [HW.out.2]
    exact (HE.out.below HB2.out).pos (a + R.size)
  · have HW := Lib.hid (show (⟨(wordCut (rest s a)).toArray⟩ : ByteArray) = R.extract 0 (wordCut (rest s a)).length by
      apply bytes_eq
      rw [cut_list, hRl, List.drop_zero, Nat.sub_zero, ← cut_take])
    have hle : (wordCut (rest s a)).length ≤ R.size := by rw [← sizeN, hRl]; exact e2
    have hadd : IntKind.i64.wrap ((a : Int) + ((wordCut (rest s a)).length : Int)) = ((a + (wordCut (rest s a)).length : Nat) : Int) := by rw [← Int.natCast_add]; exact IntWalk.i64_in _ (by omega)
    unfold AnyPost at HA
    rw [show (⟨#[40, 41, 44]⟩ : ByteArray).data.toList = [40, 41, 44] from rfl, hRl, e1] at HA
    have HB := Lib.hid (fun (W2 : World) (hb : Below w.heap.size w W2) => And.intro (h.below hb).pb.cell (And.intro (h.below hb).pb.frozen (h.below hb).pb.lt))
    clear h hR hRl hRs e1 e2 hs ha
    unfold WordO
    generalize (wordCut (rest s a)).length = k at *
    have hk0 : (0 : Int) ≤ (k : Int) := by omega
    have hk1 : (k : Int) ≤ (R.size : Int) := by omega
    clear hle
    go_enter Try.func115, Try.ntmps115
    go_wp2_with (go_at_call 116; refine (HA.out _).mono ?_; rintro r w2 ⟨rfl, hb2⟩; obtain ⟨q1, q2, q3⟩ := HB.out w2 hb2; have HB2 := Lib.hid hb2; clear hb2)
    go_ret
    exact ⟨by rw [HW.out]; rfl, (Fr.of_below HB2.out).trans (Fr.set (S := [b + 1]) _ _ _ (by simp)) (fun x hx => Or.inl hx), (HE.out.below HB2.out).pos (a + k)⟩

/-- The kind of the node that begins with the word w; o: a parenthesis follows it. -/
def nodeK (w : List UInt8) (o : Bool) : Option Int := if nameL 65 90 w then some 2 else if nameL 97 122 w then (if o then some 3 else some 1) else if w = [33] then some 4 else none
/-- The node, still without arguments. -/
def nodeE (w : ByteArray) (o : Bool) : Ex × Bool := match nodeK w.data.toList o with
  | none => (.mk 0 ⟨#[]⟩ [], false)
  | some k => (.mk k (if k = 4 then ⟨#[]⟩ else w) [], true)
def NodeO (x : ByteArray) (o : Bool) (w : World) (r : Ending) (w2 : World) : Prop :=
  r = .returned (.tuple #[.agg #[.int .i64 (nodeE x o).1.kind, .string (nodeE x o).1.name, .slice none 0 0], .bool (nodeE x o).2]) ∧ Below w.heap.size w w2
theorem stuck_str (x : ByteArray) : (x.toList == [33]) = decide (x.data.toList = [33]) := by
  rw [Lib.toList_data]
  by_cases h : x.data.toList = [33]
  · simp [h]
  · simp [h]
theorem res_box {w w2 : World} {K : Int} {S : ByteArray} {u : Value} (h : Below (w.alloc (.cells #[.int .i64 K, .string S, u] 26)).heap.size (w.alloc (.cells #[.int .i64 K, .string S, u] 26)) w2) : Bx w2 w.heap.size K S u := (h.block _ (by simp)).trans (heap_alloc_new w _)

/-- The three cells of an expression are stored. -/
def nset (W : World) (B : Nat) (K : Int) (S : ByteArray) (u : Value) : World := ((W.setCell ⟨B, 0, none⟩ (.int .i64 K)).setCell ⟨B, 1, none⟩ (.string S)).setCell ⟨B, 2, none⟩ u
theorem nset_box {w w2 : World} {K0 : Int} {S0 : ByteArray} {u0 : Value} (h : Bx w2 w.heap.size K0 S0 u0) (K : Int) (S : ByteArray) (u : Value) : Bx (nset w2 w.heap.size K S u) w.heap.size K S u := ((h.set0 K).set1 S).set2 u
theorem nset_low {w w2 : World} (h : Below w.heap.size w w2) (K : Int) (S : ByteArray) (u : Value) : Below w.heap.size w (nset w2 w.heap.size K S u) :=
  ((h.setCell (p := ⟨w.heap.size, 0, none⟩) (by simp) _).setCell (p := ⟨w.heap.size, 1, none⟩) (by simp) _).setCell (p := ⟨w.heap.size, 2, none⟩) (by simp) _

set_option maxRecDepth 100000 in
set_option maxHeartbeats 2000000 in
theorem own_node (x : ByteArray) (o : Bool) (w : World) : Calls Try.prog 119 #[.string x, .bool o] w (NodeO x o w) := by
  have HC := Lib.hid (fun (W : World) => own_iscon x W)
  have HN := Lib.hid (fun (W : World) => own_isname x W)
  unfold NamePost at HC HN
  have HB0 := Lib.hid (fun (W : World) (h : Below (w.alloc (.cells #[.int .i64 0, .string ⟨#[]⟩, .slice none 0 0] 26)).heap.size (w.alloc (.cells #[.int .i64 0, .string ⟨#[]⟩, .slice none 0 0] 26)) W) => show Below w.heap.size w W from ((Below.refl w.heap.size w).alloc (Nat.le_refl _) _).trans (h.mono (by simp)))
  have hst := stuck_str x
  have HX := Lib.hid (show nodeE x o = match (if nameL 65 90 x.data.toList then some 2 else if nameL 97 122 x.data.toList then (if o then some 3 else some 1) else if x.data.toList = [33] then some 4 else none : Option Int) with
    | none => (.mk 0 ⟨#[]⟩ [], false)
    | some k => (.mk k (if k = 4 then ⟨#[]⟩ else x) [], true) from rfl)
  generalize nameL 65 90 x.data.toList = bc at *
  generalize nameL 97 122 x.data.toList = bn at *
  cases bc
  · cases bn
    · cases o
      · by_cases h3 : x.data.toList = [33]
        · rw [decide_eq_true h3] at hst
          have HX2 := Lib.hid (show nodeE x false = (.mk 4 ⟨#[]⟩ [], true) by rw [HX.out]; rw [if_neg (by decide), if_neg (by decide), if_pos h3]; rfl)
          clear h3
          go_enter Try.func119, Try.ntmps119
          go_wp2_with (first | (go_at_call 105; refine (HC.out _).mono ?_; rintro r w2 ⟨rfl, hb2⟩; have HB2 := Lib.hid hb2; clear hb2) | (go_at_call 104; refine (HN.out _).mono ?_; rintro r w3 ⟨rfl, hb3⟩; have HB3 := Lib.hid (HB2.out.trans (hb3.mono HB2.out.size)); clear hb3) | (go_at_call 104; refine (HN.out _).mono ?_; rintro r w4 ⟨rfl, hb4⟩; have HB4 := Lib.hid (HB3.out.trans (hb4.mono HB3.out.size)); clear hb4; obtain ⟨q0, q1, q2, q3⟩ := (res_box HB4.out).cells; have g0 := (res_box HB4.out).thaw 0; have g1 := (res_box HB4.out).thaw 1; have g2 := (res_box HB4.out).thaw 2))
          obtain ⟨r0, r1, r2, -⟩ := (nset_box (res_box HB4.out) 4 ⟨#[]⟩ (.slice none 0 0)).cells
          unfold nset at r0 r1 r2
          refine bodyPost_ret (v := .tuple #[.agg #[.int .i64 4, .string ⟨#[]⟩, .slice none 0 0], .bool true]) (by simp [results, Try.results119, go_sem, r0, r1, r2]) rfl ?_
          exact ⟨by rw [HX2.out]; rfl, nset_low (HB0.out _ HB4.out) _ _ _⟩
        · rw [decide_eq_false h3] at hst
          have HX2 := Lib.hid (show nodeE x false = (.mk 0 ⟨#[]⟩ [], false) by rw [HX.out]; rw [if_neg (by decide), if_neg (by decide), if_neg h3])
          clear h3
          go_enter Try.func119, Try.ntmps119
          go_wp2_with (first | (go_at_call 105; refine (HC.out _).mono ?_; rintro r w2 ⟨rfl, hb2⟩; have HB2 := Lib.hid hb2; clear hb2) | (go_at_call 104; refine (HN.out _).mono ?_; rintro r w3 ⟨rfl, hb3⟩; have HB3 := Lib.hid (HB2.out.trans (hb3.mono HB2.out.size)); clear hb3) | (go_at_call 104; refine (HN.out _).mono ?_; rintro r w4 ⟨rfl, hb4⟩; have HB4 := Lib.hid (HB3.out.trans (hb4.mono HB3.out.size)); clear hb4; obtain ⟨q0, q1, q2, q3⟩ := (res_box HB4.out).cells; have g0 := (res_box HB4.out).thaw 0; have g1 := (res_box HB4.out).thaw 1; have g2 := (res_box HB4.out).thaw 2))
          obtain ⟨r0, r1, r2, -⟩ := (nset_box (res_box HB4.out) 0 ⟨#[]⟩ (.slice none 0 0)).cells
          unfold nset at r0 r1 r2
          refine bodyPost_ret (v := .tuple #[.agg #[.int .i64 0, .string ⟨#[]⟩, .slice none 0 0], .bool false]) (by simp [results, Try.results119, go_sem, r0, r1, r2]) rfl ?_
          exact ⟨by rw [HX2.out]; rfl, nset_low (HB0.out _ HB4.out) _ _ _⟩
      · by_cases h3 : x.data.toList = [33]
        · rw [decide_eq_true h3] at hst
          have HX2 := Lib.hid (show nodeE x true = (.mk 4 ⟨#[]⟩ [], true) by rw [HX.out]; rw [if_neg (by decide), if_neg (by decide), if_pos h3]; rfl)
          clear h3
          go_enter Try.func119, Try.ntmps119
          go_wp2_with (first | (go_at_call 105; refine (HC.out _).mono ?_; rintro r w2 ⟨rfl, hb2⟩; have HB2 := Lib.hid hb2; clear hb2) | (go_at_call 104; refine (HN.out _).mono ?_; rintro r w3 ⟨rfl, hb3⟩; have HB3 := Lib.hid (HB2.out.trans (hb3.mono HB2.out.size)); clear hb3) | (go_at_call 104; refine (HN.out _).mono ?_; rintro r w4 ⟨rfl, hb4⟩; have HB4 := Lib.hid (HB3.out.trans (hb4.mono HB3.out.size)); clear hb4; obtain ⟨q0, q1, q2, q3⟩ := (res_box HB4.out).cells; have g0 := (res_box HB4.out).thaw 0; have g1 := (res_box HB4.out).thaw 1; have g2 := (res_box HB4.out).thaw 2))
          obtain ⟨r0, r1, r2, -⟩ := (nset_box (res_box HB4.out) 4 ⟨#[]⟩ (.slice none 0 0)).cells
          unfold nset at r0 r1 r2
          refine bodyPost_ret (v := .tuple #[.agg #[.int .i64 4, .string ⟨#[]⟩, .slice none 0 0], .bool true]) (by simp [results, Try.results119, go_sem, r0, r1, r2]) rfl ?_
          exact ⟨by rw [HX2.out]; rfl, nset_low (HB0.out _ HB4.out) _ _ _⟩
        · rw [decide_eq_false h3] at hst
          have HX2 := Lib.hid (show nodeE x true = (.mk 0 ⟨#[]⟩ [], false) by rw [HX.out]; rw [if_neg (by decide), if_neg (by decide), if_neg h3])
          clear h3
          go_enter Try.func119, Try.ntmps119
          go_wp2_with (first | (go_at_call 105; refine (HC.out _).mono ?_; rintro r w2 ⟨rfl, hb2⟩; have HB2 := Lib.hid hb2; clear hb2) | (go_at_call 104; refine (HN.out _).mono ?_; rintro r w3 ⟨rfl, hb3⟩; have HB3 := Lib.hid (HB2.out.trans (hb3.mono HB2.out.size)); clear hb3) | (go_at_call 104; refine (HN.out _).mono ?_; rintro r w4 ⟨rfl, hb4⟩; have HB4 := Lib.hid (HB3.out.trans (hb4.mono HB3.out.size)); clear hb4; obtain ⟨q0, q1, q2, q3⟩ := (res_box HB4.out).cells; have g0 := (res_box HB4.out).thaw 0; have g1 := (res_box HB4.out).thaw 1; have g2 := (res_box HB4.out).thaw 2))
          obtain ⟨r0, r1, r2, -⟩ := (nset_box (res_box HB4.out) 0 ⟨#[]⟩ (.slice none 0 0)).cells
          unfold nset at r0 r1 r2
          refine bodyPost_ret (v := .tuple #[.agg #[.int .i64 0, .string ⟨#[]⟩, .slice none 0 0], .bool false]) (by simp [results, Try.results119, go_sem, r0, r1, r2]) rfl ?_
          exact ⟨by rw [HX2.out]; rfl, nset_low (HB0.out _ HB4.out) _ _ _⟩
    · cases o
      · clear hst
        have HX2 := Lib.hid (show nodeE x false = (.mk 1 x [], true) by rw [HX.out]; rfl)
        go_enter Try.func119, Try.ntmps119
        go_wp2_with (first | (go_at_call 105; refine (HC.out _).mono ?_; rintro r w2 ⟨rfl, hb2⟩; have HB2 := Lib.hid hb2; clear hb2) | (go_at_call 104; refine (HN.out _).mono ?_; rintro r w3 ⟨rfl, hb3⟩; have HB3 := Lib.hid (HB2.out.trans (hb3.mono HB2.out.size)); clear hb3) | (go_at_call 104; refine (HN.out _).mono ?_; rintro r w4 ⟨rfl, hb4⟩; have HB4 := Lib.hid (HB3.out.trans (hb4.mono HB3.out.size)); clear hb4; obtain ⟨q0, q1, q2, q3⟩ := (res_box HB4.out).cells; have g0 := (res_box HB4.out).thaw 0; have g1 := (res_box HB4.out).thaw 1; have g2 := (res_box HB4.out).thaw 2))
        obtain ⟨r0, r1, r2, -⟩ := (nset_box (res_box HB4.out) 1 x (.slice none 0 0)).cells
        unfold nset at r0 r1 r2
        refine bodyPost_ret (v := .tuple #[.agg #[.int .i64 1, .string x, .slice none 0 0], .bool true]) (by simp [results, Try.results119, go_sem, r0, r1, r2]) rfl ?_
        exact ⟨by rw [HX2.out]; rfl, nset_low (HB0.out _ HB4.out) _ _ _⟩
      · clear hst
        have HX2 := Lib.hid (show nodeE x true = (.mk 3 x [], true) by rw [HX.out]; rfl)
        go_enter Try.func119, Try.ntmps119
        go_wp2_with (first | (go_at_call 105; refine (HC.out _).mono ?_; rintro r w2 ⟨rfl, hb2⟩; have HB2 := Lib.hid hb2; clear hb2) | (go_at_call 104; refine (HN.out _).mono ?_; rintro r w3 ⟨rfl, hb3⟩; have HB3 := Lib.hid (HB2.out.trans (hb3.mono HB2.out.size)); clear hb3; obtain ⟨q0, q1, q2, q3⟩ := (res_box HB3.out).cells; have g0 := (res_box HB3.out).thaw 0; have g1 := (res_box HB3.out).thaw 1; have g2 := (res_box HB3.out).thaw 2))
        obtain ⟨r0, r1, r2, -⟩ := (nset_box (res_box HB3.out) 3 x (.slice none 0 0)).cells
        unfold nset at r0 r1 r2
        refine bodyPost_ret (v := .tuple #[.agg #[.int .i64 3, .string x, .slice none 0 0], .bool true]) (by simp [results, Try.results119, go_sem, r0, r1, r2]) rfl ?_
        exact ⟨by rw [HX2.out]; rfl, nset_low (HB0.out _ HB3.out) _ _ _⟩
  · clear hst
    have HX2 := Lib.hid (show nodeE x o = (.mk 2 x [], true) by rw [HX.out]; rfl)
    go_enter Try.func119, Try.ntmps119
    go_wp2_with (go_at_call 105; refine (HC.out _).mono ?_; rintro r w2 ⟨rfl, hb2⟩; have HB2 := Lib.hid hb2; clear hb2; obtain ⟨q0, q1, q2, q3⟩ := (res_box HB2.out).cells; have g0 := (res_box HB2.out).thaw 0; have g1 := (res_box HB2.out).thaw 1; have g2 := (res_box HB2.out).thaw 2)
    obtain ⟨r0, r1, r2, -⟩ := (nset_box (res_box HB2.out) 2 x (.slice none 0 0)).cells
    unfold nset at r0 r1 r2
    refine bodyPost_ret (v := .tuple #[.agg #[.int .i64 2, .string x, .slice none 0 0], .bool true]) (by simp [results, Try.results119, go_sem, r0, r1, r2]) rfl ?_
    exact ⟨by rw [HX2.out]; rfl, nset_low (HB0.out _ HB2.out) _ _ _⟩
end Go.Proofs.Ytmndlhbgacgnlaa

namespace Go.Proofs.Ytmndlhbgacgnlaa
open Go Go.RowKit

def delim (c : UInt8) : Bool := ([40, 41, 44] : List UInt8).contains c
theorem cut_app {w r : List UInt8} (hw : ∀ c ∈ w, delim c = false) (hr : r = [] ∨ ∃ c t, r = c :: t ∧ delim c = true) : wordCut (w ++ r) = w := by
  induction w with
  | nil =>
    rcases hr with rfl | ⟨c, t, rfl, hc⟩
    · rfl
    · rw [List.nil_append, wordCut, List.takeWhile_cons]
      unfold delim at hc
      rw [hc]; rfl
  | cons c w ih =>
    have h1 := hw c (by simp)
    unfold delim at h1
    have h2 := ih (fun x hx => hw x (by simp [hx]))
    unfold wordCut at h2 ⊢
    rw [List.cons_append, List.takeWhile_cons, h1, h2]
    rfl
theorem word_delim {c : UInt8} (h : wordOk c = true) : delim c = false := by
  have h1 : ¬ c = 40 := fun e => by subst e; exact absurd h (by decide)
  have h2 : ¬ c = 41 := fun e => by subst e; exact absurd h (by decide)
  have h3 : ¬ c = 44 := fun e => by subst e; exact absurd h (by decide)
  simp [delim, h1, h2, h3]
theorem stop_delim {r : List UInt8} (h : Stop r) : r = [] ∨ ∃ c t, r = c :: t ∧ delim c = true := by
  rcases h with rfl | ⟨c, t, rfl, rfl | rfl⟩
  · exact Or.inl rfl
  · exact Or.inr ⟨_, _, rfl, by decide⟩
  · exact Or.inr ⟨_, _, rfl, by decide⟩
theorem node_con {w : List UInt8} {o : Bool} (h : nameL 65 90 w = true) : nodeK w o = some 2 := by unfold nodeK; rw [if_pos h]
theorem not_con {w : List UInt8} (h : nameL 97 122 w = true) : nameL 65 90 w = false := by
  obtain ⟨-, c, r, rfl, h1, h2⟩ := name_word (Or.inr ⟨Nat.le_refl _, Nat.le_refl _⟩) h
  simp only [nameL, Bool.and_eq_false_iff, decide_eq_false_iff_not]
  omega
theorem node_name {w : List UInt8} {o : Bool} (h : nameL 97 122 w = true) : nodeK w o = if o then some 3 else some 1 := by
  unfold nodeK
  rw [not_con h, h]
  rfl

/-- A text is made of its first word and what follows. -/
theorem fit_word {k : Int} {S : ByteArray} {L : List Ex} {l t : List UInt8} (ha : exAll (.mk k S L) = true) (hl : l = exText (.mk k S L) ++ t) (ht : Stop t) :
    ((wordCut l).length ≤ l.length ∧ hd (l.drop (wordCut l).length) 40 = false ∧ L = [] ∧ l.drop (wordCut l).length = t ∧ nodeE ⟨(wordCut l).toArray⟩ false = (.mk k S [], true)) ∨
    ((wordCut l).length ≤ l.length ∧ hd (l.drop (wordCut l).length) 40 = true ∧ (l.drop (wordCut l).length).drop 1 = Lib.join (exTexts L) [44] ++ 41 :: t ∧ nodeE ⟨(wordCut l).toArray⟩ true = (.mk k S [], true)) := by
  rw [exAll, Bool.and_eq_true] at ha
  have hform := ha.2
  unfold exFormOf at hform
  have plain : (∀ c ∈ S.data.toList, wordOk c = true) → exText (.mk k S L) = S.data.toList → L = [] → k ≠ 4 → nodeK S.data.toList false = some k →
      ((wordCut l).length ≤ l.length ∧ hd (l.drop (wordCut l).length) 40 = false ∧ L = [] ∧ l.drop (wordCut l).length = t ∧ nodeE ⟨(wordCut l).toArray⟩ false = (.mk k S [], true)) := fun h1 h2 h3 h4 h5 => by
    have hc : wordCut l = S.data.toList := by rw [hl, h2]; exact cut_app (fun c hc => word_delim (h1 c hc)) (stop_delim ht)
    have hd2 : l.drop (wordCut l).length = t := by rw [hc, hl, h2, List.drop_left]
    refine ⟨by rw [hc, hl, h2, List.length_append]; omega, by rw [hd2]; exact ht.no.2, h3, hd2, ?_⟩
    rw [hc, nodeE, show (⟨S.data.toList.toArray⟩ : ByteArray).data.toList = S.data.toList from rfl, h5]
    simp only [if_neg h4, str_eta]
  have call : (∀ c ∈ S.data.toList, wordOk c = true) → exText (.mk k S L) = S.data.toList ++ [40] ++ Lib.join (exTexts L) [44] ++ [41] → k ≠ 4 → nodeK S.data.toList true = some k →
      ((wordCut l).length ≤ l.length ∧ hd (l.drop (wordCut l).length) 40 = true ∧ (l.drop (wordCut l).length).drop 1 = Lib.join (exTexts L) [44] ++ 41 :: t ∧ nodeE ⟨(wordCut l).toArray⟩ true = (.mk k S [], true)) := fun h1 h2 h4 h5 => by
    have hl2 : l = S.data.toList ++ 40 :: (Lib.join (exTexts L) [44] ++ 41 :: t) := by rw [hl, h2]; simp
    have hc : wordCut l = S.data.toList := by rw [hl2]; exact cut_app (fun c hc => word_delim (h1 c hc)) (Or.inr ⟨_, _, rfl, by decide⟩)
    have hd2 : l.drop (wordCut l).length = 40 :: (Lib.join (exTexts L) [44] ++ 41 :: t) := by rw [hc, hl2, List.drop_left]
    refine ⟨by rw [hc, hl2, List.length_append]; omega, by rw [hd2]; rfl, by rw [hd2]; rfl, ?_⟩
    rw [hc, nodeE, show (⟨S.data.toList.toArray⟩ : ByteArray).data.toList = S.data.toList from rfl, h5]
    simp only [if_neg h4, str_eta]
  split at hform
  · rename_i hk
    subst hk
    rw [Bool.and_eq_true] at hform
    refine Or.inl (plain (name_word (Or.inr ⟨Nat.le_refl _, Nat.le_refl _⟩) hform.1).1 ?_ (List.eq_nil_of_length_eq_zero (of_decide_eq_true hform.2)) (by decide) (by rw [node_name hform.1]; rfl))
    rw [exText, if_neg (by decide), if_pos (Or.inl rfl)]
  · rename_i hk1
    split at hform
    · rename_i hk
      subst hk
      rw [Bool.and_eq_true] at hform
      by_cases hL : L.length = 0
      · refine Or.inl (plain (name_word (Or.inl ⟨Nat.le_refl _, Nat.le_refl _⟩) hform.1).1 ?_ (List.eq_nil_of_length_eq_zero hL) (by decide) (node_con hform.1))
        rw [exText, if_neg (by decide), if_pos (Or.inr ⟨rfl, hL⟩)]
      · refine Or.inr (call (name_word (Or.inl ⟨Nat.le_refl _, Nat.le_refl _⟩) hform.1).1 ?_ (by decide) (node_con hform.1))
        rw [exText, if_neg (by decide), if_neg (by simp [hL])]
    · rename_i hk2
      split at hform
      · rename_i hk
        subst hk
        rw [Bool.and_eq_true] at hform
        refine Or.inr (call (name_word (Or.inr ⟨Nat.le_refl _, Nat.le_refl _⟩) hform.1).1 ?_ (by decide) (by rw [node_name hform.1]; rfl))
        rw [exText, if_neg (by decide), if_neg (by simp)]
      · split at hform
        · rename_i hk
          subst hk
          rw [Bool.and_eq_true] at hform
          have hS : S = ⟨#[]⟩ := size_nil (of_decide_eq_true hform.1)
          have hL : L = [] := List.eq_nil_of_length_eq_zero (of_decide_eq_true hform.2)
          have hx : exText (.mk 4 S L) = [33] := by rw [exText, if_pos rfl]
          have hc : wordCut l = [33] := by rw [hl, hx]; exact cut_app (fun c hc => by rw [List.mem_singleton] at hc; rw [hc]; decide) (stop_delim ht)
          have hd2 : l.drop (wordCut l).length = t := by rw [hc, hl, hx, List.drop_left]
          refine Or.inl ⟨by rw [hc, hl, hx, List.length_append]; omega, by rw [hd2]; exact ht.no.2, hL, hd2, ?_⟩
          rw [hc, hS]
          rfl
        · cases hform

/-- What an expression that is read stands for: if a right one's text stands at a, and there is room for its nodes, this one is found. -/
def Fits (s : ByteArray) (a n : Nat) (e : Ex) (a2 n2 : Nat) (ok : Bool) : Prop :=
  ∀ e0 t, exAll e0 = true → rest s a = exText e0 ++ t → Stop t → n + exSize e0 ≤ 80 → ok = true ∧ e = e0 ∧ rest s a2 = t ∧ n2 = n + exSize e0
def FitsL (s : ByteArray) (a n : Nat) (l : List Ex) (a2 n2 : Nat) (ok : Bool) : Prop :=
  ∀ L t, exAllL L = true → rest s a = Lib.join (exTexts L) [44] ++ 41 :: t → n + exSizes L ≤ 80 → ok = true ∧ l = L ∧ rest s a2 = t ∧ n2 = n + exSizes L
def ExprO (b : Nat) (s : ByteArray) (a n : Nat) (w : World) (r : Ending) (w2 : World) : Prop :=
  ∃ v e bs a2 n2 ok, r = .returned (.tuple #[v, .bool ok]) ∧ ExIs w2 v e bs ∧ Mine w2 w.heap.size bs ∧ Fr [b + 1, b + 2] w w2 ∧ Env w2 b s a2 n2 ∧ a ≤ a2 ∧ a2 ≤ s.size ∧ (ok = true → a < a2 ∧ n2 ≤ 80 ∧ exSize e + n ≤ n2) ∧ Fits s a n e a2 n2 ok
def ArgsO (b : Nat) (s : ByteArray) (a n : Nat) (w : World) (r : Ending) (w2 : World) : Prop :=
  ∃ v l bs a2 n2 ok, r = .returned (.tuple #[v, .bool ok]) ∧ SlIs w2 v l bs ∧ Mine w2 w.heap.size bs ∧ Fr [b + 1, b + 2] w w2 ∧ Env w2 b s a2 n2 ∧ a ≤ a2 ∧ a2 ≤ s.size ∧ (ok = true → n2 ≤ 80 ∧ exSizes l + n ≤ n2) ∧ FitsL s a n l a2 n2 ok
end Go.Proofs.Ytmndlhbgacgnlaa

namespace Go.Proofs.Ytmndlhbgacgnlaa
open Go Go.RowKit

theorem sizes_more : ∀ (a b : List Ex), exSizes (a ++ b) = exSizes a + exSizes b := by
  intro a
  induction a with
  | nil => intro b; simp [exSizes]
  | cons x r ih => intro b; rw [List.cons_append, exSizes, exSizes, ih]; omega
theorem join_two (e x : Ex) (l : List Ex) (r : List UInt8) : Lib.join (exTexts (e :: x :: l)) [44] ++ 41 :: r = exText e ++ 44 :: (Lib.join (exTexts (x :: l)) [44] ++ 41 :: r) := by
  rw [exTexts, exTexts, Lib.join_cons, Lib.join_cons]
  simp [Lib.joinTail]
theorem join_uno (e : Ex) (r : List UInt8) : Lib.join (exTexts [e]) [44] ++ 41 :: r = exText e ++ 41 :: r := by
  rw [exTexts, exTexts, Lib.join_one]
theorem rest_next {s : ByteArray} {a : Nat} {c : UInt8} {t : List UInt8} (h : rest s a = c :: t) : rest s (a + 1) = t := by
  rw [← rest_drop, h]; rfl
theorem rest_lt {s : ByteArray} {a : Nat} {c : UInt8} (h : hd (rest s a) c = true) : a + 1 ≤ s.size := by
  apply Decidable.byContradiction
  intro hh
  have : rest s a = [] := List.eq_nil_of_length_eq_zero (by rw [rest_len]; omega)
  rw [this] at h
  cases h

/-- What the loop of args holds. -/
structure Ag (b : Nat) (s : ByteArray) (a0 n0 : Nat) (w : World) (v : Value) (out : List Ex) (bs : List Nat) (a n : Nat) (W : World) : Prop where
  kids : Kids w.heap.size W v out bs
  env : Env W b s a n
  fr : Fr [b + 1, b + 2] w W
  lo : a0 ≤ a
  hi : a ≤ s.size
  cnt : exSizes out + n0 ≤ n ∧ n ≤ 80
  pend : ∀ L t, exAllL L = true → rest s a0 = Lib.join (exTexts L) [44] ++ 41 :: t → n0 + exSizes L ≤ 80 → ∃ e0 L2, L = out ++ e0 :: L2 ∧ rest s a = Lib.join (exTexts (e0 :: L2)) [44] ++ 41 :: t ∧ n = n0 + exSizes out
/-- The same behind an element more, before what follows it is looked at. -/
structure Ah (b : Nat) (s : ByteArray) (a0 n0 : Nat) (w : World) (v : Value) (out : List Ex) (bs : List Nat) (a n : Nat) (W : World) : Prop where
  kids : Kids w.heap.size W v out bs
  env : Env W b s a n
  fr : Fr [b + 1, b + 2] w W
  lo : a0 ≤ a
  hi : a ≤ s.size
  cnt : exSizes out + n0 ≤ n ∧ n ≤ 80
  pend : ∀ L t, exAllL L = true → rest s a0 = Lib.join (exTexts L) [44] ++ 41 :: t → n0 + exSizes L ≤ 80 → ∃ L2, L = out ++ L2 ∧ n = n0 + exSizes out ∧ ((L2 = [] ∧ rest s a = 41 :: t) ∨ ∃ e1 L3, L2 = e1 :: L3 ∧ rest s a = 44 :: (Lib.join (exTexts (e1 :: L3)) [44] ++ 41 :: t))
section
variable {b : Nat} {s : ByteArray} {a0 n0 a n a2 n2 : Nat} {w wr W W2 w2 w3 : World} {v u : Value} {out : List Ex} {e : Ex} {bs b1 : List Nat}
theorem Ag.start (h : Env W b s a0 n0) (hn : n0 ≤ 80) (ha : a0 ≤ s.size) (hf : Fr [b + 1, b + 2] w W) (h41 : hd (rest s a0) 41 = false) : Ag b s a0 n0 w (.slice none 0 0) [] [] a0 n0 W := by
  refine ⟨Kids.nilled _ _, h, hf, Nat.le_refl _, ha, ⟨by simp [exSizes], hn⟩, fun L t h1 h2 h3 => ?_⟩
  cases L with
  | nil => rw [h2] at h41; exact absurd h41 (by simp [exTexts, Lib.join_nil, hd])
  | cons e r => exact ⟨e, r, rfl, h2, by simp [exSizes]⟩
/-- The expression that a right list asks for at this place. -/
theorem Ag.wants {ok : Bool} (h : Ag b s a0 n0 w v out bs a n wr) (hg : Fits s a n e a2 n2 ok) (L : List Ex) (t : List UInt8) (h1 : exAllL L = true) (h2 : rest s a0 = Lib.join (exTexts L) [44] ++ 41 :: t) (h3 : n0 + exSizes L ≤ 80) :
    ok = true ∧ ∃ L2, L = (out ++ [e]) ++ L2 ∧ n2 = n0 + exSizes (out ++ [e]) ∧ ((L2 = [] ∧ rest s a2 = 41 :: t) ∨ ∃ e1 L3, L2 = e1 :: L3 ∧ rest s a2 = 44 :: (Lib.join (exTexts (e1 :: L3)) [44] ++ 41 :: t)) := by
  obtain ⟨e0, L2, rfl, h4, h5⟩ := h.pend L t h1 h2 h3
  rw [all_app, Bool.and_eq_true] at h1
  have ha := h1.2
  rw [exAllL, Bool.and_eq_true] at ha
  rw [sizes_more, exSizes] at h3
  cases L2 with
  | nil =>
    rw [join_uno] at h4
    obtain ⟨g1, rfl, g3, g4⟩ := hg e0 (41 :: t) ha.1 h4 (Or.inr ⟨41, t, rfl, Or.inl rfl⟩) (by omega)
    refine ⟨g1, [], by simp, ?_, Or.inl ⟨rfl, g3⟩⟩
    rw [sizes_more, exSizes, exSizes]; omega
  | cons e1 L3 =>
    rw [join_two] at h4
    obtain ⟨g1, rfl, g3, g4⟩ := hg e0 _ ha.1 h4 (Or.inr ⟨44, _, rfl, Or.inr rfl⟩) (by omega)
    refine ⟨g1, e1 :: L3, by simp, ?_, Or.inr ⟨e1, L3, rfl, g3⟩⟩
    rw [sizes_more, exSizes, exSizes]; omega
theorem Ag.push {vs : List Value} {o : Obj} {g cap : Nat} (hb : b + 6 < w.heap.size)
    (h : Ag b s a0 n0 w v out bs a n wr) (he : ExIs w2 (.agg #[.int .i64 e.kind, .string e.name, u]) e b1) (hm : Mine w2 wr.heap.size b1) (hf : Fr [b + 1, b + 2] wr w2) (hr : Env w2 b s a2 n2) (h1 : a ≤ a2) (h2 : a2 ≤ s.size) (h3 : n2 ≤ 80 ∧ exSize e + n ≤ n2) (hg : Fits s a n e a2 n2 true)
    (hvs : w2.ownsRow w.heap.size 26 3 v out.length vs ∧ CellsOf w2 out vs bs)
    (ho : w3.ownsRow w.heap.size 26 3 (.slice (some ⟨g, 0, none⟩) (out.length + 1) cap) (out.length + 1) (vs ++ [.int .i64 e.kind, .string e.name, u])) (hw : (w2.alloc o).grownBy w3 v.ownBlock) (hat : v.ownBlock = some g ∨ g = (w2.alloc o).heap.size) :
    ∃ bs3, Ah b s a0 n0 w (.slice (some ⟨g, 0, none⟩) (out.length + 1) cap) (out ++ [e]) bs3 a2 n2 w3 := by
  have hk2 : Kids w.heap.size w2 v out bs := h.kids.keep hf (fun x hx => by simp at hx; omega)
  have hrow : ∀ k, v.ownBlock = some k → w.heap.size ≤ k ∧ k < wr.heap.size := fun k hk => by
    obtain ⟨vs2, hr2, -⟩ := h.kids.row
    exact hr2.lt k hk
  have hK := hk2.push (o := o) (C := wr.heap.size) h.fr.size (fun x hx => by
    rcases hx with hx | hx
    · exact (h.kids.mine.range x hx).2
    · exact (hrow x hx).2) hvs he hm ho hw hat
  have hF3 : Fr v.ownBlock.toList (w2.alloc o) w3 := Fr.grown hw (fun k hk => by simp [hk])
  have hF : Fr v.ownBlock.toList w2 w3 := (Fr.alloc w2 o).trans hF3 (fun x hx => Or.inl hx)
  have hl := h.lo
  have hc := h.cnt
  refine ⟨_, hK, ?_, ?_, by omega, h2, ?_, fun L t g1 g2 g3 => (h.wants hg L t g1 g2 g3).2⟩
  · exact hr.keep hF (fun x hx => Or.inr (by have := (hrow x (by simpa using hx)).1; omega))
  · refine (h.fr.trans hf (fun x hx => Or.inl hx)).trans hF (fun x hx => Or.inr (hrow x (by simpa using hx)).1)
  · rw [sizes_more, exSizes, exSizes]; omega
/-- A comma follows: the list goes on. -/
theorem Ah.comma (hb : b + 6 < w.heap.size) (h : Ah b s a0 n0 w v out bs a n W) (hc : hd (rest s a) 44 = true) (hf : Fr [b + 1] W W2) (hr : Env W2 b s (a + 1) n) :
    Ag b s a0 n0 w v out bs (a + 1) n W2 := by
  have hl := h.lo
  refine ⟨h.kids.keep hf (fun x hx => by simp at hx; omega), hr, h.fr.trans hf (fun x hx => Or.inl (by simp at hx; simp [hx])), by omega, rest_lt hc, h.cnt, fun L t h1 h2 h3 => ?_⟩
  obtain ⟨L2, rfl, h5, h6⟩ := h.pend L t h1 h2 h3
  rcases h6 with ⟨rfl, h6⟩ | ⟨e1, L3, rfl, h6⟩
  · rw [h6] at hc; exact absurd hc (by simp [hd])
  · exact ⟨e1, L3, rfl, rest_next h6, h5⟩
/-- No comma follows: what has been read. -/
theorem Ah.done (hb : b + 6 < w.heap.size) (h : Ah b s a0 n0 w v out bs a n W) (hc : hd (rest s a) 44 = false) (ok : Bool) (hk : hd (rest s a) 41 = ok) (hf : Fr [b + 1] W W2) (hr : Env W2 b s (if ok then a + 1 else a) n) :
    ArgsO b s a0 n0 w (.returned (.tuple #[v, .bool ok])) W2 := by
  obtain ⟨bs2, k1, k2⟩ := (h.kids.keep hf (fun x hx => by simp at hx; omega)).is
  have hl := h.lo
  have hh := h.hi
  refine ⟨v, out, bs2, _, n, ok, rfl, k1, k2, h.fr.trans hf (fun x hx => Or.inl (by simp at hx; simp [hx])), hr, ?_, ?_, fun _ => ⟨h.cnt.2, h.cnt.1⟩, fun L t h1 h2 h3 => ?_⟩
  · split <;> omega
  · split
    · exact rest_lt (c := 41) (by rw [hk]; assumption)
    · exact hh
  · obtain ⟨L2, rfl, h5, h6⟩ := h.pend L t h1 h2 h3
    rcases h6 with ⟨rfl, h6⟩ | ⟨e1, L3, rfl, h6⟩
    · have ho : ok = true := by rw [← hk, h6]; simp [hd]
      subst ho
      exact ⟨rfl, by simp, rest_next h6, by simpa using h5⟩
    · rw [h6] at hc; exact absurd hc (by simp [hd])
/-- A part is none. -/
theorem Ag.fail (h : Ag b s a0 n0 w v out bs a n wr) (hf : Fr [b + 1, b + 2] wr w2) (hr : Env w2 b s a2 n2) (h1 : a ≤ a2) (h2 : a2 ≤ s.size) (hg : Fits s a n e a2 n2 false) (o : Obj) :
    ArgsO b s a0 n0 w (.returned (.tuple #[.slice none 0 0, .bool false])) (w2.alloc o) := by
  have hl := h.lo
  refine ⟨_, [], [], a2, n2, false, rfl, ⟨_, _, rfl, Nat.le_refl _, by omega, Or.inl ⟨rfl, rfl⟩⟩, Mine.nil _ _, (h.fr.trans hf (fun x hx => Or.inl hx)).trans (Fr.alloc w2 o) (fun x hx => Or.inl hx), hr.keep (S := []) (Fr.alloc w2 o) (by simp), by omega, h2, (fun hx => by cases hx), fun L t g1 g2 g3 => ?_⟩
  exact absurd (h.wants hg L t g1 g2 g3).1 (by simp)
/-- No argument. -/
theorem args_none (h : Env W b s (a0 + 1) n0) (hn : n0 ≤ 80) (hf : Fr [b + 1] w W) (h41 : hd (rest s a0) 41 = true) : ArgsO b s a0 n0 w (.returned (.tuple #[.slice none 0 0, .bool true])) W := by
  refine ⟨_, [], [], a0 + 1, n0, true, rfl, ⟨_, _, rfl, Nat.le_refl _, by omega, Or.inl ⟨rfl, rfl⟩⟩, Mine.nil _ _, hf.mono (fun x hx => Or.inl (by simp at hx; simp [hx])), h, by omega, rest_lt h41, fun _ => ⟨hn, by simp [exSizes]⟩, fun L t h1 h2 h3 => ?_⟩
  cases L with
  | nil =>
    refine ⟨rfl, rfl, ?_, by simp [exSizes]⟩
    rw [exTexts, Lib.join_nil] at h2
    exact rest_next h2
  | cons e r =>
    rw [exAllL, Bool.and_eq_true] at h1
    obtain ⟨x, q, e1, e2⟩ := text_head h1.1
    rw [h2, exTexts, Lib.join_cons, e1] at h41
    exact absurd h41 (by simp [hd, e2])
end

/-- What is asked of expr: k nodes may still be counted. -/
def ExprC (b : Nat) (s : ByteArray) (k : Nat) : Prop := ∀ (a n : Nat) (W : World), Env W b s a n → a ≤ s.size → n ≤ 80 → 80 - n ≤ k →
  Calls Try.prog 118 #[ptr (b + 2), ptr (b + 4), ptr (b + 3), ptr (b + 6)] W (ExprO b s a n W)

set_option maxHeartbeats 4000000 in
theorem own_pargs (b : Nat) (s : ByteArray) (hs : s.size ≤ 1048576) (k : Nat) (ih : ExprC b s k) (a0 n0 : Nat) (w : World) (h : Env w b s a0 n0) (ha : a0 ≤ s.size) (hn : n0 ≤ 80) (hk : 80 - n0 ≤ k) :
    Calls Try.prog 117 #[ptr (b + 3), ptr (b + 5)] w (ArgsO b s a0 n0 w) := by
  obtain ⟨i0, hi, hz0, hz1, hz2⟩ := info_parts Try.infoEx
  have HI := Lib.hid (And.intro hi (And.intro hz0 (And.intro hz1 hz2)))
  clear hi hz0 hz1 hz2
  have HIH := Lib.hid ih
  have HE := Lib.hid h
  have hbw := h.lt
  have t1 := h.tb.cell
  have HT := Lib.hid (own_take b s a0 n0 41 41 rfl w h ha hs)
  clear ih h
  go_enter Try.func117, Try.ntmps117
  go_wp2_with fail
  go_at_call 114
  refine HT.out.mono ?_
  rintro r w1 ⟨rfl, hf1, hr1⟩
  have HF1 := Lib.hid hf1
  clear HT
  cases h41 : hd (rest s a0) 41
  · rw [h41] at hr1
    have H0 := Lib.hid (Ag.start (w := w) (W := w1) hr1 hn ha (HF1.out.mono (fun x hx => Or.inl (by simp at hx; simp [hx]))) h41)
    clear hf1 hr1 h41
    go_wp2_with fail
    go_loopw [4] (fun v wr => ∃ (out : List Ex) (bs : List Nat) (a n : Nat), Hid (Ag b s a0 n0 w v out bs a n wr)) (fun _ wr => s.size + 1 - (intOf ((wr.cell? ⟨b + 1, 0, none⟩).getD (.int .i64 0))).toNat)
    case atStart => exact ⟨[], [], a0, n0, H0⟩
    case round =>
      clear H0
      obtain ⟨out, bs, a, n, HA⟩ := hrel
      obtain ⟨A, c, rfl, hqc, hcm⟩ := HA.out.kids.form
      obtain ⟨q, hq⟩ : ∃ q, q = out.length := ⟨_, rfl⟩
      rw [← hq] at HA hqc ⊢
      have hq2 : q ≤ 80 := by have h1 := sizes_len out; have h2 := HA.out.cnt; omega
      have HQ := Lib.hid hq
      have HCALL := Lib.hid (HIH.out a n wr HA.out.env HA.out.hi HA.out.cnt.2 (by have := HA.out.cnt; omega))
      have HME := Lib.hid (show s.size + 1 - (intOf ((wr.cell? ⟨b + 1, 0, none⟩).getD (.int .i64 0))).toNat = s.size + 1 - a by rw [HA.out.env.pb.cell]; simp [intOf])
      have C1 := Lib.hid (show q + 1 ≤ maxLen by unfold maxLen; omega)
      have C2 := Lib.hid (show (q + 1) * 48 ≤ 140737488355328 by omega)
      have x1 := HA.out.env.eb.cell
      clear hq
      go_wp2_with fail
      go_at_call 118
      refine HCALL.out.mono ?_
      rintro r w2 ⟨v2, e, b1, a2, n2, ok, rfl, his, hm2, hf2, hr2, hle, hhi, hcnt, hfit⟩
      obtain ⟨u2, rfl, -, hu2⟩ := id his
      obtain ⟨A2, c2, rfl, -⟩ := id hu2
      cases ok
      · have HD := Lib.hid (HA.out.fail hf2 hr2 hle hhi hfit (.cells #[.int .i64 e.kind, .string e.name, .slice A2 e.args.length c2] 26))
        clear his hm2 hf2 hr2 hle hhi hcnt hfit hu2
        go_wp2_with fail
        go_ret2
        exact HD.out
      · obtain ⟨-, hn2, hsz⟩ := hcnt rfl
        obtain ⟨X, hX⟩ : ∃ X, X = w2.alloc (.cells #[.int .i64 e.kind, .string e.name, .slice A2 e.args.length c2] 26) := ⟨_, rfl⟩
        have hbx : Below w2.heap.size w2 X := by rw [hX]; exact (Below.refl _ _).alloc (Nat.le_refl _) _
        have hisX := his.below hbx
        have hmX := hm2.keeps (keeps_below hbx b1)
        have hfX : Fr [b + 1, b + 2] wr X := hf2.trans (Fr.of_below (S := [b + 1, b + 2]) hbx) (fun x hx => Or.inl hx)
        have hrX := hr2.below hbx
        obtain ⟨vs, hvs, hcs⟩ := (HA.out.kids.keep hfX (fun x hx => by simp at hx; omega)).row
        have HP := Lib.hid (fun (w3 : World) (g cap : Nat) => HA.out.push (w3 := w3) (g := g) (cap := cap) (o := .cells #[.int .i64 e.kind, .string e.name, .slice A2 e.args.length c2] 26) hbw hisX hmX hfX hrX hle hhi ⟨hn2, hsz⟩ hfit ⟨hvs, hcs⟩)
        have HVS := Lib.hid (show (X.alloc (.cells #[.int .i64 e.kind, .string e.name, .slice A2 e.args.length c2] 26)).ownsRow w.heap.size 26 3 (.slice A q c) q vs from by
          have h1 := hvs.alloc (.cells #[.int .i64 e.kind, .string e.name, .slice A2 e.args.length c2] 26)
          rw [← HQ.out] at h1
          exact h1)
        rw [← HQ.out] at HP
        have C4 := Lib.hid (show w.heap.size ≤ (X.alloc (.cells #[.int .i64 e.kind, .string e.name, .slice A2 e.args.length c2] 26)).heap.size by have := HA.out.fr.size; have := hfX.size; simp; omega)
        have HNW := Lib.hid (World.news_of_block (w := X.alloc (.cells #[.int .i64 e.kind, .string e.name, .slice A2 e.args.length c2] 26)) (heap_alloc_new _ _))
        have H1C := Lib.hid (show ∀ u ∈ ([.int .i64 e.kind, .string e.name, .slice A2 e.args.length c2] : List Value), u.oneCell' = true from fun u hu => by
          simp at hu
          rcases hu with rfl | rfl | rfl <;> rfl)
        have HLE := Lib.hid hle
        subst hX
        clear his hm2 hf2 hr2 hhi hcnt hfit hvs hcs hu2 hle hbx hisX hmX hfX hrX hn2 hsz
        generalize e.args.length = p at *
        go_wp2_with (at_builtin; (refine wpList_append_lies _ rfl (.tmp 17) (.tmp 19) 24 rfl w.heap.size 26 i0 (.agg #[.int .i64 0, .string ⟨#[]⟩, .slice none 0 0]) 3 48 Try.underlying24 HI.out.1 HI.out.2.1 HI.out.2.2.1 HI.out.2.2.2 rfl (by decide) (.slice A q c) q vs rfl HVS.out ⟨w2.heap.size + 1, 0, none⟩ 1 1 [.int .i64 e.kind, .string e.name, .slice A2 p c2] rfl rfl (by have hh := HNW.out; simp only [World.size_alloc] at hh; exact hh) H1C.out (by decide) C1.out C2.out C4.out _ rfl ?_); intro g cap w3 ho3 hg3 hat3 hlt3; obtain ⟨bs3, h5⟩ := HP.out w3 g cap ho3 hg3 hat3; have H5 := Lib.hid h5; have t3 := h5.env.tb.cell; clear ho3 hg3 hat3 h5)
        have HT2 := Lib.hid (own_take b s a2 n2 44 44 rfl w3 H5.out.env H5.out.hi hs)
        go_at_call 114
        refine HT2.out.mono ?_
        rintro r w4 ⟨rfl, hf4, hr4⟩
        have HF4 := Lib.hid hf4
        have hhi := H5.out.hi
        cases h44 : hd (rest s a2) 44
        · rw [h44] at hr4
          have HR4 := Lib.hid hr4
          have t4 := hr4.tb.cell
          have HT3 := Lib.hid (own_take b s a2 n2 41 41 rfl w4 hr4 hhi hs)
          have H44 := Lib.hid h44
          clear hr4 hf4 HT2 h44
          go_wp2_with fail
          go_at_call 114
          refine HT3.out.mono ?_
          rintro r w5 ⟨rfl, hf5, hr5⟩
          have HD := Lib.hid (H5.out.done hbw H44.out (hd (rest s a2) 41) rfl (HF4.out.trans hf5 (fun x hx => Or.inl hx)) hr5)
          clear hf5 hr5 HT3
          go_wp2_with fail
          go_ret2
          exact HD.out
        · rw [h44] at hr4
          have HA2 := Lib.hid (H5.out.comma hbw h44 hf4 hr4)
          have HM2 := Lib.hid (show s.size + 1 - (intOf ((w4.cell? ⟨b + 1, 0, none⟩).getD (.int .i64 0))).toNat < s.size + 1 - (intOf ((wr.cell? ⟨b + 1, 0, none⟩).getD (.int .i64 0))).toNat by
            rw [HME.out, (Env.pb hr4).cell]
            have h1 := HLE.out
            have h2 := rest_lt h44
            rw [show ((some (Value.int .i64 ((if true = true then a2 + 1 else a2 : Nat) : Int))).getD (.int .i64 0)) = .int .i64 ((a2 + 1 : Nat) : Int) from rfl, show intOf (.int .i64 ((a2 + 1 : Nat) : Int)) = ((a2 + 1 : Nat) : Int) from rfl, Int.toNat_natCast]
            omega)
          clear hr4 hf4 HT2 h44
          go_wp2_with fail
          go_roundw
          case rel => exact ⟨_, _, _, _, HA2⟩
          case measure => exact HM2.out
  · rw [h41] at hr1
    have HD := Lib.hid (args_none hr1 hn hf1 h41)
    clear hf1 hr1 h41
    go_wp2_with fail
    go_ret2
    exact HD.out
end Go.Proofs.Ytmndlhbgacgnlaa

namespace Go.Proofs.Ytmndlhbgacgnlaa
open Go Go.RowKit

theorem cut_le (l : List UInt8) : (wordCut l).length ≤ l.length := by
  rcases cut_any l with ⟨-, h⟩ | ⟨-, h⟩
  · rw [h]; exact Nat.le_refl _
  · exact h
theorem node_args (x : ByteArray) (o : Bool) : (nodeE x o).1.args = [] := by
  unfold nodeE
  split <;> rfl
theorem node_size (x : ByteArray) (o : Bool) : (nodeE x o).1.name.size ≤ x.size := by
  unfold nodeE
  split
  · exact Nat.zero_le _
  · show (if _ then _ else _ : ByteArray).size ≤ _
    split
    · exact Nat.zero_le _
    · exact Nat.le_refl _
theorem node_pos {x : ByteArray} {o : Bool} (h : (nodeE x o).2 = true) : 1 ≤ x.size := by
  apply Decidable.byContradiction
  intro hh
  have h0 : x.data.toList = [] := List.eq_nil_of_length_eq_zero (by rw [sizeN]; omega)
  unfold nodeE nodeK at h
  rw [h0] at h
  cases h
theorem ex_eta (e : Ex) : e = .mk e.kind e.name e.args := by cases e; rfl

/-- The world where expr has counted its node. -/
def E0 (w : World) (b N : Nat) : World := (w.setCell ⟨b + 2, 0, none⟩ (.int .i64 (N : Int))).alloc (.cells #[.int .i64 0, .string ⟨#[]⟩, .slice none 0 0] 26)
theorem e0_facts {w : World} {b : Nat} {s : ByteArray} {a n : Nat} (h : Env w b s a n) (N : Nat) :
    Fr [b + 1, b + 2] w (E0 w b N) ∧ Env (E0 w b N) b s a N ∧ Bx (E0 w b N) w.heap.size 0 ⟨#[]⟩ (.slice none 0 0) ∧ (E0 w b N).heap.size = w.heap.size + 1 := by
  refine ⟨(Fr.set (S := [b + 1, b + 2]) w ⟨b + 2, 0, none⟩ _ (by simp)).trans (Fr.alloc (S := [b + 1, b + 2]) _ _) (fun x hx => Or.inl hx), (h.cnt N).keep (Fr.alloc (S := []) _ _) (by simp), ?_, by simp [E0, World.setCell]⟩
  have := heap_alloc_new (w.setCell ⟨b + 2, 0, none⟩ (.int .i64 (N : Int))) (.cells #[.int .i64 0, .string ⟨#[]⟩, .slice none 0 0] 26)
  rw [show (w.setCell ⟨b + 2, 0, none⟩ (.int .i64 (N : Int))).heap.size = w.heap.size by simp [World.setCell]] at this
  exact this

theorem nset_fr (W : World) (R : Nat) (K : Int) (S : ByteArray) (u : Value) : Fr [R] W (nset W R K S u) :=
  ((Fr.set (S := [R]) W ⟨R, 0, none⟩ _ (by simp)).trans (Fr.set (S := [R]) _ ⟨R, 1, none⟩ _ (by simp)) (fun x hx => Or.inl hx)).trans (Fr.set (S := [R]) _ ⟨R, 2, none⟩ _ (by simp)) (fun x hx => Or.inl hx)
/-- The word at a place and what stands behind it. -/
theorem fit_at (s : ByteArray) (a : Nat) (ha : a ≤ s.size) : ∃ (X : ByteArray) (P : Nat), X = ⟨(wordCut (rest s a)).toArray⟩ ∧ P = a + (wordCut (rest s a)).length ∧ P ≤ s.size ∧ X.size = P - a ∧
    ∀ k S L t, exAll (.mk k S L) = true → rest s a = exText (.mk k S L) ++ t → Stop t → (hd (rest s P) 40 = false ∧ L = [] ∧ rest s P = t ∧ nodeE X false = (.mk k S [], true)) ∨ (hd (rest s P) 40 = true ∧ rest s (P + 1) = Lib.join (exTexts L) [44] ++ 41 :: t ∧ nodeE X true = (.mk k S [], true)) := by
  have h1 := cut_le (rest s a)
  rw [rest_len] at h1
  refine ⟨_, _, rfl, rfl, by omega, ?_, fun k S L t g1 g2 g3 => ?_⟩
  · show (List.toArray _).size = _
    simp
  · rcases fit_word g1 g2 g3 with ⟨-, q1, q2, q3, q4⟩ | ⟨-, q1, q2, q3⟩
    · rw [rest_drop] at q1 q3
      exact Or.inl ⟨q1, q2, q3, q4⟩
    · rw [rest_drop] at q1
      rw [rest_drop, rest_drop] at q2
      exact Or.inr ⟨q1, q2, q3⟩
section
variable {b : Nat} {s : ByteArray} {a n N P a2 : Nat} {w W w4 : World} {X S : ByteArray} {o ok : Bool} {K : Int}
/-- What is known behind nodeOfWord. -/
structure Eg (b : Nat) (s : ByteArray) (a n : Nat) (w : World) (X : ByteArray) (P N : Nat) (o : Bool) (a2 : Nat) (w4 : World) : Prop where
  fr : Fr [b + 1, b + 2] w w4
  env : Env w4 b s a2 N
  bx : Bx w4 w.heap.size 0 ⟨#[]⟩ (.slice none 0 0)
  lo : a ≤ P
  hi : P ≤ s.size
  sz : X.size = P - a
  cnt : N = n + 1
  at_ : a2 = (if o then P + 1 else P)
  op : hd (rest s P) 40 = o
  fit : ∀ k S L t, exAll (.mk k S L) = true → rest s a = exText (.mk k S L) ++ t → Stop t → (hd (rest s P) 40 = false ∧ L = [] ∧ rest s P = t ∧ nodeE X false = (.mk k S [], true)) ∨ (hd (rest s P) 40 = true ∧ rest s (P + 1) = Lib.join (exTexts L) [44] ++ 41 :: t ∧ nodeE X true = (.mk k S [], true))
theorem Eg.le (h : Eg b s a n w X P N o a2 w4) : a ≤ a2 ∧ a2 ≤ s.size := by
  have h1 := h.lo
  have h2 := h.hi
  rw [h.at_]
  split
  · exact ⟨by omega, rest_lt (c := 40) (by rw [h.op]; assumption)⟩
  · exact ⟨h1, h2⟩
theorem Eg.right (h : Eg b s a n w X P N o a2 w4) : ∀ k S L t, exAll (.mk k S L) = true → rest s a = exText (.mk k S L) ++ t → Stop t → nodeE X o = (.mk k S [], true) := fun k S L t h1 h2 h3 => by
  rcases h.fit k S L t h1 h2 h3 with ⟨q1, -, -, q2⟩ | ⟨q1, -, q2⟩
  · rw [h.op] at q1; subst q1; exact q2
  · rw [h.op] at q1; subst q1; exact q2
/-- It is none, or there are too many. -/
theorem Eg.fail (hb : b + 6 < w.heap.size) (h : Eg b s a n w X P N o a2 w4) (hno : (nodeE X o).2 = false ∨ 80 < N) (ob : Obj) :
    ExprO b s a n w (.returned (.tuple #[.agg #[.int .i64 0, .string ⟨#[]⟩, .slice none 0 0], .bool false])) ((nset w4 w.heap.size 0 ⟨#[]⟩ (.slice none 0 0)).alloc ob) ∧ Bx ((nset w4 w.heap.size 0 ⟨#[]⟩ (.slice none 0 0)).alloc ob) w.heap.size 0 ⟨#[]⟩ (.slice none 0 0) := by
  have hf : Fr [w.heap.size] w4 ((nset w4 w.heap.size 0 ⟨#[]⟩ (.slice none 0 0)).alloc ob) := (nset_fr w4 w.heap.size 0 ⟨#[]⟩ (.slice none 0 0)).trans (Fr.alloc (S := [w.heap.size]) _ _) (fun x hx => Or.inl hx)
  refine ⟨⟨_, zeroEx, [], a2, N, false, rfl, leaf_isN _ (by decide), Mine.nil _ _, h.fr.trans hf (fun x hx => Or.inr (by simp at hx; omega)), h.env.keep hf (fun x hx => by simp at hx; omega), h.le.1, h.le.2, (fun hx => by cases hx), fun e0 t g1 g2 g3 g4 => ?_⟩, (nset_box h.bx 0 ⟨#[]⟩ (.slice none 0 0)).keep (Fr.alloc (S := []) _ _) (by simp)⟩
  exfalso
  cases e0 with
  | mk k S L =>
  have h1 := h.right k S L t g1 g2 g3
  rcases hno with hno | hno
  · rw [h1] at hno; cases hno
  · have := exSize_pos (.mk k S L)
    have := h.cnt
    omega
/-- It is one without parentheses. -/
theorem Eg.plain (hb : b + 6 < w.heap.size) (hs : s.size ≤ 1048576) (h : Eg b s a n w X P N false a2 w4) (hK : nodeE X false = (.mk K S [], true)) (hN : N ≤ 80) (ob : Obj) :
    ExprO b s a n w (.returned (.tuple #[.agg #[.int .i64 K, .string S, .slice none 0 0], .bool true])) ((nset w4 w.heap.size K S (.slice none 0 0)).alloc ob) ∧ Bx ((nset w4 w.heap.size K S (.slice none 0 0)).alloc ob) w.heap.size K S (.slice none 0 0) := by
  have hf : Fr [w.heap.size] w4 ((nset w4 w.heap.size K S (.slice none 0 0)).alloc ob) := (nset_fr w4 w.heap.size K S (.slice none 0 0)).trans (Fr.alloc (S := [w.heap.size]) _ _) (fun x hx => Or.inl hx)
  have h1 := node_size X false
  have h2 := node_pos (x := X) (o := false) (by rw [hK])
  rw [hK] at h1
  have h3 := h.sz
  have h4 := h.hi
  have h5 := h.cnt
  have h6 := h.at_
  simp only [Ex.name] at h1
  have h7 : a2 = P := h6
  refine ⟨⟨_, .mk K S [], [], a2, N, true, rfl, leaf_isN _ (by omega), Mine.nil _ _, h.fr.trans hf (fun x hx => Or.inr (by simp at hx; omega)), h.env.keep hf (fun x hx => by simp at hx; omega), h.le.1, h.le.2, (fun _ => ⟨by omega, hN, by simp [exSize, exSizes]; omega⟩), fun e0 t g1 g2 g3 g4 => ?_⟩, (nset_box h.bx K S (.slice none 0 0)).keep (Fr.alloc (S := []) _ _) (by simp)⟩
  cases e0 with
  | mk k S2 L =>
  rcases h.fit k S2 L t g1 g2 g3 with ⟨-, q1, q2, q3⟩ | ⟨q1, -⟩
  · rw [hK] at q3
    obtain ⟨q4, -⟩ := Prod.mk.inj q3
    subst q1
    refine ⟨rfl, q4, by rw [h7]; exact q2, ?_⟩
    simp [exSize, exSizes]
    omega
  · rw [h.op] at q1; cases q1
/-- It is one with parentheses. -/
theorem Eg.call {w6 : World} {v : Value} {l : List Ex} {bs : List Nat} {a3 n3 : Nat} (hb : b + 6 < w.heap.size) (hs : s.size ≤ 1048576) (h : Eg b s a n w X P N true a2 w4) (hK : nodeE X true = (.mk K S [], true))
    (hl : SlIs w6 v l bs) (hm : Mine w6 (w4.alloc (.cells #[.int .i64 K, .string S, .slice none 0 0] 26)).heap.size bs) (hf : Fr [b + 1, b + 2] (w4.alloc (.cells #[.int .i64 K, .string S, .slice none 0 0] 26)) w6) (he : Env w6 b s a3 n3) (h1 : a2 ≤ a3) (h2 : a3 ≤ s.size) (h3 : ok = true → n3 ≤ 80 ∧ exSizes l + N ≤ n3) (hg : FitsL s a2 N l a3 n3 ok) :
    ExprO b s a n w (.returned (.tuple #[.agg #[.int .i64 K, .string S, v], .bool ok])) (nset (w6.setCell ⟨w4.heap.size, 2, none⟩ v) w.heap.size K S v) ∧ Bx (nset (w6.setCell ⟨w4.heap.size, 2, none⟩ v) w.heap.size K S v) w.heap.size K S v := by
  have hR := h.bx.cells.2.2.2
  have hbx : Bx w6 w.heap.size 0 ⟨#[]⟩ (.slice none 0 0) := (h.bx.keep (Fr.alloc (S := []) _ _) (by simp)).keep hf (by simp; omega)
  have hf2 : Fr [w4.heap.size, w.heap.size] w6 (nset (w6.setCell ⟨w4.heap.size, 2, none⟩ v) w.heap.size K S v) :=
    (Fr.set (S := [w4.heap.size, w.heap.size]) w6 ⟨w4.heap.size, 2, none⟩ v (by simp)).trans (nset_fr _ _ _ _ _) (fun x hx => Or.inl (by simp at hx; simp [hx]))
  have hk : Keeps w6 (nset (w6.setCell ⟨w4.heap.size, 2, none⟩ v) w.heap.size K S v) bs := ⟨hf2.size, fun x hx hlt => hf2.block x hlt (fun hh => by
    have := (hm.range x hx).1
    simp at hh this
    omega)⟩
  have g1 := node_size X true
  have g2 := node_pos (x := X) (o := true) (by rw [hK])
  rw [hK] at g1
  have g3 := h.sz
  have g4 := h.hi
  have g5 := h.cnt
  have g6 := h.at_
  simp only [Ex.name] at g1
  have g7 : a2 = P + 1 := g6
  have g8 := h.lo
  refine ⟨⟨_, .mk K S l, bs, a3, n3, ok, rfl, ⟨v, rfl, by simp only [Ex.name]; omega, hl.keeps hk⟩, (hm.keeps hk).mono (by simp; omega), ((h.fr.trans (Fr.alloc (S := [b + 1, b + 2]) _ _) (fun x hx => Or.inl hx)).trans hf (fun x hx => Or.inl hx)).trans hf2 (fun x hx => Or.inr (by simp at hx; omega)), he.keep hf2 (fun x hx => by simp at hx; omega), by omega, h2, (fun hk => ⟨by omega, (h3 hk).1, by have := (h3 hk).2; rw [exSize]; omega⟩), fun e0 t q1 q2 q3 q4 => ?_⟩, ?_⟩
  · cases e0 with
    | mk k S2 L =>
    rcases h.fit k S2 L t q1 q2 q3 with ⟨r1, -⟩ | ⟨-, r1, r2⟩
    · rw [h.op] at r1; cases r1
    · rw [hK] at r2
      obtain ⟨r4, -⟩ := Prod.mk.inj r2
      obtain ⟨rfl, rfl, -⟩ := Ex.mk.inj r4
      rw [exAll, Bool.and_eq_true] at q1
      rw [exSize] at q4
      obtain ⟨p1, rfl, p3, p4⟩ := hg L t q1.1 (by rw [g7]; exact r1) (by omega)
      exact ⟨p1, rfl, p3, by rw [exSize]; omega⟩
  · exact nset_box (w := w) (hbx.far (p := ⟨w4.heap.size, 2, none⟩) (v := v) (by show w.heap.size ≠ w4.heap.size; omega)) K S v
end

set_option maxHeartbeats 4000000 in
theorem expr_step (b : Nat) (s : ByteArray) (hs : s.size ≤ 1048576) (k : Nat)
    (ih : ∀ (a n : Nat) (W : World), Env W b s a n → a ≤ s.size → n ≤ 80 → 80 - n < k → Calls Try.prog 117 #[ptr (b + 3), ptr (b + 5)] W (ArgsO b s a n W))
    (a n : Nat) (w : World) (h : Env w b s a n) (ha : a ≤ s.size) (hn : n ≤ 80) (hk : 80 - n ≤ k) :
    Calls Try.prog 118 #[ptr (b + 2), ptr (b + 4), ptr (b + 3), ptr (b + 6)] w (ExprO b s a n w) := by
  obtain ⟨N, hN⟩ : ∃ N, N = n + 1 := ⟨_, rfl⟩
  have hadd : IntKind.i64.wrap ((n : Int) + 1) = (N : Int) := by rw [hN]; exact IntWalk.i64_in _ (by omega)
  have HIH := Lib.hid ih
  have HN := Lib.hid hN
  have hbw := h.lt
  have n1 := h.nb.cell
  have n2 := h.nb.frozen
  have n3 := h.nb.lt
  obtain ⟨f0, v0, x0, z0⟩ := e0_facts h N
  have HF0 := Lib.hid f0
  have HX0 := Lib.hid x0
  have HZ0 := Lib.hid z0
  have e4 : (E0 w b N).cell? ⟨b + 4, 0, none⟩ = some _ := v0.wb.cell
  have HW := Lib.hid (own_word b s a N (E0 w b N) v0 ha hs)
  clear f0 v0 x0 z0 ih hN h
  obtain ⟨X, P, hX, hP, hPs, hXs, hfit⟩ := fit_at s a ha
  have haP : a ≤ P := by omega
  unfold WordO at HW
  rw [← hX, ← hP] at HW
  have HFIT := Lib.hid hfit
  clear hX hP hfit
  unfold E0 at e4
  go_enter Try.func118, Try.ntmps118
  go_wp2_with fail
  go_at_call 115
  refine HW.out.mono ?_
  rintro r w2 ⟨rfl, hf2, hr2⟩
  have HF2 := Lib.hid (HF0.out.trans hf2 (fun x hx => Or.inl (by simp at hx; simp [hx])))
  have HX2 := Lib.hid (HX0.out.keep hf2 (by simp; omega))
  have t2 := hr2.tb.cell
  have HT := Lib.hid (own_take b s P N 40 40 rfl w2 hr2 hPs hs)
  clear hf2 hr2 HW HF0 HX0 e4
  go_wp2_with fail
  go_at_call 114
  refine HT.out.mono ?_
  rintro r w3 ⟨rfl, hf3, hr3⟩
  have HF3 := Lib.hid (HF2.out.trans hf3 (fun x hx => Or.inl (by simp at hx; simp [hx])))
  have HX3 := Lib.hid (HX2.out.keep hf3 (by simp; omega))
  obtain ⟨o, ho⟩ : ∃ o, hd (rest s P) 40 = o := ⟨_, rfl⟩
  rw [ho] at hr3 ⊢
  have HO := Lib.hid ho
  have HR3 := Lib.hid hr3
  have HND := Lib.hid (own_node X o w3)
  clear hf3 hr3 ho HT HF2 HX2 t2
  go_wp2_with fail
  go_at_call 119
  refine HND.out.mono ?_
  rintro r w4 ⟨rfl, hb4⟩
  have HE := Lib.hid (show Eg b s a n w X P N o _ w4 from ⟨HF3.out.trans (Fr.of_below (S := [b + 1, b + 2]) hb4) (fun x hx => Or.inl hx), HR3.out.below hb4, HX3.out.keep (Fr.of_below (S := []) hb4) (by simp), haP, hPs, hXs, HN.out, rfl, HO.out, HFIT.out⟩)
  obtain ⟨q0, q1, q2, q3⟩ := HE.out.bx.cells
  have g0 := HE.out.bx.thaw 0
  have g1 := HE.out.bx.thaw 1
  have g2 := HE.out.bx.thaw 2
  have m1 := HE.out.env.nb.cell
  have m3 := HE.out.env.nb.lt
  have HNA := Lib.hid (node_args X o)
  clear hb4 HND HF3 HX3 HR3
  obtain ⟨y, hy⟩ : ∃ y, nodeE X o = y := ⟨_, rfl⟩
  rw [hy] at HNA ⊢
  have HY := Lib.hid hy
  clear hy
  obtain ⟨e1, ok⟩ := y
  cases e1 with
  | mk K S L0 =>
  obtain rfl : L0 = [] := HNA.out
  clear HNA
  simp only [Ex.kind, Ex.name]
  cases ok
  · obtain ⟨d1, d2⟩ := HE.out.fail hbw (Or.inl (by rw [HY.out])) (.cells #[.int .i64 K, .string S, .slice none 0 0] 26)
    obtain ⟨r0, r1, r2, -⟩ := d2.cells
    have HD := Lib.hid d1
    unfold nset at r0 r1 r2 HD
    clear d1 d2
    go_wp2_with fail
    refine bodyPost_ret (v := .tuple #[.agg #[.int .i64 0, .string ⟨#[]⟩, .slice none 0 0], .bool false]) (by simp [results, Try.results118, go_sem, r0, r1, r2]) rfl ?_
    exact HD.out
  · by_cases h80 : 80 < N
    · have h80i : 80 < (N : Int) := by omega
      obtain ⟨d1, d2⟩ := HE.out.fail hbw (Or.inr h80) (.cells #[.int .i64 K, .string S, .slice none 0 0] 26)
      obtain ⟨r0, r1, r2, -⟩ := d2.cells
      have HD := Lib.hid d1
      unfold nset at r0 r1 r2 HD
      clear d1 d2
      go_wp2_with fail
      refine bodyPost_ret (v := .tuple #[.agg #[.int .i64 0, .string ⟨#[]⟩, .slice none 0 0], .bool false]) (by simp [results, Try.results118, go_sem, r0, r1, r2]) rfl ?_
      exact HD.out
    · have h80i : ¬ 80 < (N : Int) := by omega
      have h80j : (N : Int) ≤ 80 := by omega
      cases o
      · obtain ⟨d1, d2⟩ := HE.out.plain hbw hs HY.out (by omega) (.cells #[.int .i64 K, .string S, .slice none 0 0] 26)
        obtain ⟨r0, r1, r2, -⟩ := d2.cells
        have HD := Lib.hid d1
        unfold nset at r0 r1 r2 HD
        clear d1 d2
        go_wp2_with fail
        refine bodyPost_ret (v := .tuple #[.agg #[.int .i64 K, .string S, .slice none 0 0], .bool true]) (by simp [results, Try.results118, go_sem, r0, r1, r2]) rfl ?_
        exact HD.out
      · obtain ⟨w5, hw5⟩ : ∃ w5, w5 = w4.alloc (.cells #[.int .i64 K, .string S, .slice none 0 0] 26) := ⟨_, rfl⟩
        have a1 := HE.out.env.ab.cell
        have a3 := HE.out.env.ab.lt
        have henv5 : Env w5 b s (P + 1) N := by rw [hw5]; exact HE.out.env.keep (Fr.alloc (S := []) _ _) (by simp)
        have HCALL := Lib.hid (HIH.out (P + 1) N w5 henv5 (by have := HE.out.le.2; exact this) (by omega) (by have := HN.out; omega))
        have hbx5 : Bx w5 w4.heap.size K S (.slice none 0 0) := by rw [hw5]; exact heap_alloc_new _ _
        have HBX5 := Lib.hid hbx5
        have hRX := (HE.out.bx.keep (Fr.alloc (S := []) w4 (.cells #[.int .i64 K, .string S, .slice none 0 0] 26)) (by simp))
        rw [← hw5] at hRX
        have HRX := Lib.hid hRX
        have HW5 := Lib.hid hw5
        clear henv5 hbx5 hRX
        go_wp2_with fail
        rw [← HW5.out]
        go_at_call 117
        refine HCALL.out.mono ?_
        rintro r w6 ⟨v, l, bs, a3, n3, ok, rfl, hl, hm, hf, he, h1, h2, h3, hg⟩
        obtain ⟨A2, c2, rfl, -⟩ := id hl
        obtain ⟨d1, d2⟩ := HE.out.call hbw hs HY.out hl (by rw [← HW5.out]; exact hm) (by rw [← HW5.out]; exact hf) he h1 h2 h3 hg
        have hb6 := HBX5.out.keep hf (by have := HE.out.bx.cells.2.2.2; simp; omega)
        obtain ⟨p0, p1, p2, p3⟩ := hb6.cells
        have f2 := hb6.thaw 2
        have hr6 := HRX.out.keep hf (by simp; omega)
        obtain ⟨u0, u1, u2, u3⟩ := hr6.cells
        have v0 := hr6.thaw 0
        have v1 := hr6.thaw 1
        have v2 := hr6.thaw 2
        obtain ⟨r0, r1, r2, -⟩ := d2.cells
        have HD := Lib.hid d1
        have hne : ¬ w.heap.size = w4.heap.size := by have := HE.out.bx.cells.2.2.2; omega
        have hne2 : ¬ w4.heap.size = w.heap.size := fun hh => hne hh.symm
        unfold nset at r0 r1 r2 HD
        clear d1 d2 hl hm hf he h1 h2 h3 hg hb6 hr6 a1 a3 m1 m3 q0 q1 q2 q3 g0 g1 g2 HRX HBX5 HW5 HCALL HY HE
        generalize w4.heap.size = E at *
        generalize w.heap.size = R at *
        generalize l.length = p at *
        go_wp2_with fail
        refine bodyPost_ret (v := .tuple #[.agg #[.int .i64 K, .string S, .slice A2 p c2], .bool ok]) (by simp [results, Try.results118, go_sem, r0, r1, r2]) rfl ?_
        exact HD.out

theorem expr_all (b : Nat) (s : ByteArray) (hs : s.size ≤ 1048576) : ∀ k, ExprC b s k := by
  intro k
  induction k with
  | zero => exact fun a n W h ha hn hk => expr_step b s hs 0 (fun _ _ _ _ _ _ hlt => absurd hlt (Nat.not_lt_zero _)) a n W h ha hn hk
  | succ k ih => exact fun a n W h ha hn hk => expr_step b s hs (k + 1) (fun a n W h ha hn hlt => own_pargs b s hs k ih a n W h ha hn (by omega)) a n W h ha hn hk
end Go.Proofs.Ytmndlhbgacgnlaa

namespace Go.Proofs.Ytmndlhbgacgnlaa
open Go Go.RowKit

/-- The world in which exprParser has made its variables. -/
def P0 (w : World) (s : ByteArray) : World :=
  ((((((w.alloc (.cells #[.string s] 9)).alloc (.cells #[.int .i64 0] 3)).alloc (.cells #[.int .i64 0] 3)).alloc
    (.cells #[.func (.func 114) #[] #[ptr (w.heap.size + 1), ptr w.heap.size]] 163)).alloc
    (.cells #[.func (.func 115) #[] #[ptr w.heap.size, ptr (w.heap.size + 1)]] 165)).alloc
    (.cells #[.func (.func 118) #[] #[ptr (w.heap.size + 2), ptr (w.heap.size + 4), ptr (w.heap.size + 3), ptr (w.heap.size + 6)]] 98)).alloc
    (.cells #[.func (.func 117) #[] #[ptr (w.heap.size + 3), ptr (w.heap.size + 5)]] 166)
theorem p0_env (w : World) (s : ByteArray) : Env (P0 w s) w.heap.size s 0 0 ∧ Below w.heap.size w (P0 w s) := by
  unfold P0
  refine ⟨⟨?_, ?_, ?_, ?_, ?_, ?_, ?_⟩, ?_⟩
  · exact ((((((Boxed.new w _ _).alloc _).alloc _).alloc _).alloc _).alloc _).alloc _
  · have h := Boxed.new (w.alloc (.cells #[.string s] 9)) 3 (.int .i64 0)
    simp only [World.size_alloc] at h
    exact ((((h.alloc _).alloc _).alloc _).alloc _).alloc _
  · have h := Boxed.new ((w.alloc (.cells #[.string s] 9)).alloc (.cells #[.int .i64 0] 3)) 3 (.int .i64 0)
    simp only [World.size_alloc] at h
    exact (((h.alloc _).alloc _).alloc _).alloc _
  · have h := Boxed.new (((w.alloc (.cells #[.string s] 9)).alloc (.cells #[.int .i64 0] 3)).alloc (.cells #[.int .i64 0] 3)) 163 (.func (.func 114) #[] #[ptr (w.heap.size + 1), ptr w.heap.size])
    simp only [World.size_alloc] at h
    exact ((h.alloc _).alloc _).alloc _
  · have h := Boxed.new ((((w.alloc (.cells #[.string s] 9)).alloc (.cells #[.int .i64 0] 3)).alloc (.cells #[.int .i64 0] 3)).alloc
      (.cells #[.func (.func 114) #[] #[ptr (w.heap.size + 1), ptr w.heap.size]] 163)) 165 (.func (.func 115) #[] #[ptr w.heap.size, ptr (w.heap.size + 1)])
    simp only [World.size_alloc] at h
    exact (h.alloc _).alloc _
  · have h := Boxed.new (((((w.alloc (.cells #[.string s] 9)).alloc (.cells #[.int .i64 0] 3)).alloc (.cells #[.int .i64 0] 3)).alloc
      (.cells #[.func (.func 114) #[] #[ptr (w.heap.size + 1), ptr w.heap.size]] 163)).alloc
      (.cells #[.func (.func 115) #[] #[ptr w.heap.size, ptr (w.heap.size + 1)]] 165)) 98 (.func (.func 118) #[] #[ptr (w.heap.size + 2), ptr (w.heap.size + 4), ptr (w.heap.size + 3), ptr (w.heap.size + 6)])
    simp only [World.size_alloc] at h
    exact h.alloc _
  · have h := Boxed.new ((((((w.alloc (.cells #[.string s] 9)).alloc (.cells #[.int .i64 0] 3)).alloc (.cells #[.int .i64 0] 3)).alloc
      (.cells #[.func (.func 114) #[] #[ptr (w.heap.size + 1), ptr w.heap.size]] 163)).alloc
      (.cells #[.func (.func 115) #[] #[ptr w.heap.size, ptr (w.heap.size + 1)]] 165)).alloc
      (.cells #[.func (.func 118) #[] #[ptr (w.heap.size + 2), ptr (w.heap.size + 4), ptr (w.heap.size + 3), ptr (w.heap.size + 6)]] 98)) 166 (.func (.func 117) #[] #[ptr (w.heap.size + 3), ptr (w.heap.size + 5)])
    simp only [World.size_alloc] at h
    exact h
  · exact (((((((Below.refl w.heap.size w).alloc (Nat.le_refl _) _).alloc (by simp) _).alloc (by simp; omega) _).alloc (by simp; omega) _).alloc (by simp; omega) _).alloc (by simp; omega) _).alloc (by simp; omega) _

def MadeO (s : ByteArray) (w : World) (r : Ending) (w2 : World) : Prop :=
  r = .returned (.func (.func 118) #[] #[ptr (w.heap.size + 2), ptr (w.heap.size + 4), ptr (w.heap.size + 3), ptr (w.heap.size + 6)]) ∧ Env w2 w.heap.size s 0 0 ∧ Below w.heap.size w w2
set_option maxHeartbeats 2000000 in
theorem own_made (s : ByteArray) (w : World) : Calls Try.prog 71 #[.string s] w (MadeO s w) := by
  have HP := Lib.hid (p0_env w s)
  go_enter Try.func71, Try.ntmps71
  go_wp2_with fail
  go_ret
  exact ⟨rfl, HP.out⟩

theorem fits_none {s : ByteArray} {e : Ex} {a2 n2 : Nat} {ok : Bool} (hg : Fits s 0 0 e a2 n2 ok) (h : ok = false ∨ exFmt e ≠ s) : exParse s = none := by
  cases hp : exParse s with
  | none => rfl
  | some e0 =>
    exfalso
    obtain ⟨h1, h2⟩ := parse_some hp
    have h3 : rest s 0 = exText e0 ++ [] := by
      have hf : exFmt e0 = exStr e0 := by unfold exFmt; rw [h1]; rfl
      rw [← h2, hf]
      unfold rest exStr
      simp
    obtain ⟨g1, g2, -, -⟩ := hg e0 [] (valid_all h1).1 h3 (Or.inl rfl) (by have := (valid_all h1).2; omega)
    rcases h with h | h
    · rw [g1] at h; cases h
    · rw [g2] at h; exact h h2
theorem fits_some {s : ByteArray} {e : Ex} {a2 : Nat} (h0 : 0 < a2) (h1 : a2 ≤ s.size) (h : exFmt e = s) : exParse s = some e := by
  have hv : exValid e = true := by
    cases hv : exValid e with
    | true => rfl
    | false =>
      have hf : exFmt e = ⟨#[]⟩ := by unfold exFmt; rw [hv]; rfl
      rw [h] at hf
      rw [hf] at h1
      have : (⟨#[]⟩ : ByteArray).size = 0 := rfl
      omega
  rw [← h]
  exact parse_text hv

set_option maxHeartbeats 4000000 in
theorem own_parse (s : ByteArray) (w : World) (hs : s.size ≤ 1048576) :
    Calls Try.prog 30 #[.string s] w (ParsePost s w) := by
  obtain ⟨W1, hW1⟩ : ∃ W1, W1 = w.alloc (.cells #[.int .i64 0, .string ⟨#[]⟩, .slice none 0 0] 26) := ⟨_, rfl⟩
  have hsz1 : W1.heap.size = w.heap.size + 1 := by rw [hW1]; simp
  have hb1 : Bx W1 w.heap.size 0 ⟨#[]⟩ (.slice none 0 0) := by rw [hW1]; exact heap_alloc_new _ _
  have hl1 : Below w.heap.size w W1 := by rw [hW1]; exact (Below.refl _ _).alloc (Nat.le_refl _) _
  have HCALL := Lib.hid (fun (W : World) (h : Env W W1.heap.size s 0 0) => expr_all (W1.heap.size) s hs 80 0 0 W h (Nat.zero_le _) (by omega) (by omega))
  have HM := Lib.hid (own_made s W1)
  have HB1 := Lib.hid hb1
  have HL1 := Lib.hid hl1
  have HW1 := Lib.hid hW1
  have HSZ := Lib.hid hsz1
  clear hb1 hl1 hW1 hsz1
  go_enter Try.func30, Try.ntmps30
  go_wp2_with fail
  go_at_call 71
  rw [← HW1.out]
  refine HM.out.mono ?_
  rintro r wp ⟨rfl, hep, hlp⟩
  have HB1p := Lib.hid (HB1.out.keep (Fr.of_below (S := []) hlp) (by simp))
  have HL1p := Lib.hid (HL1.out.trans (hlp.mono HL1.out.size))
  have HPS := Lib.hid (show W1.heap.size + 6 < wp.heap.size from hep.lt)
  have HEP := Lib.hid hep
  clear hep hlp
  go_wp2_with fail
  go_at_call 118
  refine (HCALL.out wp HEP.out).mono ?_
  have hsz1 := HSZ.out
  rintro r w2 ⟨v2, e, b1, a2, n2, ok, rfl, his, hm2, hf2, -, -, hhi, hcnt, hgot⟩
  obtain ⟨u2, rfl, hns, hu2⟩ := id his
  obtain ⟨A2, c2, rfl, -⟩ := id hu2
  have HL2 := Lib.hid (show Below w.heap.size w w2 from HL1p.out.trans (hf2.below (by simp; omega) (by have := HPS.out; omega)))
  have hb2 := HB1p.out.keep hf2 (by simp; omega)
  obtain ⟨e0, e1, e2, hBw⟩ := hb2.cells
  have g0 := hb2.thaw 0
  have g1 := hb2.thaw 1
  have g2 := hb2.thaw 2
  have HB2 := Lib.hid hb2
  have HI2 := Lib.hid (And.intro his hm2)
  have HG := Lib.hid hgot
  have HH := Lib.hid (And.intro hhi hcnt)
  have hss : w.heap.size < w2.heap.size := hBw
  have hC : w.heap.size < wp.heap.size := by have := HPS.out; omega
  generalize wp.heap.size = C at *
  clear hb2 his hm2 hf2 hgot hu2 HCALL HB1 HL1 HB1p HL1p HEP hcnt hhi HM
  obtain ⟨q, hq⟩ : ∃ q, q = e.args.length := ⟨_, rfl⟩
  obtain ⟨K, hK⟩ : ∃ K, K = e.kind := ⟨_, rfl⟩
  obtain ⟨S, hS⟩ : ∃ S, S = e.name := ⟨_, rfl⟩
  rw [← hq, ← hK, ← hS] at HI2 ⊢
  have HQ := Lib.hid (And.intro hq (And.intro hK hS))
  clear hq hK hS
  have HL3 := Lib.hid (HL2.out.alloc (by omega) (.cells #[.int .i64 K, .string S, .slice A2 q c2] 26))
  have HB3 := Lib.hid (HB2.out.keep (Fr.alloc (S := []) w2 (.cells #[.int .i64 K, .string S, .slice A2 q c2] 26)) (by simp))
  have HE3 := Lib.hid (show Bx (w2.alloc (.cells #[.int .i64 K, .string S, .slice A2 q c2] 26)) w2.heap.size K S (.slice A2 q c2) from heap_alloc_new _ _)
  cases ok
  · have HNO := Lib.hid (fits_none HG.out (Or.inl rfl))
    go_wp2_with fail
    obtain ⟨W2, hW2, hpost, hbx⟩ := zero_end2 (o := .cells #[.int .i64 K, .string S, .slice A2 q c2] 26) HNO.out HL2.out HB2.out rfl
    rw [← hW2]
    obtain ⟨y0, y1, y2, -⟩ := hbx.cells
    refine bodyPost_ret (v := .tuple #[.agg #[.int .i64 0, .string ⟨#[]⟩, .slice none 0 0], .bool false]) (by simp [results, Try.results30, go_sem, y0, y1, y2]) rfl ?_
    exact hpost
  · have HFM := Lib.hid (fun (W : World) (v : Value) (bs : List Nat) (h : ExIs W v e bs) => own_format own_join e v bs W h (by have := HH.out.2 rfl; omega))
    generalize hfm : exFmt e = t at HFM
    by_cases ht : t = s
    · have hte := beq_yes ht
      have HYES := Lib.hid (fits_some (HH.out.2 rfl).1 HH.out.1 (hfm.trans ht))
      clear ht hfm
      go_wp2_with (go_at_call 29; refine (HFM.out _ _ b1 (HI2.out.1.below ((Below.refl _ _).alloc (Nat.le_refl _) _))).mono ?_; rintro r w4 ⟨rfl, hb4⟩; have hb5 := HB3.out.keep (Fr.of_below (S := []) hb4) (by simp); have HL4 := Lib.hid (HL3.out.trans (hb4.mono HL3.out.size)); have HV4 := Lib.hid (((Below.refl w2.heap.size w2).alloc (Nat.le_refl _) _).trans (hb4.mono (by simp))); have hb6 := HE3.out.keep (Fr.of_below (S := []) hb4) (by simp); obtain ⟨p0, p1, p2, p3⟩ := hb6.cells; obtain ⟨e0, e1, e2, hBw4⟩ := hb5.cells; have g0 := hb5.thaw 0; have g1 := hb5.thaw 1; have g2 := hb5.thaw 2; have HB5 := Lib.hid hb5; clear hb4 hb5 hb6)
      obtain ⟨W2, hW2, hpost, hbx⟩ := good_end (C := C) HYES.out HL4.out HB5.out HV4.out hC HI2.out rfl
      rw [← hW2]
      obtain ⟨y0, y1, y2, -⟩ := hbx.cells
      refine bodyPost_ret (v := .tuple #[.agg #[.int .i64 K, .string S, .slice A2 q c2], .bool true]) (by simp [results, Try.results30, go_sem, y0, y1, y2]) rfl ?_
      exact hpost
    · have hte := beq_no ht
      have HNO := Lib.hid (fits_none HG.out (Or.inr (by rw [hfm]; exact ht)))
      clear ht hfm
      go_wp2_with (go_at_call 29; refine (HFM.out _ _ b1 (HI2.out.1.below ((Below.refl _ _).alloc (Nat.le_refl _) _))).mono ?_; rintro r w4 ⟨rfl, hb4⟩; have hb5 := HB3.out.keep (Fr.of_below (S := []) hb4) (by simp); have HL4 := Lib.hid (HL3.out.trans (hb4.mono HL3.out.size)); obtain ⟨e0, e1, e2, hBw4⟩ := hb5.cells; have g0 := hb5.thaw 0; have g1 := hb5.thaw 1; have g2 := hb5.thaw 2; have HB5 := Lib.hid hb5; clear hb4 hb5)
      obtain ⟨W2, hW2, hpost, hbx⟩ := zero_end HNO.out HL4.out HB5.out rfl
      rw [← hW2]
      obtain ⟨y0, y1, y2, -⟩ := hbx.cells
      refine bodyPost_ret (v := .tuple #[.agg #[.int .i64 0, .string ⟨#[]⟩, .slice none 0 0], .bool false]) (by simp [results, Try.results30, go_sem, y0, y1, y2]) rfl ?_
      exact hpost
end Go.Proofs.Ytmndlhbgacgnlaa
