/- A part of the proof of the seat's statement: OwnAny. Condition: as each says. -/
import Derived.Test.YthljhiklpopmgaaGreatDoorShelf
import Derived.Test.YthljhiklpopmgaaGreatDoorOwnSize
import Derived.Test.YthljhiklpopmgaaGreatDoorSpecRead
import Derived.Laws.Runes
import Derived.WalkMore
import Derived.BigQuiet
set_option maxHeartbeats 8000000
namespace Go.Proofs.YthljhiklpopmgaaGreatDoor
open Go Go.RowKit
def NotThere (w : World) (e : Ending) (w' : World) : Prop := e = .returned (.int .i64 (-1)) ∧ Below w.heap.size w w'
set_option maxRecDepth 1000000 in
theorem rune_error (C : ByteArray) (hC : ∀ (j : Nat) (h : j < C.size), C[j].toNat < 128) (w : World) :
 Calls Tryz.prog 126 #[.string C, .int .i32 65533] w (NotThere w) := by
 have HC := zH hC
 clear hC
 go_enter Tryz.func126, Tryz.ntmps126
 go_wp2
 go_loopw [5, 6] (fun _ _ wr => ∃ k : Nat, k ≤ C.size ∧ wr = w.iter C k) (fun _ _ wr => C.size - wr.iterPos w.heap.size)
 case atStart => exact ⟨0, Nat.zero_le _, rfl⟩
 case round =>
  obtain ⟨k, hk, rfl⟩ := hrel
  by_cases hp : k < C.size
  · have hnx := fun ty => run_next_ascii (P := Tryz.prog) w C k ty hp (HC.out k hp)
    have hz : ((C[k].toNat : Int) == 65533) = false := by have := HC.out k hp; simp; omega
    generalize C[k].toNat = c at *
    go_wp2
    go_roundw
    case rel => exact ⟨k + 1, by omega, rfl⟩
    case measure => simp; omega
  have hnx := fun ty => run_next_end (P := Tryz.prog) w C k ty hp
  go_wp2
  go_ret
  exact ⟨rfl, iter_below _ _ _⟩
set_option maxRecDepth 1000000 in
theorem rune_bad (C : ByteArray) (r : Int) (w : World) (h0 : 128 ≤ r) (h1 : (r == 65533) = false) (h2 : Lib.validRune r = false) :
 Calls Tryz.prog 126 #[.string C, .int .i32 r] w (NotThere w) := by
 have HV := zH (Tryz.utf8_ValidRune r w)
 have HV2 := zH h2
 clear h2
 go_enter Tryz.func126, Tryz.ntmps126
 go_wp2_with (go_at_call 145; refine HV.out.mono ?_; rintro e w' ⟨rfl, hw⟩; rw [hw, HV2.out])
 go_ret
 exact ⟨rfl, Below.refl _ _⟩
theorem quiet_more {P : Program} {f : FuncId} {args : Array Value} {w : World} {a n : Nat} {v : Value}
 (h : Calls P f args (w.drewN (a + n)) fun e w' => e = .returned v ∧ w' = w.drewN (a + n)) : Calls P f args (w.drewN (a + n)) fun e w'' => e = .returned v ∧ ∃ m, w'' = w.drewN (a + m) :=
 h.mono fun _ _ ⟨he, hm⟩ => ⟨he, n, hm⟩
theorem drewN_below (w : World) (n : Nat) : Below w.heap.size w (w.drewN n) := ⟨rfl, rfl, rfl, Nat.le_refl _, fun _ _ => rfl⟩
theorem byte_none {l : List UInt8} {c : UInt8} (h : ∀ b ∈ l, b ≠ c) : Lib.indexByte l c = -1 := by
 induction l with
 | nil => rfl
 | cons b l ih =>
  rw [Lib.indexByte, ih (fun x hx => h x (List.mem_cons_of_mem _ hx))]
  have := h b (List.mem_cons_self ..)
  simp [this]
set_option maxRecDepth 1000000 in
theorem rune_good (C : ByteArray) (hC : ∀ (j : Nat) (h : j < C.size), C[j].toNat < 128) (r : Int) (w : World) (h0 : 128 ≤ r) (h1 : (r == 65533) = false) (h2 : Lib.validRune r = true) :
 Calls Tryz.prog 126 #[.string C, .int .i32 r] w (NotThere w) := by
 have HV := zH (Tryz.utf8_ValidRune r w)
 have HV2 := zH h2
 obtain ⟨e1, e2, e3⟩ := encode_facts r (by rw [validRune_eq]; exact h2) h0
 clear h2
 have hcv : (convert 21 9 (.int .i32 r)).run Tryz.prog w = .ok (.string (Utf8.encode r)) w := run_convert_int_string w 21 9 .i32 r (by rw [Tryz.underlying21]; rfl) Tryz.underlying9
 generalize Utf8.encode r = E at *
 obtain ⟨L, hL⟩ : ∃ L, L = E.size - 1 := ⟨_, rfl⟩
 have hLE : L < E.size := by omega
 have hL1 : 1 ≤ L := by omega
 have hL3 : L ≤ 3 := by omega
 have hE := e3 (by omega)
 have hEL : IntKind.i64.wrap ((E.size : Int) - 1) = (L : Int) := by rw [show (E.size : Int) - 1 = (L : Int) by omega]; exact IntWalk.i64_in _ (by omega)
 have hE2 : 128 ≤ (E[L]'hLE).toNat := by simpa only [← hL] using hE
 have HIB := zH (fun (a b : Nat) (W : World) => show Calls Tryz.prog 45 #[.string (C.extract a b), .int .u8 ((E[L]'hLE).toNat : Int)] W (fun e w' => e = .returned (.int .i64 (-1)) ∧ w' = W) by
  have h := Tryz.strings_IndexByte (C.extract a b) ((E[L]'hLE).toNat : Int) W
  rw [byte_none (fun x hx he => by
   have hm := mem_extract hx
   obtain ⟨j, hj, hjx⟩ := List.getElem_of_mem hm
   have h3 := hC j (by simpa using hj)
   rw [show C[j]'(by simpa using hj) = x from hjx, he] at h3
   simp at h3
   omega)] at h
  exact h)
 have HNE := zH (fun (h : L < C.size) => show (((C[L]'h).toNat : Int) != ((E[L]'hLE).toNat : Int)) = true by
  have := hC L h
  simp
  omega)
 clear e1 e2 e3 hE hE2 hC hL
 go_enter Tryz.func126, Tryz.ntmps126
 go_wp2_with (go_at_call 145; refine HV.out.mono ?_; rintro e w' ⟨rfl, hw⟩; rw [hw, HV2.out])
 go_step3
 go_wp2
 go_loopw [9, 10] (fun a b wr => a = .int .i64 (L : Int) ∧ b = .int .i64 0 ∧ wr = w) (fun _ _ _ => 0)
 case atStart => exact ⟨rfl, rfl, rfl⟩
 case round =>
  obtain ⟨rfl, rfl, rfl⟩ := hrel
  by_cases hlt : L < C.size
  · have hlz : (L : Int) < (C.size : Int) := by omega
    have hne := HNE.out hlt
    have hl0 : (0 : Int) ≤ (L : Int) := by omega
    have hle : (L : Int) < (E.size : Int) := by omega
    obtain ⟨q, hq⟩ : ∃ q : Int, q = (L : Int) + 1 := ⟨_, rfl⟩
    have hl1w : IntKind.i64.wrap ((L : Int) + 1) = q := by rw [hq]; exact IntWalk.i64_in _ (by omega)
    have hl2 : q ≤ (C.size : Int) := by omega
    have hl3 : 0 ≤ q := by omega
    clear hq
    go_wp2
    go_step3
    go_wp2
    go_quiet (fail)
    go_wp2
    go_quiet (first | (go_at_call 45; refine quiet_more (HIB.out _ _ _)))
    go_wp2
    first | (rw [Exit.noGoto_ret]; go_ret) | go_ret
    exact ⟨rfl, drewN_below _ _⟩
  have hlz : ¬ (L : Int) < (C.size : Int) := by omega
  go_wp2
  first | (rw [Exit.noGoto_ret]; go_ret) | go_ret
  exact ⟨rfl, Below.refl _ _⟩
theorem rune_wide (C : ByteArray) (hC : ∀ (j : Nat) (h : j < C.size), C[j].toNat < 128) (r : Int) (w : World) (h0 : 128 ≤ r) :
 Calls Tryz.prog 126 #[.string C, .int .i32 r] w (NotThere w) := by
 by_cases h1 : r = 65533
 · subst h1; exact rune_error C hC w
 have h1' : (r == 65533) = false := by simpa using h1
 cases h2 : Lib.validRune r
 · exact rune_bad C r w h0 h1' h2
 exact rune_good C hC r w h0 h1' h2
theorem run_next_gen {P : Program} (W : World) (b : Nat) (s : ByteArray) (pos : Nat) (ty : TypeId) (hb : W.heap[b]? = some (.stringIter s pos)) (h : pos < s.size) :
 (Instr.next (.pointer (some ⟨b, 0, none⟩)) true ty).run P W = .ok (.tuple #[.bool true, .int .i64 pos, .int .i32 (Utf8.decode s pos).1]) (W.putObj b (.stringIter s (pos + (Utf8.decode s pos).2))) := by
 simp only [Instr.next, getObj, setObj, Sem.run_bind, Sem.run, hb, Result.andThen, h, if_true]
 simp [goInt, World.putObj]
theorem run_next_fin {P : Program} (W : World) (b : Nat) (s : ByteArray) (pos : Nat) (ty : TypeId) (hb : W.heap[b]? = some (.stringIter s pos)) (h : ¬ pos < s.size) :
 (Instr.next (.pointer (some ⟨b, 0, none⟩)) true ty).run P W = .ok (.tuple #[.bool false]) W := by
 simp [Instr.next, getObj, Sem.run, hb, h]
theorem put_iter (W : World) (b : Nat) (o : Obj) (h : b < W.heap.size) : (W.putObj b o).heap[b]? = some o := by
 simp [World.putObj, h]
theorem get_in (s : ByteArray) (j : Nat) (h : j < s.size) : s.get! j = s[j]'h := by
 simp [ByteArray.get!, getElem!_pos, h]
 rfl
theorem decode_span (s : ByteArray) (pos : Nat) (h : pos < s.size) (ha : 128 ≤ (s[pos]'h).toNat) : ∀ j, pos ≤ j → j < pos + (Utf8.decode s pos).2 → ∃ hj : j < s.size, 128 ≤ (s[j]'hj).toNat := by
 have hn : ¬ (s[pos]'h).toNat < 128 := by omega
 have hc : ∀ k, (decide (pos + k < s.size) && ((s.get! (pos + k)).toNat / 64 == 2)) = true → ∃ hj : pos + k < s.size, 128 ≤ (s[pos + k]'hj).toNat := by
  intro k hk
  rw [Bool.and_eq_true] at hk
  have h1 := of_decide_eq_true hk.1
  refine ⟨h1, ?_⟩
  have h2 := beq_iff_eq.1 hk.2
  rw [get_in s _ h1] at h2
  omega
 have h0 : ∃ hj : pos < s.size, 128 ≤ (s[pos]'hj).toNat := ⟨h, ha⟩
 intro j hj1 hj2
 simp only [Utf8.decode, get_at s pos h, hn, if_false] at hj2
 have one : j < pos + 1 → ∃ hj : j < s.size, 128 ≤ (s[j]'hj).toNat := fun hh => by
  obtain rfl : j = pos := by omega
  exact h0
 split at hj2
 · rename_i hh
   have c1 := hc 1 ((Bool.and_eq_true _ _).mp hh).2
   split at hj2
   · by_cases e : j = pos + 1
     · subst e; exact c1
     exact one (by simp only [] at hj2; omega)
   exact one hj2
 split at hj2
 · rename_i hh
   rw [Bool.and_eq_true, Bool.and_eq_true] at hh
   have c1 := hc 1 hh.1.2
   have c2 := hc 2 hh.2
   split at hj2
   · by_cases e : j = pos + 1
     · subst e; exact c1
     by_cases e : j = pos + 2
     · subst e; exact c2
     exact one (by simp only [] at hj2; omega)
   exact one hj2
 split at hj2
 · rename_i hh
   rw [Bool.and_eq_true, Bool.and_eq_true, Bool.and_eq_true] at hh
   have c1 := hc 1 hh.1.1.2
   have c2 := hc 2 hh.1.2
   have c3 := hc 3 hh.2
   split at hj2
   · by_cases e : j = pos + 1
     · subst e; exact c1
     by_cases e : j = pos + 2
     · subst e; exact c2
     by_cases e : j = pos + 3
     · subst e; exact c3
     exact one (by simp only [] at hj2; omega)
   exact one hj2
 exact one hj2
def AnyPost (s C : ByteArray) (w : World) (e : Ending) (w' : World) : Prop := e = .returned (.int .i64 (Lib.indexAny s.data.toList C.data.toList)) ∧ Below w.heap.size w w'
theorem ascii_list {C : ByteArray} (hC : ∀ (j : Nat) (h : j < C.size), C[j].toNat < 128) : ∀ (j : Nat) b, C.data.toList[j]? = some b → b.toNat < 128 := by
 intro j b hb
 obtain ⟨hj, hjb⟩ := List.getElem?_eq_some_iff.1 hb
 rw [← hjb]
 exact hC j (by simpa using hj)
theorem NoAny_high {s C : ByteArray} {k m : Nat} (hC : ∀ (j : Nat) (h : j < C.size), C[j].toNat < 128) (h : Lib.NoAny s.data.toList C.data.toList k) (hm : ∀ j, k ≤ j → j < m → ∃ hj : j < s.size, 128 ≤ (s[j]'hj).toNat) : Lib.NoAny s.data.toList C.data.toList m := by
 intro j b hj hb
 by_cases hk : j < k
 · exact h j b hk hb
 obtain ⟨h1, h2⟩ := hm j (by omega) hj
 rw [Lib.data_getElem? s j h1] at hb
 obtain rfl := Option.some.inj hb
 cases hc : C.data.toList.contains s[j] with
 | false => rfl
 | true =>
  rw [List.contains_iff_mem] at hc
  obtain ⟨i, hi, hib⟩ := List.getElem_of_mem hc
  have := hC i (by simpa using hi)
  rw [show C[i]'(by simpa using hi) = s[j] from hib] at this
  omega
structure Iz (s C : ByteArray) (w : World) (k : Nat) (W : World) : Prop where
 it : W.heap[w.heap.size]? = some (.stringIter s k)
 low : Below w.heap.size w W
 no : Lib.NoAny s.data.toList C.data.toList k
theorem Iz.lt {s C : ByteArray} {w W : World} {k : Nat} (h : Iz s C w k W) : w.heap.size < W.heap.size := (Array.getElem?_eq_some_iff.1 h.it).1
theorem Iz.put {s C : ByteArray} {w W W2 : World} {k k2 : Nat} (h : Iz s C w k W) (hb : Below (W.putObj w.heap.size (.stringIter s k2)).heap.size (W.putObj w.heap.size (.stringIter s k2)) W2) (hn : Lib.NoAny s.data.toList C.data.toList k2) : Iz s C w k2 W2 := by
 have h1 := put_iter W w.heap.size (.stringIter s k2) h.lt
 refine ⟨(hb.block _ (Array.getElem?_eq_some_iff.1 h1).1).trans h1, ?_, hn⟩
 have h2 : Fr [w.heap.size] W (W.putObj w.heap.size (.stringIter s k2)) := Fr.put W _ _ (by simp)
 have h3 := h.low.trans (h2.below (n := w.heap.size) (by simp) (Nat.le_of_lt h.lt))
 exact h3.trans (hb.mono h3.size)
theorem Iz.put_low {s C : ByteArray} {w W : World} {k : Nat} (h : Iz s C w k W) (k2 : Nat) : Below w.heap.size w (W.putObj w.heap.size (.stringIter s k2)) := by
 have h2 : Fr [w.heap.size] W (W.putObj w.heap.size (.stringIter s k2)) := Fr.put W _ _ (by simp)
 exact h.low.trans (h2.below (n := w.heap.size) (by simp) (Nat.le_of_lt h.lt))
theorem iter_at {W : World} {s : ByteArray} {k b : Nat} (h : W.heap[b]? = some (.stringIter s k)) : W.iterPos b = k := by
 rw [World.iterPos, h]
set_option maxRecDepth 1000000 in
theorem any_short (s C : ByteArray) (w : World) (h2 : 2 ≤ C.size) (h8 : s.size ≤ 8) (hC : ∀ (j : Nat) (h : j < C.size), C[j].toNat < 128) :
 Calls Tryz.prog 102 #[.string s, .string C] w (AnyPost s C w) := by
 have hemp : C.toList.isEmpty = false := by
  rw [Lib.toList_data]
  cases h : C.data.toList with
  | nil => have := Lib.size_eq C; rw [h, List.length_nil] at this; omega
  | cons _ _ => rfl
 have hn1 : ((C.size : Int) == 1) = false := beq_eq_false_iff_ne.2 (by omega)
 have h8z : decide ((8 : Int) < (s.size : Int)) = false := decide_eq_false (by omega)
 have HC := zH hC
 have HU := zH (fun (W : World) => Tryz.strings_shouldUseASCIISet (s.size : Int) W)
 have H8 := zH h8z
 clear hC h8z
 go_enter Tryz.func102, Tryz.ntmps102
 go_wp2_with (go_at_call 127; refine (HU.out _).mono ?_; rintro e w' ⟨rfl, hw⟩; rw [hw, H8.out])
 have H0 := zH (show Iz s C w 0 (w.iter s 0) from ⟨World.iter_heap _ _ _, iter_below _ _ _, Lib.NoAny.zero _ _⟩)
 go_loopw [9, 10] (fun _ _ wr => ∃ k : Nat, Hid (Iz s C w k wr)) (fun _ _ wr => s.size - wr.iterPos w.heap.size)
 case atStart => exact ⟨0, H0⟩
 case round =>
  obtain ⟨k, HZ⟩ := hrel
  by_cases hp : k < s.size
  · have hnx := fun ty => run_next_gen (P := Tryz.prog) wr w.heap.size s k ty HZ.out.it hp
    by_cases ha : s[k].toNat < 128
    · rw [decode_ascii s k hp ha] at hnx
      simp only [] at hnx
      have hx8 := s[k].toNat_lt
      have HX := zH (Lib.data_getElem? s k hp)
      have hcon := Lib.contains_iff_indexByte C.data.toList s[k]
      have hback : ((s[k].toNat : Int)).toNat.toUInt8 = s[k] := by simp
      have HIR := zH (fun (W : World) => Tryz.strings_IndexRune_ascii C (s[k].toNat : Int) W (by omega) (by omega))
      rw [hback] at HIR
      have HM : Hid (s.size - (k + 1) < s.size - k) := zH (by omega)
      cases hin : C.data.toList.contains s[k]
      · rw [hin] at hcon
        have hlt : ¬ ((0 : Int) ≤ Lib.indexByte C.data.toList s[k]) := of_decide_eq_false hcon.symm
        have HN := zH (HZ.out.no.succ HX.out hin)
        have HMM := zH (iter_at HZ.out.it)
        clear hcon hin hback ha
        generalize Lib.indexByte C.data.toList s[k] = ib at *
        generalize s[k].toNat = cc at *
        go_wp2_with (go_at_call 126; refine (HIR.out _).mono ?_; rintro e w' ⟨rfl, rfl⟩)
        have HZ2 := zH (HZ.out.put (k2 := k + 1) (Below.refl _ _) HN.out)
        go_roundw
        case rel => exact ⟨k + 1, HZ2⟩
        case measure => rw [iter_at HZ2.out.it, HMM.out]; exact HM.out
      rw [hin] at hcon
      have hge : (0 : Int) ≤ Lib.indexByte C.data.toList s[k] := of_decide_eq_true hcon.symm
      have HE := zH (Lib.indexAny_hit HZ.out.no HX.out hin)
      clear hcon hin hback ha
      generalize Lib.indexByte C.data.toList s[k] = ib at *
      generalize s[k].toNat = cc at *
      go_wp2_with (go_at_call 126; refine (HIR.out _).mono ?_; rintro e w' ⟨rfl, rfl⟩)
      go_ret
      exact ⟨by rw [HE.out]; rfl, HZ.out.put_low _⟩
    have ha' : 128 ≤ s[k].toNat := by omega
    have HD := decode_high s k hp ha'
    have HR := zH (fun (W : World) => rune_wide C HC.out ((Utf8.decode s k).1 : Int) W (by omega))
    have HN := zH (NoAny_high HC.out HZ.out.no (decode_span s k hp ha'))
    have hd1 : 1 ≤ (Utf8.decode s k).2 := HD.2
    have HM : Hid (s.size - (k + (Utf8.decode s k).2) < s.size - k) := zH (by omega)
    have HMM := zH (iter_at HZ.out.it)
    clear HD ha ha'
    generalize (Utf8.decode s k).1 = cc at *
    generalize (Utf8.decode s k).2 = width at *
    go_wp2_with (go_at_call 126; refine (HR.out _).mono ?_; rintro e w' ⟨rfl, hb⟩; have HZ2 := zH (HZ.out.put hb HN.out); clear hb)
    go_roundw
    case rel => exact ⟨k + width, HZ2⟩
    case measure => rw [iter_at HZ2.out.it, HMM.out]; exact HM.out
  have hnx := fun ty => run_next_fin (P := Tryz.prog) wr w.heap.size s k ty HZ.out.it hp
  have HE := zH (show Lib.indexAny s.data.toList C.data.toList = -1 from Lib.indexAny_none (fun j b hj hb => HZ.out.no j b (by rw [← Lib.size_eq] at hj; omega) hb))
  go_wp2
  go_ret
  exact ⟨by rw [HE.out]; rfl, HZ.out.low⟩
theorem Tryz.setInfo : (Tryz.prog.info? 178).map (fun i => (i.zero, i.size)) = some (some (.agg (Array.replicate 256 (.bool false))), 256) := by kernel_rfl
theorem any_ascii (s C : ByteArray) (w : World) (h2 : 2 ≤ C.size) (hCs : C.size < 4294967281) (hs : s.size < 4294967281) (hC : ∀ (j : Nat) (h : j < C.size), C[j].toNat < 128) :
 Calls Tryz.prog 102 #[.string s, .string C] w (AnyPost s C w) := by
 by_cases h8 : s.size ≤ 8
 · exact any_short s C w h2 h8 hC
 refine (Tryz.strings_IndexAny_long (zero_of_info Tryz.setInfo).1 s C w h2 (by omega) hs hCs (ascii_list hC)).mono fun e w' ⟨h1, h2⟩ => ⟨h1, ?_⟩
 rw [h2]
 exact ((Below.refl _ _).alloc (Nat.le_refl _) _).alloc (by simp) _
end Go.Proofs.YthljhiklpopmgaaGreatDoor
