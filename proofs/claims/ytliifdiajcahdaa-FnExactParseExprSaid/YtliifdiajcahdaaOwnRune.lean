/- strings.IndexRune finds no rune of 128 and above in a string of bytes below 128. Condition: the string has at most 1048576 bytes. -/
import Derived.Test.YtliifdiajcahdaaShelf
import Derived.Test.YtliifdiajcahdaaOwnIsName
import Derived.Test.YtliifdiajcahdaaFrame
import Derived.Laws.Runes
import Derived.WalkMore
import Derived.BigQuiet
namespace Go.Proofs.Ytliifdiajcahdaa
open Go Go.RowKit

def NotThere (w : World) (e : Ending) (w' : World) : Prop := e = .returned (.int .i64 (-1)) ∧ Below w.heap.size w w'

set_option maxRecDepth 1000000 in
set_option maxHeartbeats 2000000 in
theorem rune_error (C : ByteArray) (hC : ∀ (j : Nat) (h : j < C.size), C[j].toNat < 128) (w : World) :
    Calls Try.prog 108 #[.string C, .int .i32 65533] w (NotThere w) := by
  have HC := Lib.hid hC
  clear hC
  go_enter Try.func108, Try.ntmps108
  go_wp2
  go_loopw [5, 6] (fun _ _ wr => ∃ k : Nat, k ≤ C.size ∧ wr = w.iter C k) (fun _ _ wr => C.size - wr.iterPos w.heap.size)
  case atStart => exact ⟨0, Nat.zero_le _, rfl⟩
  case round =>
    obtain ⟨k, hk, rfl⟩ := hrel
    by_cases hp : k < C.size
    · have hnx := fun ty => run_next_ascii (P := Try.prog) w C k ty hp (HC.out k hp)
      have hz : ((C[k].toNat : Int) == 65533) = false := by have := HC.out k hp; simp; omega
      generalize C[k].toNat = c at *
      go_wp2
      go_roundw
      case rel => exact ⟨k + 1, by omega, rfl⟩
      case measure => simp; omega
    · have hnx := fun ty => run_next_end (P := Try.prog) w C k ty hp
      go_wp2
      go_ret
      exact ⟨rfl, iter_below _ _ _⟩

set_option maxRecDepth 1000000 in
set_option maxHeartbeats 2000000 in
theorem rune_bad (C : ByteArray) (r : Int) (w : World) (h0 : 128 ≤ r) (h1 : (r == 65533) = false) (h2 : Lib.validRune r = false) :
    Calls Try.prog 108 #[.string C, .int .i32 r] w (NotThere w) := by
  have HV := Lib.hid (Try.utf8_ValidRune r w)
  have HV2 := Lib.hid h2
  clear h2
  go_enter Try.func108, Try.ntmps108
  go_wp2_with (go_at_call 134; refine HV.out.mono ?_; rintro e w' ⟨rfl, hw⟩; rw [hw, HV2.out])
  go_ret
  exact ⟨rfl, Below.refl _ _⟩

theorem quiet_more {P : Program} {f : FuncId} {args : Array Value} {w : World} {a n : Nat} {v : Value}
    (h : Calls P f args (w.drewN (a + n)) fun e w' => e = .returned v ∧ w' = w.drewN (a + n)) : Calls P f args (w.drewN (a + n)) fun e w'' => e = .returned v ∧ ∃ m, w'' = w.drewN (a + m) :=
  h.mono fun _ _ ⟨he, hm⟩ => ⟨he, n, hm⟩
theorem drewN_below (w : World) (n : Nat) : Below w.heap.size w (w.drewN n) := ⟨rfl, rfl, rfl, Nat.le_refl _, fun _ _ => rfl⟩
/-- A byte that is not among those of a string. -/
theorem byte_none {l : List UInt8} {c : UInt8} (h : ∀ b ∈ l, b ≠ c) : Lib.indexByte l c = -1 := by
  induction l with
  | nil => rfl
  | cons b l ih =>
    rw [Lib.indexByte, ih (fun x hx => h x (List.mem_cons_of_mem _ hx))]
    have := h b (List.mem_cons_self ..)
    simp [this]
set_option maxRecDepth 1000000 in
set_option maxHeartbeats 2000000 in
theorem rune_good (C : ByteArray) (hC : ∀ (j : Nat) (h : j < C.size), C[j].toNat < 128) (r : Int) (w : World) (h0 : 128 ≤ r) (h1 : (r == 65533) = false) (h2 : Lib.validRune r = true) :
    Calls Try.prog 108 #[.string C, .int .i32 r] w (NotThere w) := by
  have HV := Lib.hid (Try.utf8_ValidRune r w)
  have HV2 := Lib.hid h2
  obtain ⟨e1, e2, e3⟩ := encode_facts r (by rw [validRune_eq]; exact h2) h0
  clear h2
  have hcv : (convert 21 9 (.int .i32 r)).run Try.prog w = .ok (.string (Utf8.encode r)) w := run_convert_int_string w 21 9 .i32 r (by rw [Try.underlying21]; rfl) Try.underlying9
  generalize Utf8.encode r = E at *
  obtain ⟨L, hL⟩ : ∃ L, L = E.size - 1 := ⟨_, rfl⟩
  have hLE : L < E.size := by omega
  have hL1 : 1 ≤ L := by omega
  have hL3 : L ≤ 3 := by omega
  have hE := e3 (by omega)
  have hEL : IntKind.i64.wrap ((E.size : Int) - 1) = (L : Int) := by rw [show (E.size : Int) - 1 = (L : Int) by omega]; exact IntWalk.i64_in _ (by omega)
  have hE2 : 128 ≤ (E[L]'hLE).toNat := by simpa only [← hL] using hE
  have HIB := Lib.hid (fun (a b : Nat) (W : World) => show Calls Try.prog 133 #[.string (C.extract a b), .int .u8 ((E[L]'hLE).toNat : Int)] W (fun e w' => e = .returned (.int .i64 (-1)) ∧ w' = W) by
    have h := Try.strings_IndexByte (C.extract a b) ((E[L]'hLE).toNat : Int) W
    rw [byte_none (fun x hx he => by
      have hm := mem_extract hx
      obtain ⟨j, hj, hjx⟩ := List.getElem_of_mem hm
      have h3 := hC j (by simpa using hj)
      rw [show C[j]'(by simpa using hj) = x from hjx, he] at h3
      simp at h3
      omega)] at h
    exact h)
  have HNE := Lib.hid (fun (h : L < C.size) => show (((C[L]'h).toNat : Int) != ((E[L]'hLE).toNat : Int)) = true by
    have := hC L h
    simp
    omega)
  clear e1 e2 e3 hE hE2 hC hL
  go_enter Try.func108, Try.ntmps108
  go_wp2_with (go_at_call 134; refine HV.out.mono ?_; rintro e w' ⟨rfl, hw⟩; rw [hw, HV2.out])
  go_step3
  go_wp2
  go_loopw [9, 10] (fun a b wr => a = .int .i64 (L : Int) ∧ b = .int .i64 0 ∧ wr = w) (fun _ _ _ => 0)
  case atStart => exact ⟨rfl, rfl, rfl⟩
  case round =>
    obtain ⟨rfl, rfl, rfl⟩ := hrel
    by_cases hlt : L < C.size
    · have hlz : (L : Int) < (C.size : Int) := by omega
      have hne := HNE.out hlt
      have hl0 : (0 : Int) ≤ (L : Int) := by omega
      have hle : (L : Int) < (E.size : Int) := by omega
      obtain ⟨q, hq⟩ : ∃ q : Int, q = (L : Int) + 1 := ⟨_, rfl⟩
      have hl1w : IntKind.i64.wrap ((L : Int) + 1) = q := by rw [hq]; exact IntWalk.i64_in _ (by omega)
      have hl2 : q ≤ (C.size : Int) := by omega
      have hl3 : 0 ≤ q := by omega
      clear hq
      go_wp2
      go_step3
      go_wp2
      go_quiet (fail)
      go_wp2
      go_quiet (first | (go_at_call 133; refine quiet_more (HIB.out _ _ _)))
      go_wp2
      first | (rw [Exit.noGoto_ret]; go_ret) | go_ret
      exact ⟨rfl, drewN_below _ _⟩
    · have hlz : ¬ (L : Int) < (C.size : Int) := by omega
      go_wp2
      first | (rw [Exit.noGoto_ret]; go_ret) | go_ret
      exact ⟨rfl, Below.refl _ _⟩
theorem rune_wide (C : ByteArray) (hC : ∀ (j : Nat) (h : j < C.size), C[j].toNat < 128) (r : Int) (w : World) (h0 : 128 ≤ r) :
    Calls Try.prog 108 #[.string C, .int .i32 r] w (NotThere w) := by
  by_cases h1 : r = 65533
  · subst h1; exact rune_error C hC w
  · have h1' : (r == 65533) = false := by simpa using h1
    cases h2 : Lib.validRune r
    · exact rune_bad C r w h0 h1' h2
    · exact rune_good C hC r w h0 h1' h2

/-- A step of an iterator over a string that lies wherever. -/
theorem run_next_gen {P : Program} (W : World) (b : Nat) (s : ByteArray) (pos : Nat) (ty : TypeId) (hb : W.heap[b]? = some (.stringIter s pos)) (h : pos < s.size) :
    (Instr.next (.pointer (some ⟨b, 0, none⟩)) true ty).run P W = .ok (.tuple #[.bool true, .int .i64 pos, .int .i32 (Utf8.decode s pos).1]) (W.putObj b (.stringIter s (pos + (Utf8.decode s pos).2))) := by
  simp only [Instr.next, getObj, setObj, Sem.run_bind, Sem.run, hb, Result.andThen, h, if_true]
  simp [goInt, World.putObj]
theorem run_next_fin {P : Program} (W : World) (b : Nat) (s : ByteArray) (pos : Nat) (ty : TypeId) (hb : W.heap[b]? = some (.stringIter s pos)) (h : ¬ pos < s.size) :
    (Instr.next (.pointer (some ⟨b, 0, none⟩)) true ty).run P W = .ok (.tuple #[.bool false]) W := by
  simp [Instr.next, getObj, Sem.run, hb, h]
theorem put_iter (W : World) (b : Nat) (o : Obj) (h : b < W.heap.size) : (W.putObj b o).heap[b]? = some o := by
  simp [World.putObj, h]

theorem get_in (s : ByteArray) (j : Nat) (h : j < s.size) : s.get! j = s[j]'h := by
  simp [ByteArray.get!, getElem!_pos, h]
  rfl
/-- The bytes of a rune that is not ASCII are all 128 and above, and lie within the string. -/
theorem decode_span (s : ByteArray) (pos : Nat) (h : pos < s.size) (ha : 128 ≤ (s[pos]'h).toNat) : ∀ j, pos ≤ j → j < pos + (Utf8.decode s pos).2 → ∃ hj : j < s.size, 128 ≤ (s[j]'hj).toNat := by
  have hn : ¬ (s[pos]'h).toNat < 128 := by omega
  have hc : ∀ k, (decide (pos + k < s.size) && ((s.get! (pos + k)).toNat / 64 == 2)) = true → ∃ hj : pos + k < s.size, 128 ≤ (s[pos + k]'hj).toNat := by
    intro k hk
    rw [Bool.and_eq_true] at hk
    have h1 := of_decide_eq_true hk.1
    refine ⟨h1, ?_⟩
    have h2 := beq_iff_eq.1 hk.2
    rw [get_in s _ h1] at h2
    omega
  have h0 : ∃ hj : pos < s.size, 128 ≤ (s[pos]'hj).toNat := ⟨h, ha⟩
  intro j hj1 hj2
  simp only [Utf8.decode, get_at s pos h, hn, if_false] at hj2
  have one : j < pos + 1 → ∃ hj : j < s.size, 128 ≤ (s[j]'hj).toNat := fun hh => by
    obtain rfl : j = pos := by omega
    exact h0
  split at hj2
  · rename_i hh
    have c1 := hc 1 ((Bool.and_eq_true _ _).mp hh).2
    split at hj2
    · by_cases e : j = pos + 1
      · subst e; exact c1
      · exact one (by simp only [] at hj2; omega)
    · exact one hj2
  · split at hj2
    · rename_i hh
      rw [Bool.and_eq_true, Bool.and_eq_true] at hh
      have c1 := hc 1 hh.1.2
      have c2 := hc 2 hh.2
      split at hj2
      · by_cases e : j = pos + 1
        · subst e; exact c1
        · by_cases e : j = pos + 2
          · subst e; exact c2
          · exact one (by simp only [] at hj2; omega)
      · exact one hj2
    · split at hj2
      · rename_i hh
        rw [Bool.and_eq_true, Bool.and_eq_true, Bool.and_eq_true] at hh
        have c1 := hc 1 hh.1.1.2
        have c2 := hc 2 hh.1.2
        have c3 := hc 3 hh.2
        split at hj2
        · by_cases e : j = pos + 1
          · subst e; exact c1
          · by_cases e : j = pos + 2
            · subst e; exact c2
            · by_cases e : j = pos + 3
              · subst e; exact c3
              · exact one (by simp only [] at hj2; omega)
        · exact one hj2
      · exact one hj2
end Go.Proofs.Ytliifdiajcahdaa
