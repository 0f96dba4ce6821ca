/- A part of the proof of the seat's statement: SpecNames. Condition: as each says. -/
import Derived.Test.YthljhiklpopmgaaGreatDoorZh
import Derived.Test.YthljhiklpopmgaaGreatDoorRows
import Derived.WalkKit
import Derived.WalkSpells
import Derived.WalkLawsBesides
import Derived.Lib.Hide
import Derived.Deep.QuietTactic
import Derived.BigQuiet
import Derived.Lib.ItoaNum
set_option maxHeartbeats 8000000
namespace Go.Proofs.YthljhiklpopmgaaGreatDoor
open Go Go.RowKit
def Strs (w : World) (A : Option Addr) (xs : List ByteArray) : Prop :=
 ∀ i x, xs[i]? = some x → ∃ a, A = some a ∧ w.cell? (a.add i) = some (.string x) ∧ a.block < w.heap.size
theorem block_add (a : Addr) (n : Nat) : (a.add n).block = a.block := by unfold Addr.add; split <;> rfl
theorem Strs.below {w w' : World} {A : Option Addr} {xs : List ByteArray} (h : Strs w A xs) (hb : Below w.heap.size w w') : Strs w' A xs := fun i x hx => by
 obtain ⟨a, e, hc, hl⟩ := h i x hx
 exact ⟨a, e, (hb.cell (p := a.add i) (by rw [block_add]; exact hl)).trans hc, Nat.lt_of_lt_of_le hl hb.size⟩
theorem Strs.at_ {w : World} {A : Option Addr} {xs : List ByteArray} (h : Strs w A xs) (k : Nat) (hk : k < xs.length) : ∃ a, A = some a ∧ w.cell? (a.add k) = some (.string xs[k]) ∧ a.block < w.heap.size :=
 h k xs[k] (List.getElem?_eq_getElem hk)
theorem take_nextS {α : Type} (l : List α) (k : Nat) (h : k < l.length) : l.take (k + 1) = l.take k ++ [l[k]] := by
 rw [List.take_succ_eq_append_getElem h]
theorem Strs.get {w : World} {A : Option Addr} {xs : List ByteArray} (h : Strs w A xs) (k : Nat) (hk : k < xs.length) :
 ∃ a x, A = some a ∧ w.cell? (a.add k) = some (.string x) ∧ x ∈ xs ∧ xs[k]? = some x ∧ xs.take (k + 1) = xs.take k ++ [x] ∧ a.block < w.heap.size := by
 obtain ⟨a, e, hc, hl⟩ := h.at_ k hk
 exact ⟨a, xs[k], e, hc, List.getElem_mem hk, List.getElem?_eq_getElem hk, take_nextS xs k hk, hl⟩
def EqPost (w : World) (e : Ending) (w' : World) : Prop := e = .returned (.bool true) ∧ ∃ q, w' = w.drewN q
theorem eq_same (A B : Option Addr) (xs : List ByteArray) (cap cap2 : Nat) (w : World) (hs : Strs w A xs) (hs2 : Strs w B xs) (hn : xs.length ≤ 140737488355328) :
 Calls Tryz.prog 56 #[.slice A xs.length cap, .slice B xs.length cap2] w (EqPost w) := by
 obtain ⟨n, hnn⟩ : ∃ n, n = xs.length := ⟨_, rfl⟩
 have HN := zH hnn
 have HS := zH hs
 have HS2 := zH hs2
 rw [← hnn]
 rw [← hnn] at hn
 clear hs hs2 hnn
 go_enter Tryz.func56, Tryz.ntmps56
 go_wp2
 go_loopw [5] (fun i wr => ∃ (k q : Nat), k ≤ n ∧ i = .int .i64 (k : Int) ∧ wr = w.drewN q) (fun i _ => n - (intOf i).toNat)
 case atStart => exact ⟨0, 0, Nat.zero_le _, rfl, by simp [World.drewN_zero]⟩
 case round =>
  obtain ⟨k, q, hk, rfl, rfl⟩ := hrel
  by_cases hlt : k < n
  · obtain ⟨a, x, rfl, hc, hmem, hx, -, -⟩ := HS.out.get k (by rw [← HN.out]; exact hlt)
    obtain ⟨b, y, rfl, hc2, -, hy, -, -⟩ := HS2.out.get k (by rw [← HN.out]; exact hlt)
    obtain rfl : x = y := Option.some.inj (hx.symm.trans hy)
    clear hmem hx hy
    have hk0 : 0 ≤ (k : Int) := by omega
    have hkn : (k : Int) < (n : Int) := by omega
    go_wp2
    go_quiet (fail)
    go_wp2
    go_roundw
    case rel => exact ⟨k + 1, _, by omega, by go_num, rfl⟩
    case measure => simp [intOf]; omega
  go_wp2
  go_ret
  exact ⟨rfl, q, rfl⟩
end Go.Proofs.YthljhiklpopmgaaGreatDoor
namespace Go.Proofs.YthljhiklpopmgaaGreatDoor
open Go
def dz (u : Nat) : List UInt8 := if u = 0 then [] else Lib.decDigits u
theorem dz_zero : dz 0 = [] := by simp [dz]
theorem dz_step (u : Nat) (h : u ≠ 0) : dz u = dz (u / 10) ++ [UInt8.ofNat (48 + u % 10)] := by
 unfold dz
 rw [if_neg h]
 by_cases h10 : u < 10
 · rw [if_pos (by omega), Lib.decDigits, dif_pos h10, Nat.mod_eq_of_lt h10]; rfl
 rw [if_neg (by omega), Lib.decDigits, dif_neg h10]
theorem itoa_pos (u : Nat) (h : u ≠ 0) : Lib.itoa (u : Int) = dz u := by
 unfold Lib.itoa dz; rw [if_neg (by omega), if_neg h]; simp
end Go.Proofs.YthljhiklpopmgaaGreatDoor
namespace Go.Proofs.YthljhiklpopmgaaGreatDoor
open Go
def tailOk (c : UInt8) : Bool := (decide (97 ≤ c.toNat) && decide (c.toNat ≤ 122)) || (decide (48 ≤ c.toNat) && decide (c.toNat ≤ 57))
def tailL (l : List UInt8) : Bool := l.all tailOk
def nameL (lo hi : Nat) : List UInt8 → Bool
 | [] => false
 | c :: r => decide (r.length ≤ 5) && (decide (lo ≤ c.toNat) && decide (c.toNat ≤ hi)) && tailL r
theorem tail_yes {c : UInt8} (h : (97 ≤ c.toNat ∧ c.toNat ≤ 122) ∨ (48 ≤ c.toNat ∧ c.toNat ≤ 57)) : tailOk c = true := by
 unfold tailOk
 rcases h with ⟨h1, h2⟩ | ⟨h1, h2⟩ <;> simp [h1, h2]
theorem tail_not {c : UInt8} (h : c.toNat < 48 ∨ (57 < c.toNat ∧ c.toNat < 97) ∨ 122 < c.toNat) : tailOk c = false := by
 unfold tailOk
 simp only [Bool.or_eq_false_iff, Bool.and_eq_false_iff, decide_eq_false_iff_not]
 omega
theorem tail_step (l : List UInt8) (k : Nat) (c : UInt8) (h : l.drop k = c :: l.drop (k + 1)) (hc : tailOk c = true) : tailL (l.drop k) = tailL (l.drop (k + 1)) := by
 rw [h]; simp [tailL, hc]
theorem tail_stop (l : List UInt8) (k : Nat) (c : UInt8) (h : l.drop k = c :: l.drop (k + 1)) (hc : tailOk c = false) : tailL (l.drop k) = false := by
 rw [h]; simp [tailL, hc]
def idxFrom (s : ByteArray) : Nat → List ByteArray → Int
 | _, [] => -1
 | k, x :: r => if x = s then k else idxFrom s (k + 1) r
def idx (xs : List ByteArray) (s : ByteArray) : Int := idxFrom s 0 xs
theorem idx_not (s : ByteArray) : ∀ (xs : List ByteArray) (k : Nat), s ∉ xs → idxFrom s k xs = -1 := by
 intro xs
 induction xs with
 | nil => intro k _; rfl
 | cons x r ih =>
  intro k h
  rw [idxFrom, if_neg (fun e => h (by rw [e]; exact List.mem_cons_self)), ih _ (fun e => h (List.mem_cons_of_mem _ e))]
theorem idx_yes (s : ByteArray) : ∀ (xs : List ByteArray) (k : Nat), s ∈ xs → (k : Int) ≤ idxFrom s k xs ∧ idxFrom s k xs < k + xs.length := by
 intro xs
 induction xs with
 | nil => intro k h; cases h
 | cons x r ih =>
  intro k h
  rw [idxFrom]
  by_cases e : x = s
  · rw [if_pos e]; simp only [List.length_cons]; omega
  rw [if_neg e]
  have h2 : s ∈ r := by
   rcases List.mem_cons.1 h with e2 | h2
   · exact absurd e2.symm e
   exact h2
  have := ih (k + 1) h2
  simp only [List.length_cons]; omega
theorem idx_mem (xs : List ByteArray) (s : ByteArray) : 0 ≤ idx xs s ↔ s ∈ xs := by
 constructor
 · intro h
   by_cases hm : s ∈ xs
   · exact hm
   have := idx_not s xs 0 hm
   unfold idx at h; omega
 intro h; have := idx_yes s xs 0 h; unfold idx; omega
theorem idx_ge (xs : List ByteArray) (s : ByteArray) : -1 ≤ idx xs s := by
 by_cases hm : s ∈ xs
 · have := (idx_mem xs s).2 hm; omega
 have := idx_not s xs 0 hm; unfold idx; omega
def distinct (xs : List ByteArray) : Bool := decide xs.Nodup
theorem nodup_take (xs : List ByteArray) (k : Nat) (x : ByteArray) (h : xs.take (k + 1) = xs.take k ++ [x]) : (xs.take (k + 1)).Nodup ↔ (xs.take k).Nodup ∧ x ∉ xs.take k := by
 rw [h, List.nodup_append]
 constructor
 · rintro ⟨h1, -, h2⟩
   exact ⟨h1, fun hm => h2 x hm x (by simp) rfl⟩
 rintro ⟨h1, h2⟩
 exact ⟨h1, by simp, fun a ha b hb e => by rw [List.mem_singleton] at hb; subst hb; subst e; exact h2 ha⟩
theorem nodup_of_take (xs : List ByteArray) (k : Nat) (h : ¬ (xs.take k).Nodup) : ¬ xs.Nodup := fun hn => h (hn.sublist (List.take_sublist k xs))
def uniteFrom : List ByteArray → List ByteArray → List ByteArray
 | out, [] => out
 | out, x :: r => if 0 ≤ idx out x then uniteFrom out r else uniteFrom (out ++ [x]) r
def unite (a b : List ByteArray) : List ByteArray := uniteFrom (uniteFrom [] a) b
theorem unite_len : ∀ (xs out : List ByteArray), (uniteFrom out xs).length ≤ out.length + xs.length := by
 intro xs
 induction xs with
 | nil => intro out; simp [uniteFrom]
 | cons x r ih =>
  intro out
  rw [uniteFrom]
  split
  · have := ih out; simp only [List.length_cons]; omega
  have := ih (out ++ [x]); simp only [List.length_append, List.length_cons, List.length_nil] at this ⊢; omega
open Go Go.RowKit
theorem sizeN (s : ByteArray) : s.data.toList.length = s.size := Array.length_toList
theorem drop_at (s : ByteArray) (k : Nat) (h : k < s.size) : s.data.toList.drop k = s[k] :: s.data.toList.drop (k + 1) := by
 rw [List.drop_eq_getElem_cons (by rw [sizeN]; exact h)]; rfl
def tail1 (s : ByteArray) : Bool := tailL (s.data.toList.drop 1)
theorem tail_any (s : ByteArray) (w : World) (hs : s.size ≤ 1048576) (h1 : 1 ≤ s.size) :
 Calls Tryz.prog 65 #[.string s, .int .i64 1] w fun e w' => e = .returned (.bool (tail1 s)) ∧ w = w' := by
 go_enter Tryz.func65, Tryz.ntmps65
 go_wp2
 go_loop [5] (fun i => ∃ k : Nat, 1 ≤ k ∧ k ≤ s.size ∧ i = .int .i64 (k : Int) ∧ Hid (tail1 s = tailL (s.data.toList.drop k))) (fun i => s.size - (intOf i).toNat)
 case atStart => exact ⟨1, Nat.le_refl _, h1, rfl, zH rfl⟩
 case round =>
  obtain ⟨k, hk0, hk, rfl, HK⟩ := hrel
  by_cases hlt : k < s.size
  · have HD := zH (drop_at s k hlt)
    have hc : 0 ≤ (s[k].toNat : Int) ∧ (s[k].toNat : Int) ≤ 255 := by have := s[k].toNat_lt; omega
    by_cases ha : 97 ≤ (s[k].toNat : Int) ∧ (s[k].toNat : Int) ≤ 122
    · obtain ⟨ha1, ha2⟩ := ha
      have HT := zH (tail_step _ k _ HD.out (tail_yes (Or.inl ⟨by omega, by omega⟩)))
      go_wp2
      go_round
      case rel => exact ⟨k + 1, by omega, by omega, by go_num, zH (HK.out.trans HT.out)⟩
      case measure => simp [intOf]; omega
    by_cases hb : 48 ≤ (s[k].toNat : Int) ∧ (s[k].toNat : Int) ≤ 57
    · obtain ⟨hb1, hb2⟩ := hb
      have HT := zH (tail_step _ k _ HD.out (tail_yes (Or.inr ⟨by omega, by omega⟩)))
      clear ha
      go_wp2
      go_round
      case rel => exact ⟨k + 1, by omega, by omega, by go_num, zH (HK.out.trans HT.out)⟩
      case measure => simp [intOf]; omega
    have hcase : (s[k].toNat : Int) < 48 ∨ (57 < (s[k].toNat : Int) ∧ (s[k].toNat : Int) < 97) ∨ 122 < (s[k].toNat : Int) := by omega
    have HT := zH (tail_stop _ k _ HD.out (tail_not (by omega)))
    clear ha hb
    rcases hcase with h | ⟨h, h'⟩ | h
    · go_wp2
      go_ret
      exact ⟨by rw [HK.out, HT.out]; rfl, rfl⟩
    · have hd : decide ((s[k].toNat : Int) ≤ 57) = false := by simp; omega
      go_wp2
      go_ret
      exact ⟨by rw [HK.out, HT.out]; rfl, rfl⟩
    have hd : decide ((s[k].toNat : Int) ≤ 57) = false := by simp; omega
    have hd2 : decide ((s[k].toNat : Int) ≤ 122) = false := by simp; omega
    go_wp2
    go_ret
    exact ⟨by rw [HK.out, HT.out]; rfl, rfl⟩
  have HE := zH (show tailL (s.data.toList.drop k) = true by rw [List.drop_eq_nil_of_le (by rw [sizeN]; omega)]; rfl)
  go_wp2
  go_ret
  exact ⟨by rw [HK.out, HE.out]; rfl, rfl⟩
theorem bytes_eq {x s : ByteArray} (h : x.data.toList = s.data.toList) : x = s := by
 have e1 : x.data = s.data := Array.toList_inj.1 h
 cases x; cases s
 simp only at e1
 rw [e1]
theorem beq_yes {x s : ByteArray} (h : x = s) : (x.toList == s.toList) = true := by rw [h]; simp
theorem beq_no {x s : ByteArray} (h : ¬ x = s) : (x.toList == s.toList) = false := by
 cases hb : (x.toList == s.toList) with
 | false => rfl
 | true =>
  rw [beq_iff_eq, ByteArray.toList_eq, ByteArray.toList_eq] at hb
  exact absurd (bytes_eq hb) h
theorem idx_here (xs : List ByteArray) (s : ByteArray) (k : Nat) (x : ByteArray) (h : xs[k]? = some x) : (x = s → idxFrom s k (xs.drop k) = k) ∧ (¬ x = s → idxFrom s k (xs.drop k) = idxFrom s (k + 1) (xs.drop (k + 1))) := by
 have hk : k < xs.length := (List.getElem?_eq_some_iff.1 h).1
 have e : xs[k] = x := (List.getElem?_eq_some_iff.1 h).2
 rw [List.drop_eq_getElem_cons hk, e]
 exact ⟨fun h => by rw [idxFrom, if_pos h], fun h => by rw [idxFrom, if_neg h]⟩
theorem idx_any (A : Option Addr) (xs : List ByteArray) (cap : Nat) (s : ByteArray) (w : World) (hs : Strs w A xs) (hn : xs.length ≤ 140737488355328) :
 Calls Tryz.prog 66 #[.slice A xs.length cap, .string s] w fun e w' => e = .returned (.int .i64 (idx xs s)) ∧ w = w' := by
 obtain ⟨n, hnn⟩ : ∃ n, n = xs.length := ⟨_, rfl⟩
 have HN := zH hnn
 have HS := zH hs
 rw [← hnn]
 rw [← hnn] at hn
 clear hs hnn
 go_enter Tryz.func66, Tryz.ntmps66
 go_wp2
 go_loop [5] (fun i => ∃ k : Nat, k ≤ n ∧ i = .int .i64 (k : Int) ∧ Hid (idx xs s = idxFrom s k (xs.drop k))) (fun i => n - (intOf i).toNat)
 case atStart => exact ⟨0, Nat.zero_le _, rfl, zH rfl⟩
 case round =>
  obtain ⟨k, hk, rfl, HK⟩ := hrel
  by_cases hlt : k < n
  · obtain ⟨a, x, rfl, hc, -, hx, -, -⟩ := HS.out.get k (by rw [← HN.out]; exact hlt)
    have HD := zH (idx_here xs s k x hx)
    clear hx
    by_cases e : x = s
    · have hb := beq_yes e
      have HE := zH (HK.out.trans (HD.out.1 e))
      clear e
      go_wp2
      go_ret
      exact ⟨by rw [HE.out]; rfl, rfl⟩
    have hb := beq_no e
    have HE := zH (HK.out.trans (HD.out.2 e))
    clear e
    go_wp2
    go_round
    case rel => exact ⟨k + 1, by omega, by go_num, HE⟩
    case measure => simp [intOf]; omega
  have HE := zH (show idxFrom s k (xs.drop k) = -1 by rw [List.drop_eq_nil_of_le (by rw [← HN.out]; omega)]; rfl)
  go_wp2
  go_ret
  exact ⟨by rw [HK.out, HE.out]; rfl, rfl⟩
theorem in_yes (x lo hi : Int) (w : World) (h0 : lo ≤ x) (h1 : x ≤ hi) :
 Calls Tryz.prog 64 #[.int .i64 x, .int .i64 lo, .int .i64 hi] w fun e w' => e = .returned (.bool true) ∧ w = w' := by
 go_enter Tryz.func64, Tryz.ntmps64
 go_wp2
 go_ret
 exact ⟨rfl, rfl⟩
theorem in_no (x lo hi : Int) (w : World) (h : x < lo ∨ hi < x) :
 Calls Tryz.prog 64 #[.int .i64 x, .int .i64 lo, .int .i64 hi] w fun e w' => e = .returned (.bool false) ∧ w = w' := by
 rcases h with h | h
 · go_enter Tryz.func64, Tryz.ntmps64
   go_wp2
   go_ret
   exact ⟨rfl, rfl⟩
 by_cases h2 : lo ≤ x
 · have hd : decide (x ≤ hi) = false := by simp; omega
   go_enter Tryz.func64, Tryz.ntmps64
   go_wp2
   go_ret
   exact ⟨rfl, rfl⟩
 go_enter Tryz.func64, Tryz.ntmps64
 go_wp2
 go_ret
 exact ⟨rfl, rfl⟩
theorem name_list (s : ByteArray) (h : 1 ≤ s.size) : s.data.toList = s[0] :: s.data.toList.drop 1 := by
 have := drop_at s 0 h
 simpa using this
theorem name_in (lo hi : Nat) (s : ByteArray) (h : 1 ≤ s.size) (h6 : s.size ≤ 6) (h0 : lo ≤ s[0].toNat) (h1 : s[0].toNat ≤ hi) : nameL lo hi s.data.toList = tail1 s := by
 have e := name_list s h
 have hl : (s.data.toList.drop 1).length ≤ 5 := by rw [List.length_drop, sizeN]; omega
 unfold tail1
 generalize s.data.toList.drop 1 = r at *
 rw [e]
 simp [nameL, hl, h0, h1]
theorem name_first (lo hi : Nat) (s : ByteArray) (h : 1 ≤ s.size) (h0 : s[0].toNat < lo ∨ hi < s[0].toNat) : nameL lo hi s.data.toList = false := by
 have e := name_list s h
 generalize s.data.toList.drop 1 = r at *
 rw [e]
 simp only [nameL, Bool.and_eq_false_iff, decide_eq_false_iff_not]
 omega
theorem name_size (lo hi : Nat) (s : ByteArray) (h : s.size < 1 ∨ 6 < s.size) : nameL lo hi s.data.toList = false := by
 by_cases h1 : s.size < 1
 · have : s.data.toList = [] := List.eq_nil_of_length_eq_zero (by rw [sizeN]; omega)
   rw [this]; rfl
 have e := name_list s (by omega)
 have hl : ¬ (s.data.toList.drop 1).length ≤ 5 := by rw [List.length_drop, sizeN]; omega
 generalize s.data.toList.drop 1 = r at *
 rw [e]
 simp [nameL, hl]
theorem isname_any (s : ByteArray) (w : World) (hs : s.size ≤ 1048576) :
 Calls Tryz.prog 39 #[.string s] w fun e w' => e = .returned (.bool (nameL 97 122 s.data.toList)) ∧ w = w' := by
 by_cases hsz : s.size < 1 ∨ 6 < s.size
 · have HE := zH (name_size 97 122 s hsz)
   have HA := zH (in_no (s.size : Int) 1 6 w (by omega))
   clear hsz
   rw [HE.out]
   go_enter Tryz.func39, Tryz.ntmps39
   go_wp2_with (go_at_call 64; refine HA.out.mono ?_; rintro e w' ⟨rfl, rfl⟩)
   go_ret
   exact ⟨rfl, rfl⟩
 have h1 : 1 ≤ s.size := by omega
 have h6 : s.size ≤ 6 := by omega
 have hp : 0 < s.size := by omega
 have HA := zH (in_yes (s.size : Int) 1 6 w (by omega) (by omega))
 have HT := zH (tail_any s w hs h1)
 clear hsz
 by_cases h0 : (s[0].toNat : Int) < 97
 · have HE := zH (name_first 97 122 s h1 (Or.inl (by omega)))
   rw [HE.out]
   go_enter Tryz.func39, Tryz.ntmps39
   go_wp2_with (go_at_call 64; refine HA.out.mono ?_; rintro e w' ⟨rfl, rfl⟩)
   go_ret
   exact ⟨rfl, rfl⟩
 by_cases h2 : 122 < (s[0].toNat : Int)
 · have HE := zH (name_first 97 122 s h1 (Or.inr (by omega)))
   have hd : decide ((s[0].toNat : Int) ≤ 122) = false := by simp; omega
   rw [HE.out]
   go_enter Tryz.func39, Tryz.ntmps39
   go_wp2_with (go_at_call 64; refine HA.out.mono ?_; rintro e w' ⟨rfl, rfl⟩)
   go_ret
   exact ⟨rfl, rfl⟩
 have HE := zH (name_in 97 122 s h1 h6 (by omega) (by omega))
 rw [HE.out]
 go_enter Tryz.func39, Tryz.ntmps39
 go_wp2_with (first | (go_at_call 64; refine HA.out.mono ?_; rintro e w' ⟨rfl, rfl⟩) | (go_at_call 65; refine HT.out.mono ?_; rintro e w' ⟨rfl, rfl⟩))
 go_ret
 exact ⟨by simp, rfl⟩
theorem iscon_any (s : ByteArray) (w : World) (hs : s.size ≤ 1048576) :
 Calls Tryz.prog 38 #[.string s] w fun e w' => e = .returned (.bool (nameL 65 90 s.data.toList)) ∧ w = w' := by
 by_cases hsz : s.size < 1 ∨ 6 < s.size
 · have HE := zH (name_size 65 90 s hsz)
   have HA := zH (in_no (s.size : Int) 1 6 w (by omega))
   clear hsz
   rw [HE.out]
   go_enter Tryz.func38, Tryz.ntmps38
   go_wp2_with (go_at_call 64; refine HA.out.mono ?_; rintro e w' ⟨rfl, rfl⟩)
   go_ret
   exact ⟨rfl, rfl⟩
 have h1 : 1 ≤ s.size := by omega
 have h6 : s.size ≤ 6 := by omega
 have hp : 0 < s.size := by omega
 have HA := zH (in_yes (s.size : Int) 1 6 w (by omega) (by omega))
 have HT := zH (tail_any s w hs h1)
 clear hsz
 by_cases h0 : (s[0].toNat : Int) < 65
 · have HE := zH (name_first 65 90 s h1 (Or.inl (by omega)))
   rw [HE.out]
   go_enter Tryz.func38, Tryz.ntmps38
   go_wp2_with (go_at_call 64; refine HA.out.mono ?_; rintro e w' ⟨rfl, rfl⟩)
   go_ret
   exact ⟨rfl, rfl⟩
 by_cases h2 : 90 < (s[0].toNat : Int)
 · have HE := zH (name_first 65 90 s h1 (Or.inr (by omega)))
   have hd : decide ((s[0].toNat : Int) ≤ 90) = false := by simp; omega
   rw [HE.out]
   go_enter Tryz.func38, Tryz.ntmps38
   go_wp2_with (go_at_call 64; refine HA.out.mono ?_; rintro e w' ⟨rfl, rfl⟩)
   go_ret
   exact ⟨rfl, rfl⟩
 have HE := zH (name_in 65 90 s h1 h6 (by omega) (by omega))
 rw [HE.out]
 go_enter Tryz.func38, Tryz.ntmps38
 go_wp2_with (first | (go_at_call 64; refine HA.out.mono ?_; rintro e w' ⟨rfl, rfl⟩) | (go_at_call 65; refine HT.out.mono ?_; rintro e w' ⟨rfl, rfl⟩))
 go_ret
 exact ⟨by simp, rfl⟩
end Go.Proofs.YthljhiklpopmgaaGreatDoor
